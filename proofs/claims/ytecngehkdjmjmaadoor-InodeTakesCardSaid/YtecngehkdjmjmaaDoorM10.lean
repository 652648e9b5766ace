/- Inodes: whether one may be (program and document); of; the block less what may not be. -/
import Derived.Test.YtecngehkdjmjmaaDoorM09
import Derived.Great.BuildSlice
namespace Go.Proofs.YtecngehkdjmjmaaDoor
open Go.RowKit

theorem mayI_link {n : Ino} (h : n.kind = 3) : mayI n = (decide (1 ≤ n.size) && decide (n.size ≤ 128) && rootI n.root) := by
  have hz : eqI n zeroI = false := by
    rw [Bool.eq_false_iff]
    intro e
    rw [eqI_iff.1 e] at h
    cases h
  unfold mayI
  rw [hz, h]
  by_cases h1 : 1 ≤ n.size
  · by_cases h2 : n.size ≤ 128
    · have h3 : n.size ≤ 32768 := by omega
      simp [h1, h2, h3]
    · simp [h2]
  · simp [h1]
theorem mayI_fd {n : Ino} (h : n.kind = 1 ∨ n.kind = 2) : mayI n = (decide (n.size ≤ 32768) && rootI n.root) := by
  have hz : eqI n zeroI = false := by
    rw [Bool.eq_false_iff]
    intro e
    rw [eqI_iff.1 e] at h
    rcases h with h | h <;> cases h
  unfold mayI
  have h3 : 1 ≤ n.kind ∧ n.kind ≤ 3 := by omega
  have h4 : ¬ n.kind = 3 := by omega
  rw [hz]
  simp [h3, h4]
theorem mayI_other {n : Ino} (h : n.kind < 1 ∨ 3 < n.kind) : mayI n = eqI n zeroI := by
  unfold mayI
  have h3 : ¬ (1 ≤ n.kind ∧ n.kind ≤ 3) := by omega
  rw [decide_eq_false h3]
  simp
set_option maxRecDepth 100000 in
set_option maxHeartbeats 4000000 in
theorem imay_any (n : Ino) (h : n.OK) (w : World) (hT : RTab w) : Calls Tryd.prog 9 #[.agg (icells n).toArray] w fun e w' => e = .returned (.bool (mayI n)) ∧ Below w.heap.size w w' := by
  have HN := Lib.hid h
  have HB := Lib.hid (Blk.new w (icells n) 32)
  have HW : Hid (Below w.heap.size w (w.alloc (.cells (icells n).toArray 32))) := Lib.hid ((Below.refl _ _).alloc (Nat.le_refl _) _)
  have HT := Lib.hid (hT.alloc (.cells (icells n).toArray 32))
  obtain ⟨b, hb⟩ : ∃ b, mayI n = b := ⟨_, rfl⟩
  have HRB := Lib.hid hb
  rw [hb]
  generalize hPost : (fun e w' => e = Ending.returned (.bool b) ∧ Below w.heap.size w w') = Post
  have HP : Hid (∀ c, b = c → ∀ w', Below w.heap.size w w' → Post (.returned (.bool c)) w') := Lib.hid fun c hc w' h => by rw [← hPost, hc]; exact ⟨rfl, h⟩
  clear h hT hb hPost
  go_enter Tryd.func9, Tryd.ntmps9
  go_upto_region 1 with fail
  obtain ⟨G, hG⟩ : ∃ G, w.heap.size = G := ⟨_, rfl⟩
  rw [hG] at HB ⊢
  generalize (w.alloc (.cells (icells n).toArray 32)) = W at HB HW HT ⊢
  have c0 := HB.out.cell (j := 0) rfl
  have c2 := HB.out.cell (j := 2) rfl
  have HC : Hid (∀ {w2}, Below W.heap.size W w2 → Below w.heap.size w w2) := Lib.hid (fun hb => HW.out.trans (hb.mono HW.out.size))
  have HRC := Lib.hid (rooted_any n HN.out W HT.out)
  have HK1 : Hid (n.kind = 3 → b = (decide (1 ≤ n.size) && decide (n.size ≤ 128) && rootI n.root)) := Lib.hid (fun h => HRB.out.symm.trans (mayI_link h))
  have HK2 : Hid (n.kind = 1 ∨ n.kind = 2 → b = (decide (n.size ≤ 32768) && rootI n.root)) := Lib.hid (fun h => HRB.out.symm.trans (mayI_fd h))
  have HK3 : Hid (n.kind < 1 ∨ 3 < n.kind → b = eqI n zeroI) := Lib.hid (fun h => HRB.out.symm.trans (mayI_other h))
  obtain ⟨kk, hkk⟩ : ∃ k, n.kind = k := ⟨_, rfl⟩
  obtain ⟨ss, hss⟩ : ∃ k, n.size = k := ⟨_, rfl⟩
  rw [hkk] at c0 HK1 HK2 HK3
  rw [hss] at c2 HK1 HK2
  obtain ⟨rr, hrr⟩ : ∃ r, rootI n.root = r := ⟨_, rfl⟩
  rw [hrr] at HK1 HK2 HRC
  clear hkk hss hG hrr
  by_cases h3 : kk = 3
  · have HV := Lib.hid (HK1.out h3)
    clear HK1 HK2 HK3
    subst h3
    by_cases s1 : ss < 1
    · have hv : b = false := by rw [HV.out, decide_eq_false (by omega)]; rfl
      have HE := Lib.hid (HP.out _ hv _ HW.out)
      have i1 : (ss : Int) < 1 := by omega
      clear HV hv s1 HRC
      go_wp2_with fail
      first | exact HE.out | (go_ret; exact HE.out)
    · have i1 : ¬ (ss : Int) < 1 := by omega
      have i1' : decide ((ss : Int) < 1) = false := decide_eq_false i1
      by_cases s2 : 128 < ss
      · have hv : b = false := by rw [HV.out, decide_eq_false (by omega : ¬ ss ≤ 128)]; simp
        have HE := Lib.hid (HP.out _ hv _ HW.out)
        have i2 : (128 : Int) < (ss : Int) := by omega
        clear HV hv s1 s2 HRC
        go_wp2_with fail
        first | exact HE.out | (go_ret; exact HE.out)
      · have hv : b = rr := by rw [HV.out, decide_eq_true (by omega), decide_eq_true (by omega)]; rfl
        have i2 : ¬ (128 : Int) < (ss : Int) := by omega
        have i2' : decide ((128 : Int) < (ss : Int)) = false := decide_eq_false i2
        have i3 : (ss : Int) ≤ 32768 := by omega
        have HBV := Lib.hid hv
        clear HV hv s1 s2
        go_wp2_with (first | (refine wpL_valG (by rfl) (ex_ldIn HN.out HB.out rfl rfl) ?_) | fail)
        refine HRC.out.mono ?_
        rintro e w2 ⟨rfl, hb2⟩
        have HE := Lib.hid (HP.out _ HBV.out _ (HC.out hb2))
        clear hb2 HRC HBV HRB
        go_wp2_with fail
        first | exact HE.out | (go_ret; exact HE.out)
  · have j3 : ¬ (kk : Int) = 3 := by omega
    by_cases h12 : kk = 1 ∨ kk = 2
    · have HV := Lib.hid (HK2.out h12)
      clear HK1 HK2 HK3 h3
      by_cases s1 : 32768 < ss
      · have hv : b = false := by rw [HV.out, decide_eq_false (by omega)]; rfl
        have HE := Lib.hid (HP.out _ hv _ HW.out)
        have i1 : ¬ (ss : Int) ≤ 32768 := by omega
        have i1' : decide ((ss : Int) ≤ 32768) = false := decide_eq_false i1
        clear HV hv s1 HRC
        rcases h12 with h | h
        · subst h
          go_wp2_with fail
          first | exact HE.out | (go_ret; exact HE.out)
        · subst h
          go_wp2_with fail
          first | exact HE.out | (go_ret; exact HE.out)
      · have hv : b = rr := by rw [HV.out, decide_eq_true (by omega)]; rfl
        have i3 : (ss : Int) ≤ 32768 := by omega
        have HBV := Lib.hid hv
        clear HV hv s1
        rcases h12 with h | h
        · subst h
          go_wp2_with (first | (refine wpL_valG (by rfl) (ex_ldIn HN.out HB.out rfl rfl) ?_) | fail)
          refine HRC.out.mono ?_
          rintro e w2 ⟨rfl, hb2⟩
          have HE := Lib.hid (HP.out _ HBV.out _ (HC.out hb2))
          clear hb2 HRC HBV HRB
          go_wp2_with fail
          first | exact HE.out | (go_ret; exact HE.out)
        · subst h
          go_wp2_with (first | (refine wpL_valG (by rfl) (ex_ldIn HN.out HB.out rfl rfl) ?_) | fail)
          refine HRC.out.mono ?_
          rintro e w2 ⟨rfl, hb2⟩
          have HE := Lib.hid (HP.out _ HBV.out _ (HC.out hb2))
          clear hb2 HRC HBV HRB
          go_wp2_with fail
          first | exact HE.out | (go_ret; exact HE.out)
    · have j1 : ¬ (kk : Int) = 1 := by omega
      have j2 : ¬ (kk : Int) = 2 := by omega
      have HV := Lib.hid (HK3.out (by omega))
      have HZ : Hid (eqI n zeroI = b) := Lib.hid HV.out.symm
      have HE := Lib.hid (HP.out _ rfl _ HW.out)
      clear HK1 HK2 HK3 h3 h12 HV HRC HRB
      go_wp2_with (first | (refine wpL_valG (by rfl) (ex_ldIn HN.out HB.out rfl rfl) ?_) | (refine wpL_valG (by rfl) (ex_bldI0 rfl) ?_) | (refine wpL_valG (by rfl) (ex_eqIb HZ.out rfl rfl rfl HN.out zeroI_ok) ?_) | fail)
      first | exact HE.out | (go_ret; exact HE.out)
end Go.Proofs.YtecngehkdjmjmaaDoor
/- Inodes: of; the document's May; the block less what may not be. -/
namespace Go.Proofs.YtecngehkdjmjmaaDoor
open Go.RowKit

theorem fold_splice (off : Nat) (vs : List Value) (cs : Array Value) (h : off + vs.length ≤ cs.size) : (vs.zipIdx 0).foldl (fun cs (x : Value × Nat) => cs.setIfInBounds (off + x.2) x.1) cs = (splice cs.toList off vs).toArray := by
  obtain ⟨h1, h2⟩ := Go.Great.foldl_set off vs 0 cs
  apply Array.ext_getElem?
  intro k
  rw [h2 k]
  simp only [List.getElem?_toArray, splice, Nat.add_zero]
  by_cases hk : k < off
  · rw [if_neg (by omega), List.getElem?_append_left (by simp; omega), List.getElem?_take, if_pos hk]
    simp
  · rw [List.getElem?_append_right (by simp; omega)]
    have e : (cs.toList.take off).length = off := by simp; omega
    rw [e]
    by_cases hk2 : k < off + vs.length
    · rw [if_pos (by omega), List.getElem?_append_left (by omega)]
    · rw [if_neg (by omega), List.getElem?_append_right (by omega), List.getElem?_drop]
      rw [show off + vs.length + (k - off - vs.length) = k by omega]
      simp
theorem fill_whole {pl : Nat → Option (Nat × Nat)} {cells : Array Value} {size : Nat} {v : Value} (hp : pl 0 = some (0, size)) (hv : v.cells.size = size) (hle : cells.size = size) :
    Instr.fill pl cells [(0, v)] = some v.cells := by
  have hf := fold_splice 0 v.cells.toList cells (by simp; omega)
  unfold Instr.fill
  simp only [hp]
  rw [if_neg (by simp [hv]; omega)]
  unfold Instr.fill
  congr 1
  have e : splice cells.toList 0 v.cells.toList = v.cells.toList := by
    unfold splice
    rw [List.drop_of_length_le (by simp; omega)]
    simp
  rw [e] at hf
  rw [← Array.foldl_toList]
  simpa using hf
theorem fill_oneL {pl : Array (Nat × Nat)} {cells : Array Value} {i off size : Nat} {v : Value} (hp : pl[i]? = some (off, size)) (hv : v.cells.size = size) (hle : off + size ≤ cells.size) (rest : List (Nat × Value)) :
    Instr.fill (pl[·]?) cells ((i, v) :: rest) = Instr.fill (pl[·]?) (splice cells.toList off v.cells.toList).toArray rest := by
  have hf := fold_splice off v.cells.toList cells (by simp; omega)
  conv => lhs; unfold Instr.fill
  simp only [hp]
  rw [if_neg (by simp [hv]; omega)]
  congr 1
  rw [← hf]
  rw [← Array.foldl_toList]
  simp
theorem builtI (parts : List (Nat × Value)) : Tryd.prog.built 32 parts = Instr.fill ((#[(0, 1), (1, 1), (2, 1), (3, 41)] : Array (Nat × Nat))[·]?) (icells zeroI).toArray parts := by kernel_rfl
theorem ex_bldI {ρ : Operand → Value} {o : Oper} {x y z u : Operand} {w : World} {n : Ino} (hn : n.OK) (ho : o.op = .build 32 #[(0, x), (1, y), (2, z), (3, u)]) (hx : ρ x = .int .u8 (n.kind : Int)) (hy : ρ y = .int .u16 (n.links : Int)) (hz : ρ z = .int .u32 (n.size : Int)) (hu : ρ u = .agg (pcells n.root).toArray) : (execOp ρ o).run Tryd.prog w = .ok (.value (.agg (icells n).toArray)) w := by
  have hl := pcells_length hn.root
  have hz0 : (icells zeroI).toArray.size = 44 := by rw [List.size_toArray]; exact icells_length zeroI_ok
  have hzl : ∀ (a b c : Value), ([a, b, c] ++ pcells zeroP).toArray.size = 44 := fun a b c => by rw [List.size_toArray, List.length_append, pcells_length zeroP_ok]; rfl
  have hr : (Instr.build 32 #[(0, .int .u8 (n.kind : Int)), (1, .int .u16 (n.links : Int)), (2, .int .u32 (n.size : Int)), (3, .agg (pcells n.root).toArray)]).run Tryd.prog w = .ok (.agg (icells n).toArray) w := run_build w 32 _ _ (by
    rw [builtI]
    show Instr.fill _ _ [(0, .int .u8 (n.kind : Int)), (1, .int .u16 (n.links : Int)), (2, .int .u32 (n.size : Int)), (3, .agg (pcells n.root).toArray)] = _
    rw [fill_oneL (i := 0) (off := 0) (size := 1) rfl rfl (by rw [hz0]; omega)]
    have e1 : splice (icells zeroI).toArray.toList 0 (Value.int .u8 (n.kind : Int)).cells.toList = ([.int .u8 (n.kind : Int), .int .u16 0, .int .u32 0] : List Value) ++ pcells zeroP := rfl
    rw [e1, fill_oneL (i := 1) (off := 1) (size := 1) rfl rfl (by rw [hzl]; omega)]
    have e2 : splice (([.int .u8 (n.kind : Int), .int .u16 0, .int .u32 0] : List Value) ++ pcells zeroP).toArray.toList 1 (Value.int .u16 (n.links : Int)).cells.toList = ([.int .u8 (n.kind : Int), .int .u16 (n.links : Int), .int .u32 0] : List Value) ++ pcells zeroP := rfl
    rw [e2, fill_oneL (i := 2) (off := 2) (size := 1) rfl rfl (by rw [hzl]; omega)]
    have e3 : splice (([.int .u8 (n.kind : Int), .int .u16 (n.links : Int), .int .u32 0] : List Value) ++ pcells zeroP).toArray.toList 2 (Value.int .u32 (n.size : Int)).cells.toList = inums n ++ pcells zeroP := rfl
    rw [e3, fill_oneL (i := 3) (off := 3) (size := 41) rfl (by simp [Value.cells, hl]) (by unfold inums; rw [hzl]; omega)]
    have e4 : splice (inums n ++ pcells zeroP).toArray.toList 3 (Value.agg (pcells n.root).toArray).cells.toList = icells n := by
      unfold splice
      show (inums n ++ pcells zeroP).take 3 ++ pcells n.root ++ (inums n ++ pcells zeroP).drop (3 + (pcells n.root).length) = inums n ++ pcells n.root
      rw [List.take_left' (by rfl), List.drop_of_length_le (by simp [hl, pcells_length zeroP_ok, inums]), List.append_nil]
    rw [e4]
    rfl)
  unfold execOp
  simp only [ho]
  rw [show (Array.map (fun x : Nat × Operand => (x.1, ρ x.2)) #[(0, x), (1, y), (2, z), (3, u)]) = #[(0, .int .u8 (n.kind : Int)), (1, .int .u16 (n.links : Int)), (2, .int .u32 (n.size : Int)), (3, .agg (pcells n.root).toArray)] by simp [hx, hy, hz, hu]]
  simp only [Sem.run_bind, hr, Result.andThen_ok, Sem.run_pure]
structure OfW (n : Ino) (w W : World) : Prop where
  a : Blk W w.heap.size (icells n) 30
  r : Blk W (w.heap.size + 1) (icells zeroI) 32
  b : Below w.heap.size w W
set_option maxRecDepth 100000 in
set_option maxHeartbeats 4000000 in
theorem of_any (n : Ino) (h : n.OK) (w : World) : Calls Tryd.prog 7 #[.agg (icells n).toArray] w fun e w' => e = .returned (.agg (icells n).toArray) ∧ Below w.heap.size w w' := by
  have HN := Lib.hid h
  have HX : Hid (∀ z, z = (icells zeroI).toArray → OfW n w ((w.alloc (.cells (icells n).toArray 30)).alloc (.cells z 32))) := Lib.hid (fun z hz => by
    subst hz
    exact ⟨(Blk.new _ _ _).alloc _, Blk.new' _ _ _ _ _ (by simp) rfl, ((Below.refl _ _).alloc (Nat.le_refl _) _).alloc (by simp) _⟩)
  have HSZ := Lib.hid (size_icI h)
  have HZZ : Hid ((icells zeroI).toArray.size = (icells n).toArray.size) := Lib.hid (by rw [List.size_toArray, List.size_toArray, icells_length h, icells_length zeroI_ok])
  clear h
  go_enter Tryd.func7, Tryd.ntmps7
  go_upto_region 1 with fail
  refine (fun (k : ∀ W, OfW n w W → Code.wp _ _ _ _ W) => k _ (HX.out _ rfl)) ?_
  intro W hW
  have HA := Lib.hid hW.a; have HR := Lib.hid hW.r; have HB := Lib.hid hW.b
  clear hW HX
  have c0 := HA.out.cell (j := 0) rfl
  have c1 := HA.out.cell (j := 1) rfl
  have c2 := HA.out.cell (j := 2) rfl
  go_wp2_with (first | (refine wpL_valG (by rfl) (ex_ldRtR HN.out HA.out rfl rfl) ?_) | (refine wpL_val rfl (ex_bldI HN.out rfl rfl rfl rfl rfl) ?_) | (refine wpList_store_row rfl 32 (.tmp 2) (.tmp 11) rfl (w.heap.size + 1) (icells n).toArray rfl rfl 32 _ HR.out HSZ.out HZZ.out (one_ic n) ?_) | fail)
  exact bodyPost_ret (results_cell_row Tryd.results7 _ _ (w.heap.size + 1) 32 _ _ _ rfl (HR.out.row _) Tryd.underlying32 rfl HSZ.out) rfl ⟨rfl, below_row HB.out (by omega) _⟩
end Go.Proofs.YtecngehkdjmjmaaDoor
