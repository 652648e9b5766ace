/- Inodes: Leaf, Count, of; whether one may be, as the program and as the document say it. -/
import Derived.Test.YtjgjohdeeeoeoaaGreatDoorM27
import Derived.Test.YtjgjohdeeeoeoaaGreatDoorM24
import Derived.Great.BuildSlice
namespace Go.Proofs.YtjgjohdeeeoeoaaGreatDoor
open Go.RowKit
theorem ex_eqPbI {ρ : Operand → Value} {o : Oper} {x y : Operand} {p q : Pt} {z : Bool} {w : World} (hz : eqP p q = z) (ho : o.op = .binOp .eql 28 x y 28) (hx : ρ x = .agg (pcells p).toArray) (hy : ρ y = .agg (pcells q).toArray) (hp : p.OK) (hq : q.OK) : (execOp ρ o).run Tryz.prog w = .ok (.value (.bool z)) w := hz ▸ ex_eqP ho hx hy hp hq
theorem ex_eqIb {ρ : Operand → Value} {o : Oper} {x y : Operand} {p q : Ino} {z : Bool} {w : World} (hz : eqI p q = z) (ho : o.op = .binOp .eql 68 x y 68) (hx : ρ x = .agg (icells p).toArray) (hy : ρ y = .agg (icells q).toArray) (hp : p.OK) (hq : q.OK) : (execOp ρ o).run Tryz.prog w = .ok (.value (.bool z)) w := hz ▸ ex_eqIn hp hq ho hx hy
set_option maxRecDepth 100000 in
set_option maxHeartbeats 4000000 in
theorem rooted_any (n : Ino) (h : n.OK) (w : World) (hT : RTab w) : Calls Tryz.prog 87 #[.agg (icells n).toArray] w fun e w' => e = .returned (.bool (rootI n.root)) ∧ Below w.heap.size w w' := by
  have HN := Lib.hid h; have HPO := Lib.hid h.root
  have HB := Lib.hid (Blk.new w (icells n) 68)
  have HW : Hid (Below w.heap.size w (w.alloc (.cells (icells n).toArray 68))) := Lib.hid ((Below.refl _ _).alloc (Nat.le_refl _) _)
  have HT := Lib.hid (hT.alloc (.cells (icells n).toArray 68))
  obtain ⟨b, hb⟩ : ∃ b, rootI n.root = b := ⟨_, rfl⟩
  have HRB := Lib.hid hb
  rw [hb]
  generalize hPost : (fun e w' => e = Ending.returned (.bool b) ∧ Below w.heap.size w w') = Post
  have HP : Hid (∀ w', Below w.heap.size w w' → Post (.returned (.bool b)) w') := Lib.hid fun w' h => by rw [← hPost]; exact ⟨rfl, h⟩
  clear h hT hb hPost
  go_enter Tryz.func87, Tryz.ntmps87
  go_upto_region 1 with fail
  obtain ⟨G, hG⟩ : ∃ G, w.heap.size = G := ⟨_, rfl⟩
  rw [hG] at HB ⊢
  generalize (w.alloc (.cells (icells n).toArray 68)) = W at HB HW HT ⊢
  have c3 := HB.out.cell (j := 3) rfl
  have c4 := HB.out.cell (j := 4) rfl
  obtain ⟨kk, hkk⟩ : ∃ k, n.root.kind = k := ⟨_, rfl⟩
  obtain ⟨ll, hll⟩ : ∃ k, n.root.level = k := ⟨_, rfl⟩
  rw [hkk] at c3
  rw [hll] at c4
  have HK := Lib.hid hkk; have HLL := Lib.hid hll
  clear hkk hll hG
  cases hz : eqP n.root zeroP
  · have HZ := Lib.hid hz
    clear hz
    have HV : Hid (b = (decide (kk = 3) && decide (ll = 2) && mayP n.root)) := Lib.hid (by rw [← HRB.out]; unfold rootI; rw [HZ.out, HK.out, HLL.out]; rfl)
    by_cases h3 : kk = 3
    · subst h3
      by_cases h2 : ll = 2
      · subst h2
        have hv := HV.out
        simp only [decide_true, Bool.true_and] at hv
        subst hv
        go_wp2_with (first | (refine wpL_valG (by rfl) (ex_ldRtI HN.out HB.out rfl rfl) ?_) | (refine wpL_valG (by rfl) (ex_bld0 rfl) ?_) | (refine wpL_valG (by rfl) (ex_eqPbI HZ.out rfl rfl rfl HPO.out zeroP_ok) ?_) | fail)
        refine (may_any n.root HPO.out W HT.out).mono ?_
        rintro e w2 ⟨rfl, hb2⟩
        have HE := Lib.hid (HP.out _ (HW.out.trans (hb2.mono HW.out.size)))
        clear hb2
        go_wp2_with fail
        first | exact HE.out | (go_ret; exact HE.out)
      · have hv := HV.out
        rw [decide_eq_false h2] at hv
        simp only [Bool.and_false, Bool.false_and] at hv
        subst hv
        have i2 : ¬ (ll : Int) = 2 := by omega
        have HE := Lib.hid (HP.out _ HW.out)
        go_wp2_with (first | (refine wpL_valG (by rfl) (ex_ldRtI HN.out HB.out rfl rfl) ?_) | (refine wpL_valG (by rfl) (ex_bld0 rfl) ?_) | (refine wpL_valG (by rfl) (ex_eqPbI HZ.out rfl rfl rfl HPO.out zeroP_ok) ?_) | fail)
        first | exact HE.out | (go_ret; exact HE.out)
    · have hv := HV.out
      rw [decide_eq_false h3] at hv
      simp only [Bool.false_and] at hv
      subst hv
      have i3 : ¬ (kk : Int) = 3 := by omega
      have HE := Lib.hid (HP.out _ HW.out)
      go_wp2_with (first | (refine wpL_valG (by rfl) (ex_ldRtI HN.out HB.out rfl rfl) ?_) | (refine wpL_valG (by rfl) (ex_bld0 rfl) ?_) | (refine wpL_valG (by rfl) (ex_eqPbI HZ.out rfl rfl rfl HPO.out zeroP_ok) ?_) | fail)
      first | exact HE.out | (go_ret; exact HE.out)
  · have HZ := Lib.hid hz
    have hv : b = true := by rw [← HRB.out]; unfold rootI; rw [hz]; rfl
    clear hz
    subst hv
    have HE := Lib.hid (HP.out _ HW.out)
    go_wp2_with (first | (refine wpL_valG (by rfl) (ex_ldRtI HN.out HB.out rfl rfl) ?_) | (refine wpL_valG (by rfl) (ex_bld0 rfl) ?_) | (refine wpL_valG (by rfl) (ex_eqPbI HZ.out rfl rfl rfl HPO.out zeroP_ok) ?_) | fail)
    first | exact HE.out | (go_ret; exact HE.out)
theorem mayI_link {n : Ino} (h : n.kind = 3) : mayI n = (decide (1 ≤ n.size) && decide (n.size ≤ 128) && rootI n.root) := by
  have hz : eqI n zeroI = false := by
    rw [Bool.eq_false_iff]
    intro e
    rw [eqI_iff.1 e] at h
    cases h
  unfold mayI
  rw [hz, h]
  by_cases h1 : 1 ≤ n.size
  · by_cases h2 : n.size ≤ 128
    · have h3 : n.size ≤ 32768 := by omega
      simp [h1, h2, h3]
    · simp [h2]
  · simp [h1]
theorem mayI_fd {n : Ino} (h : n.kind = 1 ∨ n.kind = 2) : mayI n = (decide (n.size ≤ 32768) && rootI n.root) := by
  have hz : eqI n zeroI = false := by
    rw [Bool.eq_false_iff]
    intro e
    rw [eqI_iff.1 e] at h
    rcases h with h | h <;> cases h
  unfold mayI
  have h3 : 1 ≤ n.kind ∧ n.kind ≤ 3 := by omega
  have h4 : ¬ n.kind = 3 := by omega
  rw [hz]
  simp [h3, h4]
theorem mayI_other {n : Ino} (h : n.kind < 1 ∨ 3 < n.kind) : mayI n = eqI n zeroI := by
  unfold mayI
  have h3 : ¬ (1 ≤ n.kind ∧ n.kind ≤ 3) := by omega
  rw [decide_eq_false h3]
  simp
set_option maxRecDepth 100000 in
set_option maxHeartbeats 4000000 in
theorem imay_any (n : Ino) (h : n.OK) (w : World) (hT : RTab w) : Calls Tryz.prog 64 #[.agg (icells n).toArray] w fun e w' => e = .returned (.bool (mayI n)) ∧ Below w.heap.size w w' := by
  have HN := Lib.hid h
  have HB := Lib.hid (Blk.new w (icells n) 68)
  have HW : Hid (Below w.heap.size w (w.alloc (.cells (icells n).toArray 68))) := Lib.hid ((Below.refl _ _).alloc (Nat.le_refl _) _)
  have HT := Lib.hid (hT.alloc (.cells (icells n).toArray 68))
  obtain ⟨b, hb⟩ : ∃ b, mayI n = b := ⟨_, rfl⟩
  have HRB := Lib.hid hb
  rw [hb]
  generalize hPost : (fun e w' => e = Ending.returned (.bool b) ∧ Below w.heap.size w w') = Post
  have HP : Hid (∀ c, b = c → ∀ w', Below w.heap.size w w' → Post (.returned (.bool c)) w') := Lib.hid fun c hc w' h => by rw [← hPost, hc]; exact ⟨rfl, h⟩
  clear h hT hb hPost
  go_enter Tryz.func64, Tryz.ntmps64
  go_upto_region 1 with fail
  obtain ⟨G, hG⟩ : ∃ G, w.heap.size = G := ⟨_, rfl⟩
  rw [hG] at HB ⊢
  generalize (w.alloc (.cells (icells n).toArray 68)) = W at HB HW HT ⊢
  have c0 := HB.out.cell (j := 0) rfl
  have c2 := HB.out.cell (j := 2) rfl
  have HC : Hid (∀ {w2}, Below W.heap.size W w2 → Below w.heap.size w w2) := Lib.hid (fun hb => HW.out.trans (hb.mono HW.out.size))
  have HRC := Lib.hid (rooted_any n HN.out W HT.out)
  have HK1 : Hid (n.kind = 3 → b = (decide (1 ≤ n.size) && decide (n.size ≤ 128) && rootI n.root)) := Lib.hid (fun h => HRB.out.symm.trans (mayI_link h))
  have HK2 : Hid (n.kind = 1 ∨ n.kind = 2 → b = (decide (n.size ≤ 32768) && rootI n.root)) := Lib.hid (fun h => HRB.out.symm.trans (mayI_fd h))
  have HK3 : Hid (n.kind < 1 ∨ 3 < n.kind → b = eqI n zeroI) := Lib.hid (fun h => HRB.out.symm.trans (mayI_other h))
  obtain ⟨kk, hkk⟩ : ∃ k, n.kind = k := ⟨_, rfl⟩
  obtain ⟨ss, hss⟩ : ∃ k, n.size = k := ⟨_, rfl⟩
  rw [hkk] at c0 HK1 HK2 HK3
  rw [hss] at c2 HK1 HK2
  obtain ⟨rr, hrr⟩ : ∃ r, rootI n.root = r := ⟨_, rfl⟩
  rw [hrr] at HK1 HK2 HRC
  clear hkk hss hG hrr
  by_cases h3 : kk = 3
  · have HV := Lib.hid (HK1.out h3)
    clear HK1 HK2 HK3
    subst h3
    by_cases s1 : ss < 1
    · have hv : b = false := by rw [HV.out, decide_eq_false (by omega)]; rfl
      have HE := Lib.hid (HP.out _ hv _ HW.out)
      have i1 : (ss : Int) < 1 := by omega
      clear HV hv s1 HRC
      go_wp2_with fail
      first | exact HE.out | (go_ret; exact HE.out)
    · have i1 : ¬ (ss : Int) < 1 := by omega
      have i1' : decide ((ss : Int) < 1) = false := decide_eq_false i1
      by_cases s2 : 128 < ss
      · have hv : b = false := by rw [HV.out, decide_eq_false (by omega : ¬ ss ≤ 128)]; simp
        have HE := Lib.hid (HP.out _ hv _ HW.out)
        have i2 : (128 : Int) < (ss : Int) := by omega
        clear HV hv s1 s2 HRC
        go_wp2_with fail
        first | exact HE.out | (go_ret; exact HE.out)
      · have hv : b = rr := by rw [HV.out, decide_eq_true (by omega), decide_eq_true (by omega)]; rfl
        have i2 : ¬ (128 : Int) < (ss : Int) := by omega
        have i2' : decide ((128 : Int) < (ss : Int)) = false := decide_eq_false i2
        have i3 : (ss : Int) ≤ 32768 := by omega
        have HBV := Lib.hid hv
        clear HV hv s1 s2
        go_wp2_with (first | (refine wpL_valG (by rfl) (ex_ldIn HN.out HB.out rfl rfl) ?_) | fail)
        refine HRC.out.mono ?_
        rintro e w2 ⟨rfl, hb2⟩
        have HE := Lib.hid (HP.out _ HBV.out _ (HC.out hb2))
        clear hb2 HRC HBV HRB
        go_wp2_with fail
        first | exact HE.out | (go_ret; exact HE.out)
  · have j3 : ¬ (kk : Int) = 3 := by omega
    by_cases h12 : kk = 1 ∨ kk = 2
    · have HV := Lib.hid (HK2.out h12)
      clear HK1 HK2 HK3 h3
      by_cases s1 : 32768 < ss
      · have hv : b = false := by rw [HV.out, decide_eq_false (by omega)]; rfl
        have HE := Lib.hid (HP.out _ hv _ HW.out)
        have i1 : ¬ (ss : Int) ≤ 32768 := by omega
        have i1' : decide ((ss : Int) ≤ 32768) = false := decide_eq_false i1
        clear HV hv s1 HRC
        rcases h12 with h | h
        · subst h
          go_wp2_with fail
          first | exact HE.out | (go_ret; exact HE.out)
        · subst h
          go_wp2_with fail
          first | exact HE.out | (go_ret; exact HE.out)
      · have hv : b = rr := by rw [HV.out, decide_eq_true (by omega)]; rfl
        have i3 : (ss : Int) ≤ 32768 := by omega
        have HBV := Lib.hid hv
        clear HV hv s1
        rcases h12 with h | h
        · subst h
          go_wp2_with (first | (refine wpL_valG (by rfl) (ex_ldIn HN.out HB.out rfl rfl) ?_) | fail)
          refine HRC.out.mono ?_
          rintro e w2 ⟨rfl, hb2⟩
          have HE := Lib.hid (HP.out _ HBV.out _ (HC.out hb2))
          clear hb2 HRC HBV HRB
          go_wp2_with fail
          first | exact HE.out | (go_ret; exact HE.out)
        · subst h
          go_wp2_with (first | (refine wpL_valG (by rfl) (ex_ldIn HN.out HB.out rfl rfl) ?_) | fail)
          refine HRC.out.mono ?_
          rintro e w2 ⟨rfl, hb2⟩
          have HE := Lib.hid (HP.out _ HBV.out _ (HC.out hb2))
          clear hb2 HRC HBV HRB
          go_wp2_with fail
          first | exact HE.out | (go_ret; exact HE.out)
    · have j1 : ¬ (kk : Int) = 1 := by omega
      have j2 : ¬ (kk : Int) = 2 := by omega
      have HV := Lib.hid (HK3.out (by omega))
      have HZ : Hid (eqI n zeroI = b) := Lib.hid HV.out.symm
      have HE := Lib.hid (HP.out _ rfl _ HW.out)
      clear HK1 HK2 HK3 h3 h12 HV HRC HRB
      go_wp2_with (first | (refine wpL_valG (by rfl) (ex_ldIn HN.out HB.out rfl rfl) ?_) | (refine wpL_valG (by rfl) (ex_bldI0 rfl) ?_) | (refine wpL_valG (by rfl) (ex_eqIb HZ.out rfl rfl rfl HN.out zeroI_ok) ?_) | fail)
      first | exact HE.out | (go_ret; exact HE.out)
def mixI (k : Nat) (ns : List Ino) : List Ino := allow (ns.take k) ++ ns.drop k
theorem mixI_zero (ns : List Ino) : mixI 0 ns = ns := by simp [mixI, allow]
theorem mixI_ok {ns : List Ino} (h : BOK ns) (k : Nat) : BOK (mixI k ns) := ⟨by simp [mixI, allow, h.len]; omega, fun p hp => by
  simp only [mixI, List.mem_append, allow, List.mem_map] at hp
  rcases hp with ⟨q, hq, rfl⟩ | hp
  · exact allowI_ok (h.ok q (List.mem_of_mem_take hq))
  · exact h.ok p (List.mem_of_mem_drop hp)⟩
theorem mixI_at {ns : List Ino} {k : Nat} {n : Ino} (hk : ns[k]? = some n) : (mixI k ns)[k]? = some n ∧ mixI (k + 1) ns = (mixI k ns).set k (allowI n) := by
  obtain ⟨hl, hn⟩ := List.getElem?_eq_some_iff.1 hk
  have e1 : mixI k ns = allow (ns.take k) ++ n :: ns.drop (k + 1) := by unfold mixI; rw [← hn, ← List.drop_eq_getElem_cons hl]
  have e2 : mixI (k + 1) ns = allow (ns.take k) ++ allowI n :: ns.drop (k + 1) := by unfold mixI; rw [itake_snoc hk]; simp [allow]
  have e3 : (allow (ns.take k)).length = k := by simp [allow]; omega
  rw [e1, e2]
  constructor
  · rw [List.getElem?_append_right (by omega), e3]; simp
  · rw [List.set_append_right _ _ (by omega), e3]; simp
theorem mixI_same {ns : List Ino} {k : Nat} {n : Ino} (hk : ns[k]? = some n) (h : mayI n = true) : mixI (k + 1) ns = mixI k ns := by
  obtain ⟨h1, h2⟩ := mixI_at hk
  rw [h2]
  unfold allowI
  rw [if_pos h]
  obtain ⟨hl, hn⟩ := List.getElem?_eq_some_iff.1 h1
  apply List.ext_getElem?
  intro j
  by_cases e : k = j
  · subst e; rw [List.getElem?_set_self hl, h1]
  · rw [List.getElem?_set_ne e]
theorem mixI_zeroed {ns : List Ino} {k : Nat} {n : Ino} (hk : ns[k]? = some n) (h : mayI n = false) : mixI (k + 1) ns = (mixI k ns).set k zeroI := by
  rw [(mixI_at hk).2]
  unfold allowI
  rw [h]
  rfl
theorem mixI_four {ns : List Ino} (h : BOK ns) : mixI 4 ns = allow ns := by
  unfold mixI
  rw [List.take_of_length_le (by rw [h.len]; omega), List.drop_of_length_le (by rw [h.len]; omega), List.append_nil]
theorem ex_bldIz {ρ : Operand → Value} {o : Oper} {w : World} {q : Ino} (hq : zeroI = q) (ho : o.op = .build 68 #[]) : (execOp ρ o).run Tryz.prog w = .ok (.value (.agg (icells q).toArray)) w := by subst hq; exact ex_bldI0 ho
structure AlW (ns : List Ino) (w W : World) : Prop where
  a : Blk W w.heap.size (bcells ns) 104
  r : Blk W (w.heap.size + 1) (bcells zeros4) 104
  b : Below w.heap.size w W
theorem AlW.grown {ns : List Ino} {w W W' : World} (h : AlW ns w W) (hb : Below W.heap.size W W') : AlW ns w W' := ⟨h.a.below hb h.a.lt, h.r.below hb h.r.lt, h.b.trans (hb.mono h.b.size)⟩
theorem AlW.put {ns : List Ino} {w W : World} (h : AlW ns w W) (hn : BOK ns) {k : Nat} (hk : k < 4) {q : Ino} (hq : q.OK) : AlW (ns.set k q) w (W.setCells w.heap.size (k * 44) (icells q)) :=
  ⟨blk_setI hn h.a hk (Nat.mul_comm k 44) hq, blk_setCells_other (by omega) _ _ _ _ h.r, below_setsI _ _ _ h.b (Nat.le_refl _)⟩
set_option maxRecDepth 100000 in
set_option maxHeartbeats 8000000 in
theorem allowed_any (ns : List Ino) (h : BOK ns) (w : World) (hT : RTab w) : Calls Tryz.prog 92 #[.agg (bcells ns).toArray] w fun e w' => e = .returned (.agg (bcells (allow ns)).toArray) ∧ Below w.heap.size w w' := by
  have HP := Lib.hid h; have HT := Lib.hid hT
  have HX : Hid (∀ z, z = (bcells zeros4).toArray → AlW ns w ((w.alloc (.cells (bcells ns).toArray 104)).alloc (.cells z 104))) := Lib.hid (fun z hz => by
    subst hz
    exact ⟨(Blk.new _ _ _).alloc _, Blk.new' _ _ _ _ _ (by simp) rfl, ((Below.refl _ _).alloc (Nat.le_refl _) _).alloc (by simp) _⟩)
  have HZO := Lib.hid zeros4_ok
  clear h hT
  go_enter Tryz.func92, Tryz.ntmps92
  go_upto_region 1 with fail
  refine (fun (k : ∀ W, AlW ns w W → Code.wp _ _ _ _ W) => k _ (HX.out _ rfl)) ?_
  intro W hW
  have HW := Lib.hid hW
  clear hW HX
  go_wp2_with (first | (refine wpL_val rfl (ex_ldBn HP.out HW.out.a rfl rfl) ?_) | fail)
  go_loopw [6] (fun i wr => ∃ k : Nat, k ≤ 4 ∧ i = .int .i64 (k : Int) ∧ AlW (mixI k ns) w wr) (fun i _ => 4 - (intOf i).toNat)
  case atStart => exact ⟨0, by omega, rfl, by rw [mixI_zero]; exact HW.out⟩
  case round =>
    clear HW
    obtain ⟨k, hk, rfl, hW⟩ := hrel
    have HW := Lib.hid hW
    have wk1 := IntWalk.i64_in ((k : Int) + 1) (by omega)
    clear hW
    by_cases hlt : k < 4
    · obtain ⟨n, hn⟩ := HP.out.get hlt
      have hix : ∀ W : World, (Instr.index 104 (.agg (bcells ns).toArray) (.int .i64 (k : Int))).run Tryz.prog W = .ok (.agg (icells n).toArray) W := fun W => run_ixI Tryz.underlying104 HP.out hn W
      have HNO := Lib.hid (HP.out.at hn)
      have HST := Lib.hid (size_icI HNO.out)
      have HLP : Hid ((icells n).toArray.size = 44) := Lib.hid (by rw [List.size_toArray, icells_length HNO.out])
      have HAT := Lib.hid hn
      clear hn
      go_upto_region 4 with (first | (refine wpList_store_row rfl 68 (.tmp 4) (.tmp 9) rfl wr.heap.size (icells n).toArray rfl rfl 68 _ (heap_alloc_new wr _) HST.out (by rw [HLP.out]; rfl) (one_ic n) ?_) | fail)
      refine (fun (k : ∀ W, Blk W wr.heap.size (icells n) 68 → Below wr.heap.size wr W → Code.wp _ _ _ _ W) => k _ (blk_row1 wr _ (icells n) 68).1 (blk_row1 wr _ (icells n) 68).2) ?_
      intro W5 hx5 hb5
      obtain ⟨g4, hg4⟩ : ∃ g, wr.heap.size = g := ⟨_, rfl⟩
      have HW5 := Lib.hid (HW.out.grown hb5)
      rw [hg4] at hx5 ⊢
      have HX5 := Lib.hid hx5
      clear hx5 hb5 hg4 HW
      go_wp2_with (first | (refine wpL_valG (by rfl) (ex_ldIn HNO.out HX5.out rfl rfl) ?_) | fail)
      refine (imay_any n HNO.out W5 (HT.out.grown HW5.out.b)).mono ?_
      rintro e w6 ⟨rfl, hb6⟩
      have HW6 := Lib.hid (HW5.out.grown hb6)
      clear hb6 HX5 HW5
      cases hm : mayI n
      · obtain ⟨q, hq⟩ : ∃ q, zeroI = q := ⟨_, rfl⟩
        have hqo : q.OK := by rw [← hq]; exact zeroI_ok
        have HQ0 := Lib.hid hq
        have HN7 := Lib.hid (HW6.out.put (mixI_ok HP.out k) hlt hqo)
        rw [← hq, ← mixI_zeroed HAT.out hm, hq] at HN7
        have HTH : Hid (w6.there w.heap.size (k * 44) (icells q).toArray.size) := Lib.hid (HW6.out.a.there _ _ (by rw [List.size_toArray, icells_length hqo, (mixI_ok HP.out k).cells]; omega))
        have HSZ := Lib.hid (size_icI hqo)
        clear hq hqo
        have HLT := Lib.hid hlt
        clear hm
        go_wp2_with (first | (refine wpL_valG (by rfl) (ex_bldIz HQ0.out rfl) ?_) | (refine wpL_valG (by rfl) (ex_iaBI HLT.out rfl rfl rfl) ?_) | (refine wpList_store_mid rfl 68 (.tmp 15) (.tmp 14) rfl w.heap.size (k * 44) (icells q).toArray rfl rfl HTH.out HSZ.out (one_ic q) ?_) | fail)
        go_roundw
        case rel => exact ⟨k + 1, by omega, by go_num, HN7.out⟩
        case measure => simp [intOf]; omega
      · have HN7 : Hid (AlW (mixI (k + 1) ns) w w6) := Lib.hid (by rw [mixI_same HAT.out hm]; exact HW6.out)
        clear hm
        go_wp2_with fail
        go_roundw
        case rel => exact ⟨k + 1, by omega, by go_num, HN7.out⟩
        case measure => simp [intOf]; omega
    · obtain rfl : k = 4 := by omega
      rw [mixI_four HP.out] at HW
      have HAO := Lib.hid (allow_ok HP.out)
      have HST := Lib.hid (size_bcB HAO.out)
      have HSZ : Hid ((bcells zeros4).toArray.size = (bcells (allow ns)).toArray.size) := Lib.hid (by rw [zeros4_ok.size, HAO.out.size])
      have HON := Lib.hid (bcells_one (allow ns))
      rw [show ((4 : Nat) : Int) = (4 : Int) from rfl]
      clear hlt hk
      go_wp2_with (first | (refine wpL_val rfl (ex_ldBn HAO.out HW.out.a rfl rfl) ?_) | (refine wpList_store_row rfl 104 (.tmp 2) (.tmp 17) rfl (w.heap.size + 1) (bcells (allow ns)).toArray rfl rfl 104 _ HW.out.r HST.out HSZ.out HON.out ?_) | fail)
      exact bodyPost_ret (results_cell_row Tryz.results92 _ _ (w.heap.size + 1) 104 _ _ _ rfl (HW.out.r.row _) Tryz.underlying104 rfl HST.out) rfl ⟨rfl, below_row HW.out.b (by omega) _⟩
theorem own_app2 {w : World} {B B' : Nat} {v u : Value} {l m : Bs} (h : OwnB w B v l) (hu : OwnB w B' u m) (hB : B ≤ w.heap.size) (hl : l.length + m.length ≤ 1000000) (ty : TypeId) :
    ∃ v' w', (Builtin.append_ #[29, 29] ty #[v, u]).run Tryz.prog w = .ok v' w' ∧ OwnB w' B v' (l ++ m) ∧ Below B w w' := by
  obtain ⟨sp4, cap4, e4, q1, q2, q3, q4, q5⟩ := OwnB.form hu
  subst e4
  exact ownB_src (m := m) h hB hl q3 q4 ty
structure PuW (n : Ino) (w W : World) : Prop where
  a : Blk W w.heap.size (icells n) 68
  b : Below w.heap.size w W
theorem PuW.grown {n : Ino} {w W W' : World} (h : PuW n w W) (hb : Below W.heap.size W W') : PuW n w W' := ⟨h.a.below hb h.a.lt, h.b.trans (hb.mono h.b.size)⟩
theorem pu_start {n : Ino} (h : n.OK) (w : World) : PuW n w ((w.alloc (.cells (icells n).toArray 68)).alloc (.cells #[.int .u8 (n.kind : Int), .int .u8 0] 5)) ∧ SrcA ((w.alloc (.cells (icells n).toArray 68)).alloc (.cells #[.int .u8 (n.kind : Int), .int .u8 0] 5)) (some ⟨w.heap.size + 1, 0, none⟩) (leb n.kind 1 ++ [0#8]) := by
  have hb : Blk ((w.alloc (.cells (icells n).toArray 68)).alloc (.cells #[.int .u8 (n.kind : Int), .int .u8 0] 5)) (w.heap.size + 1) ((leb n.kind 1 ++ [0#8]).map V8) 5 := Blk.new' _ _ _ _ _ (by simp) (by rw [u8_cell h.kind]; rfl)
  exact ⟨⟨(Blk.new _ _ _).alloc _, ((Below.refl _ _).alloc (Nat.le_refl _) _).alloc (by simp) _⟩, fun _ => ⟨w.heap.size + 1, 0, rfl, hb.lt, fun j hj => hb.cell (by rw [Nat.zero_add, List.getElem?_map, List.getD_eq_getElem?_getD, List.getElem?_eq_getElem hj]; rfl)⟩⟩
theorem fill72 {l : Bs} (h : l.length = 72) (n : Int) (hn : n = 128) : fillOf l n = l ++ List.replicate 56 0#8 := by subst hn; unfold fillOf; rw [h]; rfl
set_option maxRecDepth 100000 in
set_option maxHeartbeats 8000000 in
theorem put1_any (n : Ino) (h : n.OK) (w : World) : Calls Tryz.prog 93 #[.agg (icells n).toArray] w fun e w' => ∃ v, e = .returned v ∧ OwnB w' w.heap.size v (inoB n) ∧ Below w.heap.size w w' := by
  have HN := Lib.hid h
  have HX0 := Lib.hid (Blk.new w (icells n) 68)
  have hs := pu_start h w
  have HX := Lib.hid hs.1; have HS := Lib.hid hs.2
  have c0 := HX0.out.cell (j := 0) rfl
  generalize hPost : (fun e w' => ∃ v, e = Ending.returned v ∧ OwnB w' w.heap.size v (inoB n) ∧ Below w.heap.size w w') = Post
  have HP : Hid (∀ v w', OwnB w' w.heap.size v (inoB n) → Below w.heap.size w w' → Post (.returned v) w') := Lib.hid fun v w' h1 h2 => by rw [← hPost]; exact ⟨v, rfl, h1, h2⟩
  clear h hs hPost
  go_enter Tryz.func93, Tryz.ntmps93
  go_upto_region 1 with fail
  have c1 : ((w.alloc (.cells (icells n).toArray 68)).alloc (.cells #[.int .u8 (n.kind : Int), .int .u8 0] 5)).cell? ⟨w.heap.size, 1, none⟩ = some (.int .u16 (n.links : Int)) := HX.out.a.cell rfl
  go_wp2_with fail
  obtain ⟨W1, hW1⟩ : ∃ W, (w.alloc (.cells (icells n).toArray 68)).alloc (.cells #[.int .u8 (n.kind : Int), .int .u8 0] 5) = W := ⟨_, rfl⟩
  rw [hW1] at HX HS c1 ⊢
  have HU := Lib.hid (pu16_any (leb n.kind 1 ++ [0#8]) (some ⟨w.heap.size + 1, 0, none⟩) 2 n.links W1 (by simp [leb_length]) HN.out.links HS.out)
  clear hW1 c0 HX0
  refine HU.out.mono ?_
  rintro e W2 ⟨rfl, ho2, hb2⟩
  obtain ⟨l2, hl2⟩ : ∃ l, leb n.kind 1 ++ [0#8] ++ leb n.links 2 = l := ⟨_, rfl⟩
  have HL2 := Lib.hid hl2
  have hn2 : l2.length = 4 := by rw [← hl2]; simp [leb_length]
  rw [hl2] at ho2
  have HO2 := Lib.hid (OwnB.form ho2)
  have HX2 := Lib.hid (HX.out.grown hb2)
  obtain ⟨sp2, cap2, e2, q1, q2, q3, q4, q5⟩ := HO2.out
  have e3 : (leb n.kind 1 ++ [0#8]).length + 2 = 4 := by simp [leb_length]
  rw [e3] at e2 ho2 ⊢
  rw [hn2] at e2
  injection e2 with e5 e6 e7
  subst e5 e7
  have HS2 := Lib.hid q3; have HN2 := Lib.hid hn2
  obtain ⟨g2, hg2⟩ : ∃ g, W1.heap.size = g := ⟨_, rfl⟩
  rw [hg2] at HS2 ⊢
  clear hl2 hn2 ho2 hb2 HO2 q1 q2 q3 q4 q5 e3 e6 hg2 c1 HX HS HU
  go_upto_region 2 with fail
  have hs0 : Blk W2.drew w.heap.size (icells n) 68 := HX2.out.a.drew
  have hu32 := pu32_any l2 (some ⟨g2, 0, none⟩) 4 n.size W2.drew (by rw [HN2.out]; omega) HN.out.size (HS2.out.below (Below.refl _ _).drew (Nat.le_refl _))
  rw [HN2.out] at hu32
  refine gS (.take 0 (.take 1 (.take 2 (.take 4 (.take 5 (.step 3 (.step 6 (.take 7 (.nil))))))))) (fun X => Blk X w.heap.size (icells n) 68) (hs0) ?_
  refine gT (.slice (some ⟨g2, 0, none⟩) 4 4) ?_; try simp only [pS]
  refine gT (.pointer (some ⟨w.heap.size, 2, none⟩)) ?_; try simp only [pS]
  refine wpG_take _ (.int .u32 (n.size : Int)) rfl (by rfl) (fun X hX => ex_ld1 Tryz.underlying24 rfl rfl (hX.cell (j := 2) rfl)) ?_; try simp only [pS]
  refine gT (.pointer (some ⟨w.heap.size, 3, none⟩)) ?_; try simp only [pS]
  refine wpG_take _ (.agg (pcells n.root).toArray) rfl (by rfl) (fun X hX => ex_ldRtI HN.out hX rfl rfl) ?_; try simp only [pS]
  refine wpG_call _ rfl (by rfl) 77 #[.slice (some ⟨g2, 0, none⟩) 4 4, .int .u32 (n.size : Int)] (fun X => by go_simp) (fun u X => u = .slice (some ⟨W2.drew.heap.size, 0, none⟩) 8 8 ∧ SrcA X (some ⟨W2.drew.heap.size, 0, none⟩) (l2 ++ leb n.size 4) ∧ Below W2.drew.heap.size W2.drew X) (hu32.mono fun e X ⟨e1, e2, e3⟩ => ⟨_, e1, hs0.below e3 hs0.lt, rfl, by
    obtain ⟨sp, cp, e4, f1, f2, f3, f4, f5⟩ := OwnB.form e2
    injection e4 with e5 e6 e7
    rw [e5]; exact f3, e3⟩) ?_
  rintro u W3 hs3 ⟨rfl, ho3, hb3⟩
  refine ⟨fun X => Blk X w.heap.size (icells n) 68, fun _ h => h, hs3, ?_⟩; try simp only [pS]
  have hpp := ptrPut_any n.root HN.out.root (l2 ++ leb n.size 4) (some ⟨W2.drew.heap.size, 0, none⟩) 8 W3 (by rw [List.length_append, HN2.out, leb_length]; omega) ho3 (fun h => by cases h)
  rw [show (l2 ++ leb n.size 4).length = 8 by rw [List.length_append, HN2.out, leb_length]] at hpp
  obtain ⟨l4, hl4⟩ : ∃ l, l2 ++ leb n.size 4 ++ padB n.root = l := ⟨_, rfl⟩
  rw [hl4] at hpp
  refine wpG_call _ rfl (by rfl) 24 #[.slice (some ⟨W2.drew.heap.size, 0, none⟩) 8 8, .agg (pcells n.root).toArray] (fun X => by go_simp) (fun u X => OwnB X W3.heap.size u l4 ∧ Below W3.heap.size W3 X) (hpp.mono fun e X ⟨v, e1, e2, e3⟩ => ⟨v, e1, hs3.below e3 hs3.lt, e2, e3⟩) ?_
  rintro v4 W4 hs4 ⟨ho4, hb4⟩
  refine ⟨fun X => Blk X w.heap.size (icells n) 68, fun _ h => h, hs4, ?_⟩; try simp only [pS]
  refine gT (v4) ?_; try simp only [pS]
  refine wpG_nil ?_
  have hx4 : PuW n w W4 := ((HX2.out.grown (Below.refl _ _).drew).grown hb3).grown hb4
  have HL4 := Lib.hid hl4
  clear hs0 hu32 hs3 ho3 hb3 hpp hl4 hs4 hb4
  have HX4 := Lib.hid hx4
  have HLN4 : Hid (l4.length = 72) := Lib.hid (by rw [← HL4.out, List.length_append, List.length_append, padB_length HN.out.root, HN2.out, leb_length])
  have HO4 := Lib.hid (OwnB.form ho4)
  obtain ⟨sp4, cap4, e4, q1, q2, q3, q4, q5⟩ := HO4.out
  rw [HLN4.out] at e4
  subst e4
  have HS4 := Lib.hid q3
  have HF := Lib.hid (fill_any l4 sp4 cap4 128 W4 (by rw [HLN4.out]; omega) (by omega) q3)
  rw [HLN4.out, fill72 HLN4.out 128 rfl] at HF
  have e128 : IntKind.i64.wrap ((72 : Int) + 56) = 128 := by decide
  clear hx4 ho4 HO4 q1 q2 q3 q4 q5 HS2 HX2
  go_wp2_with fail
  refine HF.out.mono ?_
  rintro e W5 ⟨v5, rfl, ho5, hb5⟩
  have HE := Lib.hid (HP.out v5 W5 (by
    rw [show inoB n = l4 ++ List.replicate 56 0#8 by rw [← HL4.out, ← HL2.out]; simp [inoB]]
    exact ho5.mono HX4.out.b.size) (HX4.out.b.trans (hb5.mono HX4.out.b.size)))
  clear ho5 hb5
  go_wp2_with fail
  first | exact HE.out | (go_ret; exact HE.out)
def IPutPost (ns : List Ino) (w : World) (x : Ending) (w' : World) : Prop :=
  ((allMay ns = true ∧ ∃ v, x = .returned (.tuple #[v, .int .i64 0]) ∧ OwnB w' w.heap.size v (blkB ns)) ∨ (allMay ns = false ∧ x = .returned (.tuple #[.slice none 0 0, .int .i64 5]))) ∧ Below w.heap.size w w'
def IPutRel (ns : List Ino) (w : World) (v i : Value) (wr : World) : Prop := ∃ k : Nat, k ≤ 4 ∧ i = .int .i64 (k : Int) ∧ OwnB wr w.heap.size v (blkB (ns.take k)) ∧ Below w.heap.size w wr
theorem iownB_none (w : World) (B : Nat) : OwnB w B (.slice none 0 0) [] := ⟨by simp, .inl ⟨rfl, rfl⟩⟩
set_option maxRecDepth 100000 in
set_option maxHeartbeats 8000000 in
theorem iput_any (ns : List Ino) (h : BOK ns) (w : World) (hT : RTab w) : Calls Tryz.prog 70 #[.agg (bcells ns).toArray] w (IPutPost ns w) := by
  have HP := Lib.hid h; have HT := Lib.hid hT
  have HB := Lib.hid (Blk.new w (bcells ns) 104)
  have HW : Hid (Below w.heap.size w (w.alloc (.cells (bcells ns).toArray 104))) := Lib.hid ((Below.refl _ _).alloc (Nat.le_refl _) _)
  generalize hPost : IPutPost ns w = Post
  have HQ : Hid (∀ x w', IPutPost ns w x w' → Post x w') := Lib.hid fun x w' h => by rw [← hPost]; exact h
  clear h hT hPost
  go_enter Tryz.func70, Tryz.ntmps70
  go_upto_region 1 with fail
  obtain ⟨G, hG⟩ : ∃ G, w.heap.size = G := ⟨_, rfl⟩
  have HG := Lib.hid hG
  rw [hG] at HB ⊢
  generalize (w.alloc (.cells (bcells ns).toArray 104)) = W at HB HW ⊢
  clear hG
  have hs0 : Blk W.drew G (bcells ns) 104 := HB.out.drew
  have hal := allowed_any ns HP.out W.drew ((HT.out.grown HW.out).grown (Below.refl _ _).drew)
  obtain ⟨eb, heb⟩ : ∃ b, decide (ns = allow ns) = b := ⟨_, rfl⟩
  have HEB := Lib.hid heb
  have HAO := Lib.hid (allow_ok HP.out)
  clear heb
  refine gS (.take 0 (.take 1 (.step 2 (.take 3 (.nil))))) (fun X => Blk X G (bcells ns) 104) (hs0) ?_
  refine wpG_take _ (.agg (bcells ns).toArray) rfl (by rfl) (fun X hX => ex_ldBn HP.out hX rfl rfl) ?_; try simp only [pS]
  refine wpG_take _ (.agg (bcells ns).toArray) rfl (by rfl) (fun X hX => ex_ldBn HP.out hX rfl rfl) ?_; try simp only [pS]
  refine wpG_call _ rfl (by rfl) 92 #[.agg (bcells ns).toArray] (fun X => by go_simp) (fun u X => u = .agg (bcells (allow ns)).toArray ∧ Below W.drew.heap.size W.drew X) (hal.mono fun e X ⟨e1, e2⟩ => ⟨_, e1, hs0.below e2 hs0.lt, rfl, e2⟩) ?_
  rintro u W2 hs2 ⟨rfl, hb2⟩
  refine ⟨fun X => Blk X G (bcells ns) 104, fun _ h => h, hs2, ?_⟩; try simp only [pS]
  refine wpG_take _ (.bool (!eb)) rfl (by rfl) (fun X hX => (ex_neBn HP.out HAO.out rfl rfl rfl).trans (by rw [HEB.out])) ?_; try simp only [pS]
  refine wpG_nil ?_
  have HW2 : Hid (Below w.heap.size w W2) := Lib.hid (HW.out.trans (((Below.refl _ _).drew.trans hb2).mono HW.out.size))
  have HB2 := Lib.hid hs2
  clear hs0 hal hs2 hb2 HB HW
  cases eb
  · have hm : allMay ns = false := by
      have h1 := of_decide_eq_false HEB.out
      rw [allow_eq] at h1
      simpa using h1
    have HE := Lib.hid (HQ.out _ _ ⟨.inr ⟨hm, rfl⟩, HW2.out⟩)
    clear hm
    go_wp2_with fail
    exact HE.out
  · have hm : allMay ns = true := (allow_eq ns).1 (of_decide_eq_true HEB.out)
    have HM := Lib.hid hm
    clear hm
    go_wp2_with (first | (refine wpL_val rfl (ex_ldBn HP.out HB2.out rfl rfl) ?_) | fail)
    have HR : Hid (IPutRel ns w (.slice none 0 0) (.int .i64 0) W2) := Lib.hid ⟨0, by omega, rfl, iownB_none _ _, HW2.out⟩
    clear HB2 HW2
    go_loopw [4, 12] (fun v i wr => IPutRel ns w v i wr) (fun _ i _ => 4 - (intOf i).toNat)
    case atStart => exact HR.out
    case round =>
      clear HR
      obtain ⟨k, hk, rfl, hO, hB⟩ := hrel
      obtain ⟨sp4, cap4, e, -⟩ := OwnB.form hO
      rw [len_blkB HP.out hk] at e
      subst e
      have HB := Lib.hid hB
      have HO := Lib.hid hO
      clear hB hO
      have wk1 := IntWalk.i64_in ((k : Int) + 1) (by omega)
      by_cases hlt : k < 4
      · obtain ⟨n, hn⟩ := HP.out.get hlt
        have hix : ∀ W : World, (Instr.index 104 (.agg (bcells ns).toArray) (.int .i64 (k : Int))).run Tryz.prog W = .ok (.agg (icells n).toArray) W := fun W => run_ixI Tryz.underlying104 HP.out hn W
        have HNO := Lib.hid (HP.out.at hn)
        have HST := Lib.hid (size_icI HNO.out)
        have HLP : Hid ((icells n).toArray.size = 44) := Lib.hid (by rw [List.size_toArray, icells_length HNO.out])
        have HAT := Lib.hid hn
        clear hn
        go_upto_region 7 with (first | (refine wpList_store_row rfl 68 (.tmp 6) (.tmp 14) rfl wr.heap.size (icells n).toArray rfl rfl 68 _ (heap_alloc_new wr _) HST.out (by rw [HLP.out]; rfl) (one_ic n) ?_) | fail)
        refine (fun (k : ∀ W, Blk W wr.heap.size (icells n) 68 → Below wr.heap.size wr W → Code.wp _ _ _ _ W) => k _ (blk_row1 wr _ (icells n) 68).1 (blk_row1 wr _ (icells n) 68).2) ?_
        intro W5 hx5 hb5
        have HX5 := Lib.hid hx5
        have HB5 := Lib.hid hb5
        clear hx5 hb5
        go_wp2_with (first | (refine wpL_valG (by rfl) (ex_ldIn HNO.out HX5.out rfl rfl) ?_) | fail)
        refine (put1_any n HNO.out W5).mono ?_
        rintro e w6 ⟨v6, rfl, ho6, hb6⟩
        have hb56 : Below wr.heap.size wr w6 := HB5.out.trans (hb6.mono HB5.out.size)
        obtain ⟨v7, w7, hr7, ho7, hb7⟩ := own_app2 (HO.out.below hb56 (Nat.le_refl _)) ho6 (Nat.le_trans HB.out.size hb56.size) (by rw [len_blkB HP.out hk, inoB_length HNO.out]; omega) 29
        rw [← blkB_take HAT.out] at ho7
        obtain ⟨sp7, n7, cap7, rfl⟩ : ∃ sp n c, v7 = .slice sp n c := by
          obtain ⟨sp, c, e, _⟩ := OwnB.form ho7
          exact ⟨sp, _, c, e⟩
        obtain ⟨sp6, n6, cap6, rfl⟩ : ∃ sp n c, v6 = .slice sp n c := by
          obtain ⟨sp, c, e, _⟩ := OwnB.form ho6
          exact ⟨sp, _, c, e⟩
        have HR7 := Lib.hid hr7; have HO7 := Lib.hid ho7
        have HB7 : Hid (Below w.heap.size w w7) := Lib.hid ((HB.out.trans (hb56.mono HB.out.size)).trans hb7)
        clear hb56 hr7 ho7 hb7 ho6 hb6 HX5 HB5 HO HB
        go_wp2_with (first | (at_builtin; refine wpL_val rfl (ex_appB rfl rfl rfl HR7.out) ?_) | fail)
        go_roundw
        case rel => exact ⟨k + 1, by omega, by go_num, HO7.out, HB7.out⟩
        case measure => simp [intOf]; omega
      · obtain rfl : k = 4 := by omega
        rw [List.take_of_length_le (by rw [HP.out.len]; omega)] at HO
        rw [show ((4 : Nat) : Int) = (4 : Int) from rfl]
        clear hlt hk
        go_wp2_with fail
        exact HQ.out _ _ ⟨.inl ⟨HM.out, _, rfl, HO.out⟩, HB.out⟩
end Go.Proofs.YtjgjohdeeeoeoaaGreatDoor
