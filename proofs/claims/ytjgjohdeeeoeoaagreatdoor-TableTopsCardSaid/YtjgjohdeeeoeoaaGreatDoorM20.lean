/- Leaves that lie in memory; settable, head. -/
import Derived.Test.YtjgjohdeeeoeoaaGreatDoorM19
import Derived.Test.YtjgjohdeeeoeoaaGreatDoorM04
namespace Go.Proofs.YtjgjohdeeeoeoaaGreatDoor
open Go.RowKit
attribute [local go_sem] Oper.semAt_some
def SrcF (w : World) (sp : Option Addr) (l : List Lf) : Prop :=
  0 < l.length → ∃ g o, sp = some ⟨g, o, none⟩ ∧ g < w.heap.size ∧ ∀ i x, l[i]? = some x → w.rangeAt g (o + i * 42) (lcells x)
theorem SrcF.chg {F : Nat → Prop} {w w' : World} {sp : Option Addr} {l : List Lf} (h : SrcF w sp l) (hc : Chg F w w') (hn : ∀ a, sp = some a → ¬ F a.block) : SrcF w' sp l := fun h0 => by
  obtain ⟨g, o, e, hg, hr⟩ := h h0
  refine ⟨g, o, e, Nat.lt_of_lt_of_le hg hc.size, fun i x hx j v hv => ?_⟩
  rw [World.cell?_of_block (w := w) (a := ⟨g, o + i * 42 + j, none⟩) (hc.block g hg (hn _ e))]
  exact hr i x hx j v hv
theorem SrcF.grown {w w' : World} {sp : Option Addr} {l : List Lf} (h : SrcF w sp l) (hb : Below w.heap.size w w') : SrcF w' sp l := h.chg (F := fun _ => False) (Chg.of_below hb) (fun _ _ h => h)
theorem SrcF.drew {w : World} {sp : Option Addr} {l : List Lf} (h : SrcF w sp l) : SrcF w.drew sp l := h.grown (Below.refl _ _).drew
def goodAt (l : List Lf) (i : Nat) : Bool := match l[i]? with
  | some x => decide (x.1 < 64) && (decide (i = 0) || decide ((l.getD (i - 1) (0, zeroP)).1 < x.1)) && (eqP x.2 zeroP || mayP x.2)
  | none => true
def setOk (l : List Lf) : Bool := (List.range l.length).all (goodAt l)
theorem setOk_no {l : List Lf} {k : Nat} (hk : k < l.length) (h : goodAt l k = false) : setOk l = false := by
  unfold setOk
  rw [List.all_eq_false]
  exact ⟨k, List.mem_range.2 hk, by simp [h]⟩
theorem setOk_yes {l : List Lf} (h : ∀ i, i < l.length → goodAt l i = true) : setOk l = true := by
  unfold setOk
  rw [List.all_eq_true]
  exact fun i hi => h i (List.mem_range.1 hi)
theorem elemF : Tryz.prog.underlying 95 = some (.slice (Tryz.prog.elem 95)) := by kernel_rfl
theorem elemF' : Tryz.prog.elem 95 = 110 := by kernel_rfl
theorem sizeOfF (W : World) : (sizeOf 110).run Tryz.prog W = .ok 42 W := by
  obtain ⟨i, z, h1, h2, h3, h4, h5⟩ := info_partsLf
  simp [sizeOf, typeInfo, h1, h4]
set_option maxRecDepth 100000 in
theorem sliceToF (sp : Option Addr) (L cap n : Nat) (h : n ≤ cap) (W : World) : (Instr.sliceAt 95 (.slice sp L cap) none (some (.int .i64 (n : Int))) none).run Tryz.prog W = .ok (.slice sp n cap) W := by
  rw [run_sliceAt_slice W 95 _ _ _ _ elemF, run_slice_h W 95 sp L cap elemF .i64 n (by omega) (by omega), elemF', sizeOfF]
  have e : Option.map (fun x : Addr => x.add 0) sp = sp := by cases sp with | none => rfl | some a => cases a; simp [Addr.add]
  simp [Result.andThen, sliced, e]
section
variable {ρ : Operand → Value} {o : Oper} {x y : Operand} {w : World}
theorem ex_quo32 {a b : Nat} {t : TypeId} (hb : 0 < b) (ha : a < 4294967296) (ho : o.op = .binOp .quo 24 x y t) (hx : ρ x = .int .u32 (a : Int)) (hy : ρ y = .int .u32 (b : Int)) : (execOp ρ o).run Tryz.prog w = .ok (.value (.int .u32 ((a / b : Nat) : Int))) w := by
  have e : ((a : Int)).tdiv (b : Int) = ((a / b : Nat) : Int) := by
    rw [Int.tdiv_eq_ediv_of_nonneg (by omega)]; rfl
  have hb0 : ((b : Int) == 0) = false := by simp; omega
  have hb1 : ¬ (b : Int) = 0 := by omega
  have hb2 : ¬ b = 0 := by omega
  have hw : IntKind.u32.wrap ((a : Int) / (b : Int)) = (a : Int) / (b : Int) := by
    have h1 := Nat.div_le_self a b
    have h2 : (a : Int) / (b : Int) = ((a / b : Nat) : Int) := rfl
    rw [h2]
    generalize a / b = q at h1
    rw [IntKind.wrap_u32]
    omega
  unfold execOp
  simp only [ho]
  go_simp
theorem ex_iaF {g o' n cap k : Nat} (ho : o.op = .indexAddr 95 x y) (hx : ρ x = .slice (some ⟨g, o', none⟩) n cap) (hy : ρ y = .int .i64 (k : Int)) (hk : k < n ∧ n ≤ cap) :
    (execOp ρ o).run Tryz.prog w = .ok (.value (.pointer (some ⟨g, o' + k * 42, none⟩))) w := by
  have h1 : ¬ n ≤ k := by omega
  unfold execOp
  simp only [ho]
  go_simp
theorem ex_eq32 {a b : Nat} {t : TypeId} (ho : o.op = .binOp .eql 24 x y t) (hx : ρ x = .int .u32 (a : Int)) (hy : ρ y = .int .u32 (b : Int)) : (execOp ρ o).run Tryz.prog w = .ok (.value (.bool (decide (a = b)))) w := by
  have e : ((a : Int) == (b : Int)) = decide (a = b) := by
    rw [Bool.eq_iff_iff]; simp; omega
  unfold execOp
  simp only [ho]
  go_simp
theorem ex_le32 {a b : Nat} {t : TypeId} (ho : o.op = .binOp .leq 24 x y t) (hx : ρ x = .int .u32 (a : Int)) (hy : ρ y = .int .u32 (b : Int)) : (execOp ρ o).run Tryz.prog w = .ok (.value (.bool (decide (a ≤ b)))) w := by
  have e : decide ((a : Int) ≤ (b : Int)) = decide (a ≤ b) := by
    rw [Bool.eq_iff_iff]; simp
  unfold execOp
  simp only [ho]
  go_simp
end
theorem rng_cell {w : World} {g o : Nat} {x : Lf} (h : w.rangeAt g o (lcells x)) : w.cell? ⟨g, o, none⟩ = some (.int .u32 (x.1 : Int)) := by
  have := h 0 (.int .u32 (x.1 : Int)) rfl
  rw [Nat.add_zero] at this
  exact this
theorem rng_ptr {w : World} {g o : Nat} {x : Lf} (h : w.rangeAt g o (lcells x)) : w.rangeAt g (o + 1) (pcells x.2) := fun j v hj => by
  have := h (j + 1) v (by simpa [lcells] using hj)
  rw [show o + 1 + j = o + (j + 1) by omega]
  exact this
theorem SrcF.at {w : World} {g o : Nat} {l : List Lf} (h : SrcF w (some ⟨g, o, none⟩) l) {i : Nat} {x : Lf} (hx : l[i]? = some x) : w.rangeAt g (o + i * 42) (lcells x) := by
  obtain ⟨g', o', e, _, hr⟩ := h (by have := (List.getElem?_eq_some_iff.1 hx).1; omega)
  injection e with e
  injection e with e1 e2 _
  rw [e1, e2]
  exact hr i x hx
theorem SrcF.form {w : World} {sp : Option Addr} {l : List Lf} (h : SrcF w sp l) (h0 : 0 < l.length) : ∃ g o, sp = some ⟨g, o, none⟩ ∧ g < w.heap.size := by
  obtain ⟨g, o, e, hg, _⟩ := h h0
  exact ⟨g, o, e, hg⟩
structure StW (sp : Option Addr) (l : List Lf) (w W : World) : Prop where
  src : SrcF W sp l
  tab : RTab W
  bel : Below w.heap.size w W
theorem StW.drewS {sp : Option Addr} {l : List Lf} {w W : World} (h : StW sp l w W) : StW sp l w W.drew := ⟨h.src.drew, h.tab.grown (Below.refl _ _).drew, h.bel.drew⟩
theorem one_lc (x : Lf) : (lcells x).toArray.all (·.oneCell') = true := by
  rw [Array.all_eq_true_iff_forall_mem]
  intro v hv
  exact one_lcells x v (by simpa using hv)
theorem StW.grown {sp : Option Addr} {l : List Lf} {w W W' : World} (h : StW sp l w W) (hb : Below W.heap.size W W') : StW sp l w W' := ⟨h.src.grown hb, h.tab.grown hb, h.bel.trans (hb.mono h.bel.size)⟩
set_option maxRecDepth 100000 in
set_option maxHeartbeats 8000000 in
theorem settable_any (l : List Lf) (hok : ∀ x ∈ l, Lf.OK x) (sp : Option Addr) (cap : Nat) (hc : l.length ≤ cap) (hl : l.length ≤ 1000) (w : World) (hS : SrcF w sp l) (hT : RTab w) : Calls Tryz.prog 72 #[.slice sp l.length cap] w fun e w' => e = .returned (.bool (setOk l)) ∧ Below w.heap.size w w' := by
  have HOK := Lib.hid hok
  have HX : Hid (StW sp l w w) := Lib.hid ⟨hS, hT, Below.refl _ _⟩
  obtain ⟨N, hN⟩ : ∃ N, l.length = N := ⟨_, rfl⟩
  rw [hN] at hc hl ⊢
  have HN := Lib.hid hN; have HC := Lib.hid hc; have HL := Lib.hid hl
  obtain ⟨rs, hrs⟩ : ∃ b, setOk l = b := ⟨_, rfl⟩
  have HRS := Lib.hid hrs
  rw [hrs]
  generalize hPost : (fun e w' => e = Ending.returned (.bool rs) ∧ Below w.heap.size w w') = Post
  have HP : Hid (∀ w', Below w.heap.size w w' → Post (.returned (.bool rs)) w') := Lib.hid fun w' h => by rw [← hPost]; exact ⟨rfl, h⟩
  clear hok hS hT hN hc hl hrs hPost
  go_enter Tryz.func72, Tryz.ntmps72
  go_wp2_with fail
  go_loopw [7] (fun v wr => ∃ k : Nat, k ≤ N ∧ v = .int .i64 (k : Int) ∧ (∀ i, i < k → goodAt l i = true) ∧ StW sp l w wr) (fun v _ => N - (intOf v).toNat)
  case atStart => exact ⟨0, by omega, rfl, fun i hi => by omega, HX.out⟩
  case round =>
    clear HX
    obtain ⟨k, hk, rfl, hgood, hst⟩ := hrel
    have HG := Lib.hid hgood; have HST := Lib.hid hst
    clear hgood hst
    have wk1 := IntWalk.i64_in ((k : Int) + 1) (by have := HL.out; omega)
    by_cases hlt : k < N
    · obtain ⟨x, hx⟩ : ∃ x, l[k]? = some x := ⟨_, List.getElem?_eq_getElem (by have := HN.out; omega)⟩
      obtain ⟨g, o', rfl, hg⟩ := HST.out.src.form (by have := HN.out; omega)
      have HXO : Hid (Lf.OK x) := Lib.hid (HOK.out x (List.mem_of_getElem? hx))
      have HSZ : Hid ((Tryz.prog.info? 110).map (·.size) = some (lcells x).toArray.size) := Lib.hid (by rw [List.size_toArray, lcells_length HXO.out.2]; exact sizeLf)
      have HLZ : Hid ((lcells x).toArray.size = 42) := Lib.hid (by rw [List.size_toArray, lcells_length HXO.out.2])
      have HRG := Lib.hid (HST.out.src.at hx)
      have HX := Lib.hid hx
      have HKN : Hid (k < N ∧ N ≤ cap) := Lib.hid ⟨hlt, HC.out⟩
      have hcn : ¬ N ≤ k := by omega
      clear hx hg
      go_upto_region 4 with (first | (refine wpL_val rfl (ex_ld (ty := 110) (cs := lcells x) rfl rfl HRG.out Tryz.underlying110 rfl (by rw [sizeLf, lcells_length HXO.out.2])) ?_) | (refine wpList_store_row rfl 110 (.tmp 4) (.tmp 11) rfl wr.heap.size (lcells x).toArray rfl rfl 110 _ (heap_alloc_new wr _) HSZ.out (by rw [HLZ.out]; rfl) (one_lc x) ?_) | fail)
      refine (fun (k : ∀ W, Blk W wr.heap.size (lcells x) 110 → Below wr.heap.size wr W → Code.wp _ _ _ _ W) => k _ (blk_row1 wr _ (lcells x) 110).1 (blk_row1 wr _ (lcells x) 110).2) ?_
      intro W5 hx5 hb5
      obtain ⟨B, hB⟩ : ∃ B, wr.heap.size = B := ⟨_, rfl⟩
      have HST5 := Lib.hid (HST.out.grown hb5)
      rw [hB] at hx5 ⊢
      have HX5 := Lib.hid hx5
      have c0 := hx5.cell (j := 0) rfl
      obtain ⟨xo, hxo⟩ : ∃ n, x.1 = n := ⟨_, rfl⟩
      rw [hxo] at c0
      have HXo := Lib.hid hxo
      clear hx5 hb5 hB HST HRG
      by_cases h64 : 64 ≤ xo
      · have h64' : (64 : Int) ≤ (xo : Int) := by omega
        have hno : goodAt l k = false := by unfold goodAt; rw [HX.out]; simp; omega
        obtain rfl : rs = false := by rw [← HRS.out]; exact setOk_no (by have := HN.out; omega) hno
        have HE := Lib.hid (HP.out W5 HST5.out.bel)
        clear hno h64
        go_wp2_with fail
        first | exact HE.out | (go_ret; exact HE.out)
      · have h64' : ¬ (64 : Int) ≤ (xo : Int) := by omega
        have h64f : decide ((64 : Int) ≤ (xo : Int)) = false := decide_eq_false h64'
        by_cases hk0 : k = 0
        · subst hk0
          have hk0' : ¬ (0 : Int) < ((0 : Nat) : Int) := by omega
          go_upto_region 5 with fail
          refine gS (.take 0 (.take 1 (.take 2 (.take 3 (.take 4 (.take 5 (.take 6 (.take 7 (.take 8 (.take 9 (.take 10 (.take 11 (.take 12 (.take 13 (.nil))))))))))))))) (fun X => StW (some ⟨g, o', none⟩) l w X ∧ Blk X B (lcells x) 110) (⟨HST5.out.drewS, HX5.out.drew⟩) ?_
          refine gT (.int .i64 ((0 : Nat) : Int)) ?_; try simp only [pS]
          refine gT (.bool false) ?_; try simp only [pS]
          refine gT (.bool false) ?_; try simp only [pS]
          refine wpG_pass _ rfl (by rfl) ?_; try simp only [pS]
          refine wpG_pass _ rfl (by rfl) ?_; try simp only [pS]
          refine wpG_pass _ rfl (by rfl) ?_; try simp only [pS]
          refine wpG_pass _ rfl (by rfl) ?_; try simp only [pS]
          refine wpG_pass _ rfl (by rfl) ?_; try simp only [pS]
          refine wpG_pass _ rfl (by rfl) ?_; try simp only [pS]
          refine wpG_pass _ rfl (by rfl) ?_; try simp only [pS]
          refine wpG_pass _ rfl (by rfl) ?_; try simp only [pS]
          refine wpG_pass _ rfl (by rfl) ?_; try simp only [pS]
          refine gT (.bool false) ?_; try simp only [pS]
          refine gT (.bool false) ?_; try simp only [pS]
          refine wpG_nil ?_
          have HST6 := Lib.hid HST5.out.drewS
          have HX6 := Lib.hid HX5.out.drew
          clear HST5 HX5
          have HPO2 := Lib.hid HXO.out.2
          go_wp2_with (first | (refine wpL_val rfl (ex_ld (ty := 28) (cs := pcells x.2) rfl rfl (rng_ptr (rng_all HX6.out)) Tryz.underlying28 rfl (by rw [sizeP, pcells_length HPO2.out])) ?_) | fail)
          refine (trHole_any x.2 HPO2.out _).mono ?_
          rintro e W7 ⟨rfl, hb7⟩
          have HST7 := Lib.hid (HST6.out.grown hb7)
          have HX7 := Lib.hid (HX6.out.below hb7 HX6.out.lt)
          clear hb7 HST6 HX6
          cases hz : eqP x.2 zeroP
          · go_wp2_with (first | (refine wpL_valG (by rfl) (ex_ld (ty := 28) (cs := pcells x.2) rfl rfl (rng_ptr (rng_all HX7.out)) Tryz.underlying28 rfl (by rw [sizeP, pcells_length HPO2.out])) ?_) | fail)
            refine (may_any x.2 HPO2.out _ HST7.out.tab).mono ?_
            rintro e W8 ⟨rfl, hb8⟩
            have HST8 := Lib.hid (HST7.out.grown hb8)
            clear hb8 HST7 HX7
            cases hm : mayP x.2
            · have hno : goodAt l 0 = false := by unfold goodAt; rw [HX.out]; simp [hz, hm]
              obtain rfl : rs = false := by rw [← HRS.out]; exact setOk_no (by have := HN.out; omega) hno
              have HE := Lib.hid (HP.out _ HST8.out.bel)
              clear hno
              go_wp2_with fail
              first | exact HE.out | (go_ret; exact HE.out)
            · have hyes : goodAt l 0 = true := by
                unfold goodAt
                rw [HX.out]
                have h1 := HXo.out
                simp [hz, hm]
                omega
              have HGN : Hid (∀ i, i < 0 + 1 → goodAt l i = true) := Lib.hid (fun i hi => by
                by_cases e : i = 0
                · rw [e]; exact hyes
                · exact HG.out i (by omega))
              clear hyes
              go_wp2_with fail
              go_roundw
              case rel => exact ⟨0 + 1, by omega, by go_num, HGN.out, HST8.out⟩
              case measure => simp [intOf]; omega
          · have hyes : goodAt l 0 = true := by
              unfold goodAt
              rw [HX.out]
              have h1 := HXo.out
              simp [hz]
              omega
            have HGN : Hid (∀ i, i < 0 + 1 → goodAt l i = true) := Lib.hid (fun i hi => by
              by_cases e : i = 0
              · rw [e]; exact hyes
              · exact HG.out i (by omega))
            clear hyes
            go_wp2_with fail
            go_roundw
            case rel => exact ⟨0 + 1, by omega, by go_num, HGN.out, HST7.out⟩
            case measure => simp [intOf]; omega
        · obtain ⟨k1, rfl⟩ : ∃ k1, k = k1 + 1 := ⟨k - 1, by omega⟩
          obtain ⟨y, hy⟩ : ∃ y, l[k1]? = some y := ⟨_, List.getElem?_eq_getElem (by have := HN.out; omega)⟩
          have HY := Lib.hid hy
          have HYR : Hid (∀ X, StW (some ⟨g, o', none⟩) l w X → X.rangeAt g (o' + k1 * 42) (lcells y)) := Lib.hid (fun X hX => hX.src.at hy)
          obtain ⟨yo, hyo⟩ : ∃ n, y.1 = n := ⟨_, rfl⟩
          have HYo := Lib.hid hyo
          have hkp : (0 : Int) < ((k1 + 1 : Nat) : Int) := by omega
          have hsb := IntWalk.i64_in ((k1 : Int)) (by have := HL.out; omega)
          have wk2 := IntWalk.i64_in ((k1 : Int) + 1 + 1) (by have := HL.out; omega)
          have HK1 : Hid (k1 < N ∧ N ≤ cap) := Lib.hid ⟨by omega, HC.out⟩
          clear hy hyo
          go_upto_region 5 with fail
          refine gS (.take 0 (.take 1 (.take 2 (.take 3 (.take 4 (.take 5 (.take 6 (.take 7 (.take 8 (.take 9 (.take 10 (.take 11 (.take 12 (.take 13 (.nil))))))))))))))) (fun X => StW (some ⟨g, o', none⟩) l w X ∧ Blk X B (lcells x) 110) (⟨HST5.out.drewS, HX5.out.drew⟩) ?_
          refine gT (.int .i64 ((k1 + 1 : Nat) : Int)) ?_; try simp only [pS]
          refine gT (.bool true) ?_; try simp only [pS]
          refine gT (.bool true) ?_; try simp only [pS]
          refine gT (.pointer (some ⟨B, 0, none⟩)) ?_; try simp only [pS]
          refine wpG_take _ (.int .u32 (xo : Int)) rfl (by rfl) (fun X hX => (ex_ld1 Tryz.underlying24 rfl rfl (hX.2.cell (j := 0) rfl)).trans (by rw [HXo.out])) ?_; try simp only [pS]
          refine gT (.slice (some ⟨g, o', none⟩) N cap) ?_; try simp only [pS]
          refine gT (.int .i64 ((k1 + 1 : Nat) : Int)) ?_; try simp only [pS]
          refine gT (.int .i64 (k1 : Int)) ?_; try simp only [pS]
          refine wpG_take _ (.pointer (some ⟨g, o' + k1 * 42, none⟩)) rfl (by rfl) (fun X hX => ex_iaF rfl rfl rfl HK1.out) ?_; try simp only [pS]
          refine gT (.pointer (some ⟨g, o' + k1 * 42, none⟩)) ?_; try simp only [pS]
          refine wpG_take _ (.int .u32 (yo : Int)) rfl (by rfl) (fun X hX => (ex_ld1 Tryz.underlying24 rfl rfl (rng_cell (HYR.out X hX.1))).trans (by rw [HYo.out])) ?_; try simp only [pS]
          refine wpG_take _ (.bool (decide (xo ≤ yo))) rfl (by rfl) (fun X hX => ex_le32 rfl rfl rfl) ?_; try simp only [pS]
          refine gT (.bool (decide (xo ≤ yo))) ?_; try simp only [pS]
          refine gT (.bool (decide (xo ≤ yo))) ?_; try simp only [pS]
          refine wpG_nil ?_
          have HST6 := Lib.hid HST5.out.drewS
          have HX6 := Lib.hid HX5.out.drew
          clear HST5 HX5
          cases hle : decide (xo ≤ yo)
          · have hlt2 : ¬ xo ≤ yo := by simpa using hle
            have HPO2 := Lib.hid HXO.out.2
            go_wp2_with (first | (refine wpL_val rfl (ex_ld (ty := 28) (cs := pcells x.2) rfl rfl (rng_ptr (rng_all HX6.out)) Tryz.underlying28 rfl (by rw [sizeP, pcells_length HPO2.out])) ?_) | fail)
            refine (trHole_any x.2 HPO2.out _).mono ?_
            rintro e W7 ⟨rfl, hb7⟩
            have HST7 := Lib.hid (HST6.out.grown hb7)
            have HX7 := Lib.hid (HX6.out.below hb7 HX6.out.lt)
            clear hb7 HST6 HX6
            cases hz : eqP x.2 zeroP
            · go_wp2_with (first | (refine wpL_valG (by rfl) (ex_ld (ty := 28) (cs := pcells x.2) rfl rfl (rng_ptr (rng_all HX7.out)) Tryz.underlying28 rfl (by rw [sizeP, pcells_length HPO2.out])) ?_) | fail)
              refine (may_any x.2 HPO2.out _ HST7.out.tab).mono ?_
              rintro e W8 ⟨rfl, hb8⟩
              have HST8 := Lib.hid (HST7.out.grown hb8)
              clear hb8 HST7 HX7
              cases hm : mayP x.2
              · have hno : goodAt l (k1 + 1) = false := by unfold goodAt; rw [HX.out]; simp [hz, hm]
                obtain rfl : rs = false := by rw [← HRS.out]; exact setOk_no (by have := HN.out; omega) hno
                have HE := Lib.hid (HP.out _ HST8.out.bel)
                clear hno
                go_wp2_with fail
                first | exact HE.out | (go_ret; exact HE.out)
              · have hyes : goodAt l (k1 + 1) = true := by
                  unfold goodAt
                  rw [HX.out]
                  have e : l.getD (k1 + 1 - 1) (0, zeroP) = y := by rw [Nat.add_sub_cancel, List.getD_eq_getElem?_getD, HY.out]; rfl
                  simp only [e]
                  have h1 := HXo.out; have h2 := HYo.out
                  simp [hz, hm]
                  omega
                have HGN : Hid (∀ i, i < (k1 + 1) + 1 → goodAt l i = true) := Lib.hid (fun i hi => by
                  by_cases e : i = (k1 + 1)
                  · rw [e]; exact hyes
                  · exact HG.out i (by omega))
                clear hyes
                go_wp2_with fail
                go_roundw
                case rel => exact ⟨(k1 + 1) + 1, by omega, by go_num, HGN.out, HST8.out⟩
                case measure => simp [intOf]; omega
            · have hyes : goodAt l (k1 + 1) = true := by
                unfold goodAt
                rw [HX.out]
                have e : l.getD (k1 + 1 - 1) (0, zeroP) = y := by rw [Nat.add_sub_cancel, List.getD_eq_getElem?_getD, HY.out]; rfl
                simp only [e]
                have h1 := HXo.out; have h2 := HYo.out
                simp [hz]
                omega
              have HGN : Hid (∀ i, i < (k1 + 1) + 1 → goodAt l i = true) := Lib.hid (fun i hi => by
                by_cases e : i = (k1 + 1)
                · rw [e]; exact hyes
                · exact HG.out i (by omega))
              clear hyes
              go_wp2_with fail
              go_roundw
              case rel => exact ⟨(k1 + 1) + 1, by omega, by go_num, HGN.out, HST7.out⟩
              case measure => simp [intOf]; omega
          · have hle2 : xo ≤ yo := by simpa using hle
            have hno : goodAt l (k1 + 1) = false := by
              unfold goodAt
              rw [HX.out]
              have e : l.getD (k1 + 1 - 1) (0, zeroP) = y := by rw [Nat.add_sub_cancel, List.getD_eq_getElem?_getD, HY.out]; rfl
              simp only [e]
              have h1 := HXo.out; have h2 := HYo.out
              simp
              omega
            obtain rfl : rs = false := by rw [← HRS.out]; exact setOk_no (by have := HN.out; omega) hno
            have HE := Lib.hid (HP.out _ HST6.out.bel)
            clear hno
            go_wp2_with fail
            first | exact HE.out | (go_ret; exact HE.out)
    · obtain rfl : k = N := by omega
      obtain rfl : rs = true := by rw [← HRS.out]; exact setOk_yes (fun i hi => HG.out i (by have := HN.out; omega))
      have HE := Lib.hid (HP.out wr HST.out.bel)
      clear hk hlt
      go_wp2_with fail
      first | exact HE.out | (go_ret; exact HE.out)
def headN (wide : Nat) : List Lf → Nat
  | [] => 0
  | x :: xs => 1 + (xs.takeWhile (fun y => decide (y.1 / wide = x.1 / wide))).length
theorem takeWhile_len {α : Type} (f : α → Bool) : ∀ (l : List α) (k : Nat), (∀ i x, i < k → l[i]? = some x → f x = true) → k ≤ l.length → (∀ x, l[k]? = some x → f x = false) → (l.takeWhile f).length = k
  | [], k, _, h, _ => by simp at h; subst h; rfl
  | a :: l, 0, _, _, h => by
    have := h a rfl
    simp [this]
  | a :: l, k + 1, h1, h2, h3 => by
    have ha := h1 0 a (by omega) rfl
    rw [List.takeWhile_cons_of_pos ha, List.length_cons, takeWhile_len f l k (fun i x hi hx => h1 (i + 1) x (by omega) (by simpa using hx)) (by simpa using h2) (fun x hx => h3 x (by simpa using hx))]
theorem headN_is {wide : Nat} {l : List Lf} {x : Lf} (h0 : l[0]? = some x) {k : Nat} (hk1 : 1 ≤ k) (hk : k ≤ l.length) (h1 : ∀ i y, 1 ≤ i → i < k → l[i]? = some y → y.1 / wide = x.1 / wide) (h2 : ∀ y, l[k]? = some y → y.1 / wide ≠ x.1 / wide) : headN wide l = k := by
  cases l with
  | nil => simp at h0
  | cons a l =>
    simp at h0
    subst h0
    obtain ⟨j, rfl⟩ : ∃ j, k = j + 1 := ⟨k - 1, by omega⟩
    have := takeWhile_len (fun y : Lf => decide (y.1 / wide = a.1 / wide)) l j (fun i y hi hy => by simpa using h1 (i + 1) y (by omega) (by omega) (by simpa using hy)) (by simpa using hk) (fun y hy => by simpa using h2 y (by simpa using hy))
    simp only [headN, this]
    omega
theorem headN_le (wide : Nat) (l : List Lf) : headN wide l ≤ l.length := by
  cases l with
  | nil => exact Nat.le_refl _
  | cons a l =>
    have := (List.takeWhile_sublist (fun y : Lf => decide (y.1 / wide = a.1 / wide)) (l := l)).length_le
    simp only [headN, List.length_cons]
    omega
theorem headN_pos {wide : Nat} {l : List Lf} (h : 0 < l.length) : 1 ≤ headN wide l := by
  cases l with
  | nil => simp at h
  | cons a l => simp only [headN]; omega
set_option maxRecDepth 100000 in
set_option maxHeartbeats 8000000 in
theorem head_any (l : List Lf) (hok : ∀ x ∈ l, Lf.OK x) (sp : Option Addr) (cap : Nat) (hc : l.length ≤ cap) (hl : l.length ≤ 1000) (h0 : 0 < l.length) (wide : Nat) (hw0 : 0 < wide) (hw1 : wide ≤ 64) (w : World) (hS : SrcF w sp l) : Calls Tryz.prog 96 #[.slice sp l.length cap, .int .u32 (wide : Int)] w fun e w' => e = .returned (.slice sp (headN wide l) cap) ∧ Below w.heap.size w w' := by
  have HOK := Lib.hid hok
  have HX : Hid (SrcF w sp l ∧ Below w.heap.size w w) := Lib.hid ⟨hS, Below.refl _ _⟩
  obtain ⟨g, o', rfl, hg⟩ := hS.form h0
  obtain ⟨x, hx⟩ : ∃ x, l[0]? = some x := ⟨_, List.getElem?_eq_getElem h0⟩
  obtain ⟨N, hN⟩ : ∃ N, l.length = N := ⟨_, rfl⟩
  rw [hN] at hc hl h0 ⊢
  have HN := Lib.hid hN; have HC := Lib.hid hc; have HL := Lib.hid hl; have H0 := Lib.hid h0; have HX0 := Lib.hid hx; have HW0 := Lib.hid hw0
  have HXO : Hid (Lf.OK x) := Lib.hid (hok x (List.mem_of_getElem? hx))
  obtain ⟨hn, hhn⟩ : ∃ n, headN wide l = n := ⟨_, rfl⟩
  have HHN := Lib.hid hhn
  have HHL : Hid (hn ≤ N) := Lib.hid (by rw [← hhn, ← hN]; exact headN_le _ _)
  rw [hhn]
  generalize hPost : (fun e w' => e = Ending.returned (.slice (some ⟨g, o', none⟩) hn cap) ∧ Below w.heap.size w w') = Post
  have HP : Hid (∀ w', Below w.heap.size w w' → Post (.returned (.slice (some ⟨g, o', none⟩) hn cap)) w') := Lib.hid fun w' h => by rw [← hPost]; exact ⟨rfl, h⟩
  obtain ⟨xo, hxo⟩ : ∃ n, x.1 = n := ⟨_, rfl⟩
  have HXo := Lib.hid hxo
  have HXB : Hid (xo < 4294967296) := Lib.hid (by rw [← hxo]; exact HXO.out.1)
  have hwz : ¬ (wide : Int) = 0 := by omega
  clear hok hS hN hc hl hx hhn hPost hg hxo hw0 hw1 h0
  go_enter Tryz.func96, Tryz.ntmps96
  go_wp2_with fail
  go_loopw [5] (fun v wr => ∃ k : Nat, 1 ≤ k ∧ k ≤ N ∧ v = .int .i64 (k : Int) ∧ (∀ i y, 1 ≤ i → i < k → l[i]? = some y → y.1 / wide = x.1 / wide) ∧ SrcF wr (some ⟨g, o', none⟩) l ∧ Below w.heap.size w wr) (fun v _ => N - (intOf v).toNat)
  case atStart => exact ⟨1, by omega, H0.out, rfl, fun i y h1 h2 => by omega, HX.out⟩
  case round =>
    clear HX
    obtain ⟨k, hk1, hk, rfl, heq, hst⟩ := hrel
    have HQ := Lib.hid heq; have HST := Lib.hid hst
    clear heq hst
    have wk1 := IntWalk.i64_in ((k : Int) + 1) (by have := HL.out; omega)
    by_cases hlt : k < N
    · obtain ⟨y, hy⟩ : ∃ y, l[k]? = some y := ⟨_, List.getElem?_eq_getElem (by have := HN.out; omega)⟩
      have HY := Lib.hid hy
      obtain ⟨yo, hyo⟩ : ∃ n, y.1 = n := ⟨_, rfl⟩
      have HYo := Lib.hid hyo
      have HYB : Hid (yo < 4294967296) := Lib.hid (by rw [← hyo]; exact (HOK.out y (List.mem_of_getElem? hy)).1)
      have HKN : Hid (k < N ∧ N ≤ cap) := Lib.hid ⟨hlt, HC.out⟩
      have HON : Hid (0 < N ∧ N ≤ cap) := Lib.hid ⟨by omega, HC.out⟩
      have hlti : (k : Int) < (N : Int) := by omega
      clear hy hyo
      go_upto_region 2 with fail
      refine gS (.take 0 (.take 1 (.take 2 (.take 3 (.take 4 (.take 5 (.take 6 (.take 7 (.take 8 (.take 9 (.take 10 (.take 11 (.take 12 (.take 13 (.take 14 (.take 15 (.take 16 (.take 17 (.take 18 (.take 19 (.nil))))))))))))))))))))) (fun X => SrcF X (some ⟨g, o', none⟩) l ∧ True) (⟨HST.out.1.drew, trivial⟩) ?_
      refine gT (.int .i64 (k : Int)) ?_; try simp only [pS]
      refine gT (.slice (some ⟨g, o', none⟩) N cap) ?_; try simp only [pS]
      refine gT (.int .i64 N) ?_; try simp only [pS]
      refine gT (.bool true) ?_; try simp only [pS]
      refine gT (.bool true) ?_; try simp only [pS]
      refine gT (.slice (some ⟨g, o', none⟩) N cap) ?_; try simp only [pS]
      refine gT (.int .i64 (k : Int)) ?_; try simp only [pS]
      refine wpG_take _ (.pointer (some ⟨g, o' + k * 42, none⟩)) rfl (by rfl) (fun X hX => ex_iaF rfl rfl rfl HKN.out) ?_; try simp only [pS]
      refine gT (.pointer (some ⟨g, o' + k * 42, none⟩)) ?_; try simp only [pS]
      refine wpG_take _ (.int .u32 (yo : Int)) rfl (by rfl) (fun X hX => (ex_ld1 Tryz.underlying24 rfl rfl (rng_cell (hX.1.at HY.out))).trans (by rw [HYo.out])) ?_; try simp only [pS]
      refine gT (.int .u32 (wide : Int)) ?_; try simp only [pS]
      refine wpG_take _ (.int .u32 ((yo / wide : Nat) : Int)) rfl (by rfl) (fun X hX => ex_quo32 HW0.out HYB.out rfl rfl rfl) ?_; try simp only [pS]
      refine gT (.slice (some ⟨g, o', none⟩) N cap) ?_; try simp only [pS]
      refine wpG_take _ (.pointer (some ⟨g, o' + 0 * 42, none⟩)) rfl (by rfl) (fun X hX => ex_iaF (k := 0) rfl rfl rfl HON.out) ?_; try simp only [pS]
      refine gT (.pointer (some ⟨g, o' + 0 * 42, none⟩)) ?_; try simp only [pS]
      refine wpG_take _ (.int .u32 (xo : Int)) rfl (by rfl) (fun X hX => (ex_ld1 Tryz.underlying24 rfl rfl (rng_cell (hX.1.at HX0.out))).trans (by rw [HXo.out])) ?_; try simp only [pS]
      refine gT (.int .u32 (wide : Int)) ?_; try simp only [pS]
      refine wpG_take _ (.int .u32 ((xo / wide : Nat) : Int)) rfl (by rfl) (fun X hX => ex_quo32 HW0.out HXB.out rfl rfl rfl) ?_; try simp only [pS]
      refine wpG_take _ (.bool (decide (yo / wide = xo / wide))) rfl (by rfl) (fun X hX => ex_eq32 rfl rfl rfl) ?_; try simp only [pS]
      refine gT (.bool (decide (yo / wide = xo / wide))) ?_; try simp only [pS]
      refine wpG_nil ?_
      have HS2 := Lib.hid (show SrcF wr.drew (some ⟨g, o', none⟩) l ∧ Below w.heap.size w wr.drew from ⟨HST.out.1.drew, HST.out.2.drew⟩)
      cases hcase : decide (yo / wide = xo / wide)
      · have hne : ¬ yo / wide = xo / wide := by simpa using hcase
        obtain rfl : k = hn := by
          rw [← HHN.out]
          exact (headN_is HX0.out hk1 (by have := HN.out; omega) HQ.out (fun z hz => by
            rw [HY.out] at hz
            obtain rfl := Option.some.inj hz
            rw [HYo.out, HXo.out]
            exact hne)).symm
        have HE := Lib.hid (HP.out _ HS2.out.2)
        have HKC : Hid (k ≤ cap) := Lib.hid (by have := HC.out; omega)
        have hsl : ∀ W : World, (Instr.sliceAt 95 (.slice (some ⟨g, o', none⟩) N cap) none (some (.int .i64 (k : Int))) none).run Tryz.prog W = .ok (.slice (some ⟨g, o', none⟩) k cap) W := sliceToF (some ⟨g, o', none⟩) N cap k HKC.out
        clear hne HST
        go_wp2_with fail
        first | exact HE.out | (go_ret; exact HE.out)
      · have heq2 : yo / wide = xo / wide := by simpa using hcase
        have HQ2 : Hid (∀ i z, 1 ≤ i → i < k + 1 → l[i]? = some z → z.1 / wide = x.1 / wide) := Lib.hid (fun i z h1 h2 hz => by
          by_cases e : i = k
          · subst e
            rw [HY.out] at hz
            obtain rfl := Option.some.inj hz
            rw [HYo.out, HXo.out]
            exact heq2
          · exact HQ.out i z h1 (by omega) hz)
        clear heq2 HST
        go_wp2_with fail
        go_roundw
        case rel => exact ⟨k + 1, by omega, by omega, by go_num, HQ2.out, HS2.out⟩
        case measure => simp [intOf]; omega
    · obtain rfl : k = N := by omega
      obtain rfl : hn = k := by
        rw [← HHN.out]
        exact headN_is HX0.out hk1 (by have := HN.out; omega) HQ.out (fun z hz => by
          have := (List.getElem?_eq_some_iff.1 hz).1
          have := HN.out
          omega)
      have hltf : decide ((hn : Int) < (hn : Int)) = false := by simp
      go_upto_region 2 with fail
      refine gS (.take 0 (.take 1 (.take 2 (.take 3 (.take 4 (.take 5 (.take 6 (.take 7 (.take 8 (.take 9 (.take 10 (.take 11 (.take 12 (.take 13 (.take 14 (.take 15 (.take 16 (.take 17 (.take 18 (.take 19 (.nil))))))))))))))))))))) (fun _ => True) (trivial) ?_
      refine gT (.int .i64 (hn : Int)) ?_; try simp only [pS]
      refine gT (.slice (some ⟨g, o', none⟩) hn cap) ?_; try simp only [pS]
      refine gT (.int .i64 hn) ?_; try simp only [pS]
      refine gT (.bool false) ?_; try simp only [pS]
      refine gT (.bool false) ?_; try simp only [pS]
      refine wpG_pass _ rfl (by rfl) ?_; try simp only [pS]
      refine wpG_pass _ rfl (by rfl) ?_; try simp only [pS]
      refine wpG_pass _ rfl (by rfl) ?_; try simp only [pS]
      refine wpG_pass _ rfl (by rfl) ?_; try simp only [pS]
      refine wpG_pass _ rfl (by rfl) ?_; try simp only [pS]
      refine wpG_pass _ rfl (by rfl) ?_; try simp only [pS]
      refine wpG_pass _ rfl (by rfl) ?_; try simp only [pS]
      refine wpG_pass _ rfl (by rfl) ?_; try simp only [pS]
      refine wpG_pass _ rfl (by rfl) ?_; try simp only [pS]
      refine wpG_pass _ rfl (by rfl) ?_; try simp only [pS]
      refine wpG_pass _ rfl (by rfl) ?_; try simp only [pS]
      refine wpG_pass _ rfl (by rfl) ?_; try simp only [pS]
      refine wpG_pass _ rfl (by rfl) ?_; try simp only [pS]
      refine wpG_pass _ rfl (by rfl) ?_; try simp only [pS]
      refine gT (.bool false) ?_; try simp only [pS]
      refine wpG_nil ?_
      have HE := Lib.hid (HP.out _ HST.out.2.drew)
      have hsl : ∀ W : World, (Instr.sliceAt 95 (.slice (some ⟨g, o', none⟩) hn cap) none (some (.int .i64 (hn : Int))) none).run Tryz.prog W = .ok (.slice (some ⟨g, o', none⟩) hn cap) W := sliceToF (some ⟨g, o', none⟩) hn cap hn HC.out
      clear hk hlt HST
      go_wp2_with fail
      first | exact HE.out | (go_ret; exact HE.out)
end Go.Proofs.YtjgjohdeeeoeoaaGreatDoor
namespace Go.Proofs.YtjgjohdeeeoeoaaGreatDoor
open Go.RowKit
def Stable (S : World → Prop) : Prop := ∀ w w', S w → Below w.heap.size w w' → S w'
section
variable {ops : Array Oper} {Q : Exit → Act → World → Prop} {S : World → Prop}
theorem wpG_says {i : Nat} {r : Tr} {a : Act} {w : World} (o : Oper) (hi : ops.toList[i]? = some o) (hw : Region.wanted o (yielded ops a.tmps) = true) (f : FuncId) (args : Array Value) (hrun : ∀ w, (execOp a.eval o).run Tryz.prog w = .ok (.enter f args) w)
    (hst : Stable S) (hS : S w) (v : Value) (hc : Calls Tryz.prog f args w fun e w' => e = .returned v ∧ Below w.heap.size w w')
    (h : ∀ w', S w' → wpG Tryz.prog ops Q r S (a.put o.dst v) w') : wpG Tryz.prog ops Q (.step i r) S a w :=
  wpG_call o hi hw f args hrun (fun u _ => u = v) (hc.mono fun _ w' ⟨e1, hb⟩ => ⟨v, e1, hst _ _ hS hb, rfl⟩) fun u w' hS' hu => by
    subst hu
    exact ⟨S, fun _ h => h, hS', h w' hS'⟩
end
section
variable {ops : Array Oper} {Q : Exit → Act → World → Prop}
end
theorem ex_eql {ρ : Operand → Value} {o : Oper} {x y : Operand} {k : TypeId} {a b : List (BitVec 8)} {w : World} (ho : o.op = .binOp .eql 9 x y k) (hx : ρ x = .string (bstr a)) (hy : ρ y = .string (bstr b)) :
    (execOp ρ o).run Tryz.prog w = .ok (.value (.bool (decide (a = b)))) w := by
  unfold execOp
  simp [go_sem, ho, hx, hy, bstr_eq]
theorem ex_neq {ρ : Operand → Value} {o : Oper} {x y : Operand} {k : TypeId} {a b : List (BitVec 8)} {w : World} (ho : o.op = .binOp .neq 9 x y k) (hx : ρ x = .string (bstr a)) (hy : ρ y = .string (bstr b)) :
    (execOp ρ o).run Tryz.prog w = .ok (.value (.bool (!decide (a = b)))) w := by
  unfold execOp
  simp [go_sem, ho, hx, hy, bstr_eq]
end Go.Proofs.YtjgjohdeeeoeoaaGreatDoor
