/- NodePuts, walked. -/
import Derived.Test.YtincpdnmaiimnaaDoorNw
namespace Go.Proofs.YtincpdnmaiimnaaDoor
open Go.RowKit

theorem lenN_holes {ns : List Pt} (h : NOK ns) : lenN ns = 0 ↔ ns = holes := by
  unfold lenN
  rw [List.length_eq_zero_iff, List.filter_eq_nil_iff]
  constructor
  · intro H
    refine List.eq_replicate_of_mem (a := zeroP) ?_ |>.trans (by rw [h.len]; rfl)
    intro p hp
    have := H p hp
    exact eqP_iff.1 (by simpa using this)
  · rintro rfl p hp
    rw [List.eq_of_mem_replicate hp, eqP_same]; simp
theorem ex_ldA {ρ : Operand → Value} {o : Oper} {x : Operand} {w : World} {ns : List Pt} (h : NOK ns) {g : Nat} {t' : TypeId} (hB : Blk w g (ncells ns) t') (ho : o.op = .load 29 x) (hx : ρ x = .pointer (some ⟨g, 0, none⟩)) : (execOp ρ o).run Tryd.prog w = .ok (.value (.agg (ncells ns).toArray)) w := ex_ldT Tryd.underlying29 size_a8 h hB ho hx
def LpRel (ns : List Pt) (w : World) (v n b i : Value) (wr : World) : Prop := ∃ k c : Nat, k ≤ 8 ∧ c ≤ k ∧ i = .int .i64 (k : Int) ∧ b = .bool (putOk (ns.take k)) ∧ c = lenN (ns.take k) ∧ n = .int .i64 (c : Int) ∧ OwnB wr (w.heap.size + 1) v (nodeB (ns.take k)) ∧ Blk wr w.heap.size (ncells ns) 29 ∧ Below w.heap.size w wr
set_option maxRecDepth 100000 in
set_option maxHeartbeats 8000000 in
theorem nodePuts_walk (ns : List Pt) (h : NOK ns) (w : World) (hT : RTab w) : Calls Tryd.prog 3 #[.agg (ncells ns).toArray] w fun e w' => e = .returned (.bool true) ∧ Below w.heap.size w w' := by
  have HP := Lib.hid h
  have HT := Lib.hid hT
  have HR : Hid (LpRel ns w (.slice none 0 0) (.int .i64 0) (.bool true) (.int .i64 0) (w.alloc (.cells (ncells ns).toArray 29))) := Lib.hid ⟨0, 0, by omega, by omega, rfl, rfl, rfl, rfl, ownB_none _ _, Blk.new _ _ _, (Below.refl _ _).alloc (Nat.le_refl _) _⟩
  clear h hT
  go_enter Tryd.func3, Tryd.ntmps3
  go_wp2_with fail
  go_loopw [3, 4, 5, 6] (fun v n b i wr => LpRel ns w v n b i wr) (fun _ _ _ i _ => 8 - (intOf i).toNat)
  case atStart => exact HR.out
  case round =>
    clear HR
    obtain ⟨k, c, hk, hck, rfl, rfl, hc, rfl, hO, hX, hB⟩ := hrel
    obtain ⟨sp4, cap4, e, q1, q2, q3, q4, q5⟩ := OwnB.form hO
    rw [len_takeB HP.out hk] at e
    subst e
    have HC := Lib.hid hc; have HO := Lib.hid hO; have HX := Lib.hid hX; have HB := Lib.hid hB
    clear hc hO hX hB q1 q2 q3 q4 q5
    have wk1 := IntWalk.i64_in ((k : Int) + 1) (by omega)
    have wk2 := IntWalk.i64_in ((c : Int) + 1) (by omega)
    by_cases hlt : k < 8
    · obtain ⟨p, hp⟩ := HP.out.get hlt
      have HPO := Lib.hid (HP.out.at hp)
      have HAT := Lib.hid hp
      have HLT := Lib.hid (lenN_take hp)
      have HPT := Lib.hid (putOk_take hp)
      clear hp
      have h0k : (0 : Int) ≤ (k : Int) := by omega
      have hk8 : (k : Int) < 8 := by omega
      have HSN := Lib.hid (len_takeB HP.out hk)
      cases hok : putOk (ns.take k)
      · have HFV : Hid (putOk (ns.take k) = false) := Lib.hid hok
        rw [hok] at HPT
        go_upto_region 8 with fail
        have HX7 := Lib.hid HX.out; have HO7 := Lib.hid HO.out; have HB7 := Lib.hid HB.out
        obtain ⟨W7, eW⟩ : ∃ W, W = wr := ⟨_, rfl⟩
        rw [← eW] at HX7 HO7 HB7 ⊢
        clear eW HX HO HB hok
        have HQB := Lib.hid (qbytes_any p HPO.out W7)
        go_wp2_with (first | (refine wpL_val rfl (ex_ldE HP.out HX7.out HAT.out (Nat.mul_comm k 41) rfl rfl) ?_) | fail)
        refine HQB.out.mono ?_
        rintro e w8 ⟨v8, rfl, ho8, hb8⟩
        obtain ⟨sp8, cap8, rfl, -, -, r3, r4, -⟩ := OwnB.form ho8
        have hsz := HB7.out.size
        have hsz8 := hb8.size
        have hxl := HX7.out.lt
        obtain ⟨v9, w9, hr9, ho9, hb9⟩ := ownB_src (m := padB p) (OwnB.below HO7.out hb8 (Nat.le_refl _)) (by omega) (by rw [HSN.out, padB_length HPO.out]; omega) r3 r4 30
        rw [padB_length HPO.out] at hr9
        rw [← nodeB_take HAT.out] at ho9
        have HA9 : Hid (∀ ty, (Builtin.append_ #[30, 30] ty #[.slice sp4 (64 * k : Nat) cap4, .slice sp8 (64 : Nat) cap8]).run Tryd.prog w8 = .ok v9 w9) := Lib.hid fun _ => hr9
        have HO9 := Lib.hid ho9
        have HX9 := Lib.hid ((HX7.out.below hb8 hxl).below hb9 (by omega))
        have HB9 := Lib.hid (HB7.out.trans ((hb8.mono hsz).trans (hb9.mono (by omega))))
        rw [padB_length HPO.out]
        clear hr9 ho9 hb9 ho8 hb8 r3 r4 hsz hsz8 hxl HQB HX7 HO7 HB7
        cases hz : eqP p zeroP
        · have HZ := Lib.hid hz
          rw [hz] at HLT
          clear hz
          go_wp2_with (first | (at_builtin; refine wpL_val rfl (ex_appB rfl rfl rfl (HA9.out _)) ?_) | (refine wpL_val rfl (ex_ldE HP.out HX9.out HAT.out (Nat.mul_comm k 41) rfl rfl) ?_) | (refine wpL_val rfl (ex_bld0 rfl) ?_) | (refine wpL_val rfl (ex_nePb HZ.out rfl rfl rfl HPO.out) ?_) | fail)
          go_roundw
          case rel => exact ⟨k + 1, c + 1, by omega, by omega, by go_num, by rw [HPT.out]; first | rfl | (rw [HFV.out]; rfl), by rw [HLT.out, ← HC.out]; rfl, by first | rfl | go_num, HO9.out, HX9.out, HB9.out⟩
          case measure => simp [intOf]; omega
        · have HZ := Lib.hid hz
          rw [hz] at HLT
          clear hz
          go_wp2_with (first | (at_builtin; refine wpL_val rfl (ex_appB rfl rfl rfl (HA9.out _)) ?_) | (refine wpL_val rfl (ex_ldE HP.out HX9.out HAT.out (Nat.mul_comm k 41) rfl rfl) ?_) | (refine wpL_val rfl (ex_bld0 rfl) ?_) | (refine wpL_val rfl (ex_nePb HZ.out rfl rfl rfl HPO.out) ?_) | fail)
          go_roundw
          case rel => exact ⟨k + 1, c, by omega, by omega, by go_num, by rw [HPT.out]; first | rfl | (rw [HFV.out]; rfl), by rw [HLT.out, ← HC.out]; rfl, by first | rfl | go_num, HO9.out, HX9.out, HB9.out⟩
          case measure => simp [intOf]; omega
      · rw [hok] at HPT
        obtain ⟨f, hf⟩ : ∃ f, fineP p = f := ⟨_, rfl⟩
        have HFV := Lib.hid hf
        have HGD := Lib.hid (good_any p HPO.out wr)
        rw [hf] at HGD
        clear hok hf
        go_upto_region 8 with (first | (refine wpL_valG (by rfl) (ex_ldE HP.out HX.out HAT.out (Nat.mul_comm k 41) rfl rfl) ?_) | (go_at_call 6; refine HGD.out.mono ?_; rintro e W7 ⟨rfl, hb7⟩; have HB7' := Lib.hid hb7; clear hb7) | fail)
        have HX7 := Lib.hid (HX.out.below HB7'.out HX.out.lt); have HO7 := Lib.hid (OwnB.below HO.out HB7'.out (Nat.le_refl _)); have HB7 := Lib.hid (HB.out.trans (HB7'.out.mono HB.out.size))
        clear HB7' HX HO HB HGD
        have HQB := Lib.hid (qbytes_any p HPO.out W7)
        go_wp2_with (first | (refine wpL_val rfl (ex_ldE HP.out HX7.out HAT.out (Nat.mul_comm k 41) rfl rfl) ?_) | fail)
        refine HQB.out.mono ?_
        rintro e w8 ⟨v8, rfl, ho8, hb8⟩
        obtain ⟨sp8, cap8, rfl, -, -, r3, r4, -⟩ := OwnB.form ho8
        have hsz := HB7.out.size
        have hsz8 := hb8.size
        have hxl := HX7.out.lt
        obtain ⟨v9, w9, hr9, ho9, hb9⟩ := ownB_src (m := padB p) (OwnB.below HO7.out hb8 (Nat.le_refl _)) (by omega) (by rw [HSN.out, padB_length HPO.out]; omega) r3 r4 30
        rw [padB_length HPO.out] at hr9
        rw [← nodeB_take HAT.out] at ho9
        have HA9 : Hid (∀ ty, (Builtin.append_ #[30, 30] ty #[.slice sp4 (64 * k : Nat) cap4, .slice sp8 (64 : Nat) cap8]).run Tryd.prog w8 = .ok v9 w9) := Lib.hid fun _ => hr9
        have HO9 := Lib.hid ho9
        have HX9 := Lib.hid ((HX7.out.below hb8 hxl).below hb9 (by omega))
        have HB9 := Lib.hid (HB7.out.trans ((hb8.mono hsz).trans (hb9.mono (by omega))))
        rw [padB_length HPO.out]
        clear hr9 ho9 hb9 ho8 hb8 r3 r4 hsz hsz8 hxl HQB HX7 HO7 HB7
        cases hz : eqP p zeroP
        · have HZ := Lib.hid hz
          rw [hz] at HLT
          clear hz
          go_wp2_with (first | (at_builtin; refine wpL_val rfl (ex_appB rfl rfl rfl (HA9.out _)) ?_) | (refine wpL_val rfl (ex_ldE HP.out HX9.out HAT.out (Nat.mul_comm k 41) rfl rfl) ?_) | (refine wpL_val rfl (ex_bld0 rfl) ?_) | (refine wpL_val rfl (ex_nePb HZ.out rfl rfl rfl HPO.out) ?_) | fail)
          go_roundw
          case rel => exact ⟨k + 1, c + 1, by omega, by omega, by go_num, by rw [HPT.out]; first | rfl | (rw [HFV.out]; rfl), by rw [HLT.out, ← HC.out]; rfl, by first | rfl | go_num, HO9.out, HX9.out, HB9.out⟩
          case measure => simp [intOf]; omega
        · have HZ := Lib.hid hz
          rw [hz] at HLT
          clear hz
          go_wp2_with (first | (at_builtin; refine wpL_val rfl (ex_appB rfl rfl rfl (HA9.out _)) ?_) | (refine wpL_val rfl (ex_ldE HP.out HX9.out HAT.out (Nat.mul_comm k 41) rfl rfl) ?_) | (refine wpL_val rfl (ex_bld0 rfl) ?_) | (refine wpL_val rfl (ex_nePb HZ.out rfl rfl rfl HPO.out) ?_) | fail)
          go_roundw
          case rel => exact ⟨k + 1, c, by omega, by omega, by go_num, by rw [HPT.out]; first | rfl | (rw [HFV.out]; rfl), by rw [HLT.out, ← HC.out]; rfl, by first | rfl | go_num, HO9.out, HX9.out, HB9.out⟩
          case measure => simp [intOf]; omega
    · obtain rfl : k = 8 := by omega
      have e8 : ns.take 8 = ns := List.take_of_length_le (by rw [HP.out.len]; omega)
      have hlB := len_takeB HP.out hk
      rw [e8] at HC HO hlB ⊢
      have HLB := Lib.hid hlB
      rw [show ((8 : Nat) : Int) = (8 : Int) from rfl]
      have HPU := Lib.hid (nodePut_any ns HP.out wr (HT.out.grown HB.out))
      have HWK : Hid (∀ W, Below w.heap.size w W → Calls Tryd.prog 9 #[] W fun e w' => e = .returned (.bool true) ∧ Below w.heap.size w w') := Lib.hid fun W hb => (nwakes_any W (HT.out.grown hb)).mono fun e w' ⟨h1, h2⟩ => ⟨h1, hb.trans (h2.mono hb.size)⟩
      clear e8 hlB hk hlt
      go_wp2_with (first | (refine wpL_val rfl (ex_ldA HP.out HX.out rfl rfl) ?_) | fail)
      refine HPU.out.mono ?_
      rintro e w5 ⟨h5 | h5, hb5⟩
      · obtain ⟨hok, v5, rfl, ho5⟩ := h5
        obtain ⟨sp5, cap5, rfl, r1, r2, r3, r4, r5⟩ := OwnB.form ho5
        rw [HLB.out, hok]
        obtain ⟨_, _, e4, _, _, s3, _, _⟩ := OwnB.form HO.out
        obtain ⟨rfl, -, rfl⟩ : sp4 = _ ∧ _ ∧ cap4 = _ := by injection e4 with e1 e2 e3; exact ⟨e1, trivial, e3⟩
        have HS5 := Lib.hid r3
        have HS4 := Lib.hid (SrcA.grown s3 hb5)
        have HX5 := Lib.hid (HX.out.below hb5 HX.out.lt)
        have HB5 := Lib.hid (HB.out.trans (hb5.mono HB.out.size))
        clear hok ho5 r1 r2 r3 r4 r5 e4 s3 hb5 HX HO HB HPU
        go_wp2_with (first | (refine wpL_valG (by rfl) (ex_cvs rfl HLB.out rfl HS5.out) ?_) | (refine wpL_valG (by rfl) (ex_cvs rfl HLB.out rfl HS4.out) ?_) | (refine wpL_valG (by rfl) (ex_eqSt rfl rfl rfl) ?_) | (refine wpL_valG (by rfl) (ex_ldA HP.out HX5.out rfl rfl) ?_) | fail)
        have HLN := Lib.hid (len_any ns HP.out)
        rw [← HC.out] at HLN
        have HEM := Lib.hid (empty_any ns HP.out w5)
        by_cases hc0 : c = 0
        · have hd : decide (ns = holes) = true := decide_eq_true ((lenN_holes HP.out).1 (by rw [← HC.out]; exact hc0))
          rw [hd] at HEM
          subst hc0
          rw [show ((0 : Nat) : Int) = (0 : Int) from rfl] at HLN ⊢
          clear hd
          refine HEM.out.mono ?_
          rintro e w6 ⟨rfl, hb6⟩
          have HX6 := Lib.hid (HX5.out.below hb6 HX5.out.lt)
          have HB6 := Lib.hid (HB5.out.trans (hb6.mono HB5.out.size))
          clear hb6 HX5 HB5 HEM
          go_wp2_with (first | (refine wpL_valG (by rfl) (ex_ldA HP.out HX6.out rfl rfl) ?_) | fail)
          refine (HLN.out w6).mono ?_
          rintro e w7 ⟨rfl, hb7⟩
          have HB7 := Lib.hid (HB6.out.trans (hb7.mono HB6.out.size))
          clear hb7 HX6 HB6 HLN
          go_wp2_with fail
          refine (HWK.out w7 HB7.out).mono ?_
          rintro e w8 ⟨rfl, hb8⟩
          have HB8 := Lib.hid hb8
          clear hb8
          go_wp2_with fail
          go_ret
          exact ⟨rfl, HB8.out⟩
        · have hd : decide (ns = holes) = false := decide_eq_false (fun h => hc0 (by rw [HC.out]; exact (lenN_holes HP.out).2 h))
          rw [hd] at HEM
          have hc1 : ¬ (c : Int) = 0 := by omega
          have hc2 : ((c : Int) == 0) = false := by rw [beq_eq_false_iff_ne]; omega
          clear hd
          refine HEM.out.mono ?_
          rintro e w6 ⟨rfl, hb6⟩
          have HX6 := Lib.hid (HX5.out.below hb6 HX5.out.lt)
          have HB6 := Lib.hid (HB5.out.trans (hb6.mono HB5.out.size))
          clear hb6 HX5 HB5 HEM
          go_wp2_with (first | (refine wpL_valG (by rfl) (ex_ldA HP.out HX6.out rfl rfl) ?_) | fail)
          refine (HLN.out w6).mono ?_
          rintro e w7 ⟨rfl, hb7⟩
          have HB7 := Lib.hid (HB6.out.trans (hb7.mono HB6.out.size))
          clear hb7 HX6 HB6 HLN
          go_wp2_with fail
          refine (HWK.out w7 HB7.out).mono ?_
          rintro e w8 ⟨rfl, hb8⟩
          have HB8 := Lib.hid hb8
          clear hb8
          go_wp2_with fail
          go_ret
          exact ⟨rfl, HB8.out⟩
      · obtain ⟨hok, rfl⟩ := h5
        rw [hok]
        have HB5 := Lib.hid (HB.out.trans (hb5.mono HB.out.size))
        clear hok hb5 HX HO HB HPU
        go_wp2_with fail
        refine (HWK.out w5 HB5.out).mono ?_
        rintro e w6 ⟨rfl, hb6⟩
        have HB6 := Lib.hid hb6
        clear hb6
        go_wp2_with fail
        go_ret
        exact ⟨rfl, HB6.out⟩
end Go.Proofs.YtincpdnmaiimnaaDoor
