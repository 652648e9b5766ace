/- InodePuts, walked. -/
import Derived.Test.YtecngehkdjmjmaaDoorM15
import Derived.Test.YtecngehkdjmjmaaDoorM01
import Derived.ProofKit
import Derived.OpenShut
import Derived.Test.YtecngehkdjmjmaaDoorM05
import Derived.Deep.QuietTactic
import Derived.BigQuiet
import Derived.StillTailTactics
import Derived.WalkKit
import Derived.Lib.Hide
import Derived.Test.YtecngehkdjmjmaaDoorM02
import Derived.LaidMore
import Derived.Stop.Joined
import Derived.Test.YtecngehkdjmjmaaDoorM10
namespace Go.Proofs.YtecngehkdjmjmaaDoor
open Go.RowKit

theorem cpyI_at {ns : List Ino} (h : BOK ns) {k : Nat} (hk : k < 4) {n : Ino} (hn : ns[k]? = some n) : (cpyI (k + 1) ns)[k]? = some n := by
  rw [cpyI_next h hk hn, List.getElem?_set_self (by rw [(cpyI_ok h (Nat.le_of_lt hk)).len]; exact hk)]
theorem allMay_next {ns : List Ino} {k : Nat} {n : Ino} (hn : ns[k]? = some n) : allMay (ns.take (k + 1)) = (allMay (ns.take k) && mayI n) := by
  unfold allMay
  rw [itake_snoc hn]
  simp
theorem srcA_nil (w : World) : SrcA w none [] := fun h => by simp at h
theorem ex_slA {ρ : Operand → Value} {o : Oper} {x : Operand} {b : Nat} {w : World} (ho : o.op = .slice 31 x none none none) (hx : ρ x = .pointer (some ⟨b, 0, none⟩)) : (execOp ρ o).run Tryd.prog w = .ok (.value (.slice (some ⟨b, 0, none⟩) 4 4)) w := by
  unfold execOp
  simp only [ho]
  go_simp
set_option maxRecDepth 100000 in
set_option maxHeartbeats 16000000 in
theorem inodePuts_walk (ns : List Ino) (h : BOK ns) (w : World) (hT : RTab w) : Calls Tryd.prog 3 #[.agg (bcells ns).toArray] w fun e w' => e = .returned (.bool true) ∧ Below w.heap.size w w' := by
  have HP := Lib.hid h; have HTT := Lib.hid hT
  have HX : Hid (∀ z, z = (bcells zeros4).toArray → IbW ns zeros4 [] none w ((w.alloc (.cells (bcells ns).toArray 31)).alloc (.cells z 34))) := Lib.hid (fun z hz => by
    subst hz
    have hb : Below w.heap.size w ((w.alloc (.cells (bcells ns).toArray 31)).alloc (.cells (bcells zeros4).toArray 34)) := ((Below.refl _ _).alloc (Nat.le_refl _) _).alloc (by simp) _
    exact ⟨(Blk.new _ _ _).alloc _, Blk.new' _ _ _ _ _ (by simp) rfl, srcA_nil _, hT.grown hb, hb⟩)
  have HWK : Hid (∀ W, Below w.heap.size w W → RTab W → Calls Tryd.prog 11 #[] W fun e w' => e = .returned (.bool true) ∧ Below w.heap.size w w') := Lib.hid fun W hb ht => (iwakes_any W ht).mono fun e w' ⟨h1, h2⟩ => ⟨h1, hb.trans (h2.mono hb.size)⟩
  generalize hPost : (fun e w' => e = Ending.returned (.bool true) ∧ Below w.heap.size w w') = Post
  have HPP : Hid (∀ w', Below w.heap.size w w' → Post (.returned (.bool true)) w') := Lib.hid fun w' h => by rw [← hPost]; exact ⟨rfl, h⟩
  clear h hT hPost
  go_enter Tryd.func3, Tryd.ntmps3
  go_upto_region 2 with fail
  refine (fun (k : ∀ W, IbW ns zeros4 [] none w W → Code.wp _ _ _ _ W) => k _ (HX.out _ rfl)) ?_
  intro W0 h0
  have HX0 := Lib.hid h0
  clear h0 HX
  go_wp2_with fail
  go_loopw [4, 5] (fun b i wr => ∃ k : Nat, k ≤ 4 ∧ i = .int .i64 (k : Int) ∧ b = .bool (allMay (ns.take k)) ∧ IbW ns (cpyI k ns) [] none w wr) (fun _ i _ => 4 - (intOf i).toNat)
  case atStart => exact ⟨0, by omega, rfl, rfl, HX0.out⟩
  case round =>
    clear HX0
    obtain ⟨k, hk, rfl, rfl, hx⟩ := hrel
    have HXk := Lib.hid hx
    clear hx
    have wk1 := IntWalk.i64_in ((k : Int) + 1) (by omega)
    by_cases hlt : k < 4
    · obtain ⟨n, hn⟩ := HP.out.get hlt
      have HNO := Lib.hid (HP.out.at hn)
      have HAT := Lib.hid hn
      have HLT := Lib.hid hlt
      have HCO := Lib.hid (cpyI_ok HP.out (show k + 1 ≤ 4 by omega))
      have HCA := Lib.hid (cpyI_at HP.out hlt hn)
      obtain ⟨ob, hob⟩ : ∃ b, allMay (ns.take k) = b := ⟨_, rfl⟩
      obtain ⟨mb, hmb⟩ : ∃ b, mayI n = b := ⟨_, rfl⟩
      have HNX : Hid (allMay (ns.take (k + 1)) = (ob && mb)) := Lib.hid (by rw [allMay_next hn, hob, hmb])
      have HMB := Lib.hid hmb
      rw [hob]
      clear hn hob hmb
      go_wp2_with (first | (refine wpL_valG (by rfl) (ex_iaA HLT.out rfl rfl rfl) ?_) | (refine wpL_valG (by rfl) (ex_ldER HP.out HXk.out.a HAT.out (Nat.mul_comm k 44) rfl rfl) ?_) | fail)
      refine (of_any n HNO.out wr).mono ?_
      rintro e w3 ⟨rfl, hb3⟩
      have hx3 := HXk.out.grown hb3
      have HX4 := Lib.hid (hx3.put (srcA_nil _) HTT.out (cpyI_ok HP.out hk) hlt HNO.out)
      rw [← cpyI_next HP.out hlt HAT.out] at HX4
      have HTH : Hid (w3.there (w.heap.size + 1) (k * 44) (icells n).toArray.size) := Lib.hid (hx3.x.there _ _ (by rw [List.size_toArray, icells_length HNO.out, (cpyI_ok HP.out hk).cells]; omega))
      have HSZ := Lib.hid (size_icI HNO.out)
      clear hx3 hb3 HXk
      go_upto_region 7 with (first | (refine wpL_valG (by rfl) (ex_iaB HLT.out rfl rfl rfl) ?_) | (refine wpList_store_mid rfl 32 (.tmp 17) (.tmp 16) rfl (w.heap.size + 1) (k * 44) (icells n).toArray rfl rfl HTH.out HSZ.out (one_ic n) ?_) | fail)
      generalize (w3.setCells (w.heap.size + 1) (k * 44) (icells n)) = W4 at HX4 ⊢
      clear HTH
      cases ob
      · go_upto_region 8 with (first | (refine wpL_valG (by rfl) (ex_iaA HLT.out rfl rfl rfl) ?_) | (refine wpL_valG (by rfl) (ex_ldER HP.out HX4.out.a HAT.out (Nat.mul_comm k 44) rfl rfl) ?_) | fail)
        obtain ⟨V, hV⟩ : ∃ V, W4 = V := ⟨_, rfl⟩
        rw [hV] at HX4 ⊢
        clear hV
        have hs0 : IbW ns (cpyI (k + 1) ns) [] none w V.drew := HX4.out.grown (Below.refl _ _).drew
        refine wp_region_sched (.take 0 (.take 1 (.take 2 (.take 4 (.take 5 (.take 6 (.step 3 (.step 7 (.take 8 (.nil)))))))))) (by kernel_rfl) (by kernel_rfl) (fun d _ _ _ _ h => by cases d <;> exact h) (IbW ns (cpyI (k + 1) ns) [] none w) (hs0) ?_
        refine wpG_take _ (.int .i64 (k : Int)) rfl (by rfl) (fun X hX => by first | rfl | go_simp) ?_
        (try simp only [Act.put, List.setIfInBounds_toArray, List.set_cons_zero, List.set_cons_succ])
        refine wpG_take _ (.pointer (some ⟨w.heap.size + 1, k * 44, none⟩)) rfl (by rfl) (fun X hX => ex_iaB HLT.out rfl rfl rfl) ?_
        (try simp only [Act.put, List.setIfInBounds_toArray, List.set_cons_zero, List.set_cons_succ])
        refine wpG_take _ (.agg (icells n).toArray) rfl (by rfl) (fun X hX => ex_ldEI HCO.out hX.x HCA.out (Nat.mul_comm k 44) rfl rfl) ?_
        (try simp only [Act.put, List.setIfInBounds_toArray, List.set_cons_zero, List.set_cons_succ])
        refine wpG_take _ (.int .i64 (k : Int)) rfl (by rfl) (fun X hX => by first | rfl | go_simp) ?_
        (try simp only [Act.put, List.setIfInBounds_toArray, List.set_cons_zero, List.set_cons_succ])
        refine wpG_take _ (.pointer (some ⟨w.heap.size, k * 44, none⟩)) rfl (by rfl) (fun X hX => ex_iaA HLT.out rfl rfl rfl) ?_
        (try simp only [Act.put, List.setIfInBounds_toArray, List.set_cons_zero, List.set_cons_succ])
        refine wpG_take _ (.agg (icells n).toArray) rfl (by rfl) (fun X hX => ex_ldER HP.out hX.a HAT.out (Nat.mul_comm k 44) rfl rfl) ?_
        (try simp only [Act.put, List.setIfInBounds_toArray, List.set_cons_zero, List.set_cons_succ])
        refine wpG_call _ rfl (by rfl) 9 #[.agg (icells n).toArray] (fun X => by go_simp) (fun u X => u = .bool mb) ((imay_any n HNO.out _ hs0.tab).mono fun e X ⟨e1, e2⟩ => ⟨_, e1, hs0.grown e2, by rw [HMB.out]⟩) ?_
        rintro u Y1 hs1 rfl
        refine ⟨IbW ns (cpyI (k + 1) ns) [] none w, fun _ h => h, hs1, ?_⟩
        (try simp only [Act.put, List.setIfInBounds_toArray, List.set_cons_zero, List.set_cons_succ])
        refine wpG_call _ rfl (by rfl) 8 #[.agg (icells n).toArray] (fun X => by go_simp) (fun u X => u = .bool mb) ((rimay_any n HNO.out _).mono fun e X ⟨e1, e2⟩ => ⟨_, e1, hs1.grown e2, by rw [HMB.out]⟩) ?_
        rintro u Y2 hs2 rfl
        refine ⟨IbW ns (cpyI (k + 1) ns) [] none w, fun _ h => h, hs2, ?_⟩
        (try simp only [Act.put, List.setIfInBounds_toArray, List.set_cons_zero, List.set_cons_succ])
        refine wpG_take _ (.bool false) rfl (by rfl) (fun X hX => (by cases mb <;> go_simp)) ?_
        (try simp only [Act.put, List.setIfInBounds_toArray, List.set_cons_zero, List.set_cons_succ])
        refine wpG_nil ?_
        have HX6 := Lib.hid hs2
        clear hs0 hs1 hs2 HX4
        go_wp2_with fail
        go_roundw
        case rel => exact ⟨k + 1, by omega, by go_num, by rw [HNX.out]; rfl, HX6.out⟩
        case measure => simp [intOf]; omega
      · go_wp2_with (first | (refine wpL_valG (by rfl) (ex_iaA HLT.out rfl rfl rfl) ?_) | (refine wpL_valG (by rfl) (ex_ldER HP.out HX4.out.a HAT.out (Nat.mul_comm k 44) rfl rfl) ?_) | fail)
        refine (rimay_any n HNO.out W4).mono ?_
        rintro e V ⟨rfl, hb5⟩
        have hx5 := HX4.out.grown hb5
        clear HX4 hb5
        have HX4 := Lib.hid hx5
        clear hx5
        rw [HMB.out]
        go_upto_region 8 with fail
        have hs0 : IbW ns (cpyI (k + 1) ns) [] none w V.drew := HX4.out.grown (Below.refl _ _).drew
        refine wp_region_sched (.take 0 (.take 1 (.take 2 (.take 4 (.take 5 (.take 6 (.step 3 (.step 7 (.take 8 (.nil)))))))))) (by kernel_rfl) (by kernel_rfl) (fun d _ _ _ _ h => by cases d <;> exact h) (IbW ns (cpyI (k + 1) ns) [] none w) (hs0) ?_
        refine wpG_take _ (.int .i64 (k : Int)) rfl (by rfl) (fun X hX => by first | rfl | go_simp) ?_
        (try simp only [Act.put, List.setIfInBounds_toArray, List.set_cons_zero, List.set_cons_succ])
        refine wpG_take _ (.pointer (some ⟨w.heap.size + 1, k * 44, none⟩)) rfl (by rfl) (fun X hX => ex_iaB HLT.out rfl rfl rfl) ?_
        (try simp only [Act.put, List.setIfInBounds_toArray, List.set_cons_zero, List.set_cons_succ])
        refine wpG_take _ (.agg (icells n).toArray) rfl (by rfl) (fun X hX => ex_ldEI HCO.out hX.x HCA.out (Nat.mul_comm k 44) rfl rfl) ?_
        (try simp only [Act.put, List.setIfInBounds_toArray, List.set_cons_zero, List.set_cons_succ])
        refine wpG_take _ (.int .i64 (k : Int)) rfl (by rfl) (fun X hX => by first | rfl | go_simp) ?_
        (try simp only [Act.put, List.setIfInBounds_toArray, List.set_cons_zero, List.set_cons_succ])
        refine wpG_take _ (.pointer (some ⟨w.heap.size, k * 44, none⟩)) rfl (by rfl) (fun X hX => ex_iaA HLT.out rfl rfl rfl) ?_
        (try simp only [Act.put, List.setIfInBounds_toArray, List.set_cons_zero, List.set_cons_succ])
        refine wpG_take _ (.agg (icells n).toArray) rfl (by rfl) (fun X hX => ex_ldER HP.out hX.a HAT.out (Nat.mul_comm k 44) rfl rfl) ?_
        (try simp only [Act.put, List.setIfInBounds_toArray, List.set_cons_zero, List.set_cons_succ])
        refine wpG_call _ rfl (by rfl) 9 #[.agg (icells n).toArray] (fun X => by go_simp) (fun u X => u = .bool mb) ((imay_any n HNO.out _ hs0.tab).mono fun e X ⟨e1, e2⟩ => ⟨_, e1, hs0.grown e2, by rw [HMB.out]⟩) ?_
        rintro u Y1 hs1 rfl
        refine ⟨IbW ns (cpyI (k + 1) ns) [] none w, fun _ h => h, hs1, ?_⟩
        (try simp only [Act.put, List.setIfInBounds_toArray, List.set_cons_zero, List.set_cons_succ])
        refine wpG_call _ rfl (by rfl) 8 #[.agg (icells n).toArray] (fun X => by go_simp) (fun u X => u = .bool mb) ((rimay_any n HNO.out _).mono fun e X ⟨e1, e2⟩ => ⟨_, e1, hs1.grown e2, by rw [HMB.out]⟩) ?_
        rintro u Y2 hs2 rfl
        refine ⟨IbW ns (cpyI (k + 1) ns) [] none w, fun _ h => h, hs2, ?_⟩
        (try simp only [Act.put, List.setIfInBounds_toArray, List.set_cons_zero, List.set_cons_succ])
        refine wpG_take _ (.bool false) rfl (by rfl) (fun X hX => (by cases mb <;> go_simp)) ?_
        (try simp only [Act.put, List.setIfInBounds_toArray, List.set_cons_zero, List.set_cons_succ])
        refine wpG_nil ?_
        have HX6 := Lib.hid hs2
        clear hs0 hs1 hs2 HX4
        go_wp2_with fail
        go_roundw
        case rel => exact ⟨k + 1, by omega, by go_num, by rw [HNX.out]; rfl, HX6.out⟩
        case measure => simp [intOf]; omega
    · obtain rfl : k = 4 := by omega
      rw [show ((4 : Nat) : Int) = (4 : Int) from rfl]
      rw [cpyI_four HP.out] at HXk
      rw [List.take_of_length_le (by rw [HP.out.len]; omega)]
      clear hlt hk wk1
      have HPU := Lib.hid (iput_any ns HP.out wr HXk.out.tab)
      go_wp2_with (first | (refine wpL_valG (by rfl) (ex_ldBn HP.out HXk.out.x rfl rfl) ?_) | fail)
      refine HPU.out.mono ?_
      rintro e W2 ⟨h5 | h5, hb2⟩
      · obtain ⟨hok, v5, rfl, ho5⟩ := h5
        obtain ⟨sp5, cap5, rfl, r1, r2, r3, r4, r5⟩ := OwnB.form ho5
        have hlen : (blkB ns).length = 512 := by rw [blkB_length HP.out.ok, HP.out.len]
        have HLN := Lib.hid hlen
        rw [hok, hlen]
        have HX2 := Lib.hid (HXk.out.grown hb2)
        have HS5 := Lib.hid r3
        clear ho5 r1 r2 r3 r4 r5 hb2 hok hlen HXk HPU
        go_upto_region 13 with fail
        have hs0 : IbW ns ns [] none w W2.drew ∧ SrcA W2.drew sp5 (blkB ns) := ⟨HX2.out.grown (Below.refl _ _).drew, HS5.out.below (Below.refl _ _).drew (Nat.le_refl _)⟩
        refine wp_region_sched (.take 0 (.take 1 (.take 2 (.take 3 (.take 4 (.take 5 (.step 6 (.take 7 (.take 8 (.take 9 (.take 10 (.step 11 (.take 12 (.take 13 (.nil))))))))))))))) (by kernel_rfl) (by kernel_rfl) (fun d _ _ _ _ h => by cases d <;> exact h) (fun X => IbW ns ns [] none w X ∧ SrcA X sp5 (blkB ns)) (hs0) ?_
        refine wpG_take _ (.int .i64 0) rfl (by rfl) (fun X hX => by first | rfl | go_simp) ?_
        (try simp only [Act.put, List.setIfInBounds_toArray, List.set_cons_zero, List.set_cons_succ])
        refine wpG_take _ (.bool true) rfl (by rfl) (fun X hX => by first | rfl | go_simp) ?_
        (try simp only [Act.put, List.setIfInBounds_toArray, List.set_cons_zero, List.set_cons_succ])
        refine wpG_take _ (.bool true) rfl (by rfl) (fun X hX => by first | rfl | go_simp) ?_
        (try simp only [Act.put, List.setIfInBounds_toArray, List.set_cons_zero, List.set_cons_succ])
        refine wpG_take _ (.slice sp5 512 cap5) rfl (by rfl) (fun X hX => by first | rfl | go_simp) ?_
        (try simp only [Act.put, List.setIfInBounds_toArray, List.set_cons_zero, List.set_cons_succ])
        refine wpG_take _ (.string (bstr (blkB ns))) rfl (by rfl) (fun X hX => ex_cvs rfl HLN.out rfl hX.2) ?_
        (try simp only [Act.put, List.setIfInBounds_toArray, List.set_cons_zero, List.set_cons_succ])
        refine wpG_take _ (.slice (some ⟨w.heap.size, 0, none⟩) 4 4) rfl (by rfl) (fun X hX => ex_slA rfl rfl) ?_
        (try simp only [Act.put, List.setIfInBounds_toArray, List.set_cons_zero, List.set_cons_succ])
        refine wpG_call _ rfl (by rfl) 12 #[.slice (some ⟨w.heap.size, 0, none⟩) 4 4] (fun X => by go_simp) (fun u X => OwnB X W2.drew.heap.size u (blkB ns)) ((riblock_any ns HP.out w.heap.size W2.drew hs0.1.a).mono fun e X ⟨v, e1, e2, e3⟩ => ⟨v, e1, ⟨hs0.1.grown e3, hs0.2.below e3 (Nat.le_refl _)⟩, e2⟩) ?_
        rintro u Y1 hs1 ho6
        obtain ⟨sp6, cap6, rfl, -, -, q3, -, -⟩ := OwnB.form ho6
        rw [HLN.out]
        refine ⟨fun X => IbW ns ns [] none w X ∧ SrcA X sp5 (blkB ns) ∧ SrcA X sp6 (blkB ns), fun _ h => ⟨h.1, h.2.1⟩, ⟨hs1.1, hs1.2, q3⟩, ?_⟩
        (try simp only [Act.put, List.setIfInBounds_toArray, List.set_cons_zero, List.set_cons_succ])
        refine wpG_take _ (.string (bstr (blkB ns))) rfl (by rfl) (fun X hX => ex_cvs rfl HLN.out rfl hX.2.2) ?_
        (try simp only [Act.put, List.setIfInBounds_toArray, List.set_cons_zero, List.set_cons_succ])
        refine wpG_take _ (.bool true) rfl (by rfl) (fun X hX => ex_eqSt rfl rfl rfl) ?_
        (try simp only [Act.put, List.setIfInBounds_toArray, List.set_cons_zero, List.set_cons_succ])
        refine wpG_take _ (.bool true) rfl (by rfl) (fun X hX => by first | rfl | go_simp) ?_
        (try simp only [Act.put, List.setIfInBounds_toArray, List.set_cons_zero, List.set_cons_succ])
        refine wpG_take _ (.bool true) rfl (by rfl) (fun X hX => by first | rfl | go_simp) ?_
        (try simp only [Act.put, List.setIfInBounds_toArray, List.set_cons_zero, List.set_cons_succ])
        refine wpG_call _ rfl (by rfl) 11 #[] (fun X => by go_simp) (fun u X => u = .bool true) ((iwakes_any Y1 hs1.1.tab).mono fun e X ⟨e1, e2⟩ => ⟨_, e1, ⟨hs1.1.grown e2, hs1.2.below e2 (Nat.le_refl _), q3.below e2 (Nat.le_refl _)⟩, rfl⟩) ?_
        rintro u Y2 hs2 rfl
        refine ⟨fun X => IbW ns ns [] none w X ∧ SrcA X sp5 (blkB ns) ∧ SrcA X sp6 (blkB ns), fun _ h => h, hs2, ?_⟩
        (try simp only [Act.put, List.setIfInBounds_toArray, List.set_cons_zero, List.set_cons_succ])
        refine wpG_take _ (.bool true) rfl (by rfl) (fun X hX => by first | rfl | go_simp) ?_
        (try simp only [Act.put, List.setIfInBounds_toArray, List.set_cons_zero, List.set_cons_succ])
        refine wpG_take _ (.bool true) rfl (by rfl) (fun X hX => by first | rfl | go_simp) ?_
        (try simp only [Act.put, List.setIfInBounds_toArray, List.set_cons_zero, List.set_cons_succ])
        refine wpG_nil ?_
        have HE := Lib.hid (HPP.out _ hs2.1.bel)
        clear hs0 hs1 hs2 q3 ho6
        go_wp2_with fail
        first | exact HE.out | (go_ret; exact HE.out)
      · obtain ⟨hno, rfl⟩ := h5
        rw [hno]
        have HX2 := Lib.hid (HXk.out.grown hb2)
        clear hno hb2 HXk HPU
        go_wp2_with fail
        refine (HWK.out _ HX2.out.bel HX2.out.tab).mono ?_
        rintro e W8 ⟨rfl, hb8⟩
        have HE := Lib.hid (HPP.out _ hb8)
        clear hb8
        go_wp2_with fail
        first | exact HE.out | (go_ret; exact HE.out)
end Go.Proofs.YtecngehkdjmjmaaDoor
/- What the rows need: bytes that came in, opened. -/
namespace Go.Proofs.YtecngehkdjmjmaaDoor
open Go.ChangeShapes Go.WideShapes Go.ChangeAt Go.RowKit

theorem own : ownKnob Tryd.prog.godebug = none := by kernel_rfl
theorem laidOut : laidOutB Tryd.prog = true := by kernel_rfl
theorem cellsB : Tryd.prog.cellsOf 5 = 1 := by kernel_rfl
end Go.Proofs.YtecngehkdjmjmaaDoor
/- Pointers that came in; the tables as they are laid. -/
namespace Go.Proofs.YtecngehkdjmjmaaDoor
open Go.ChangeShapes Go.WideShapes Go.ChangeAt Go.WideMaps Go.WideElems Go.RowKit

theorem tRu : (Tryd.prog.globals[0]?).map (·.type) = some 98 := by kernel_rfl
theorem cellsRu : Tryd.prog.cellsOf 89 = 3 := by kernel_rfl
theorem cellsRus : Tryd.prog.cellsOf 98 = 18 := by kernel_rfl
theorem cellsInt : Tryd.prog.cellsOf 3 = 1 := by kernel_rfl
theorem exists_list (P : Nat → Int → Prop) : ∀ n : Nat, (∀ i, i < n → ∃ m, P i m) → ∃ ns : List Int, ns.length = n ∧ ∀ i, i < n → P i (ns.getD i 0)
  | 0, _ => ⟨[], rfl, fun i hi => by omega⟩
  | n + 1, h => by
    obtain ⟨ns, hl, hp⟩ := exists_list P n (fun i hi => h i (by omega))
    obtain ⟨m, hm⟩ := h n (by omega)
    refine ⟨ns ++ [m], by simp [hl], fun i hi => ?_⟩
    by_cases hin : i < n
    · have := hp i hin
      rw [List.getD_eq_getElem?_getD, List.getElem?_append_left (by omega), ← List.getD_eq_getElem?_getD]
      exact this
    · obtain rfl : i = n := by omega
      rw [List.getD_eq_getElem?_getD, List.getElem?_append_right (by omega)]
      simpa [hl] using hm
theorem trod_int_array {H : Type} {enc : TypeId × Value → H} {P : Program} {w : World} {base fuel : Nat} {spare : Nat → Bool} {held : Bool} {t e n : Nat} {k : IntKind} {cs : List Value} {x : DataW H × List MemPlace}
    (ht : P.underlying t = some (.array n e)) (he : P.underlying e = some (.int k)) (hc : P.cellsOf e = 1) (hct : P.cellsOf t = n) (h : DataW.trod enc P w base spare held fuel t cs = some x) :
    ∃ ns : List Int, ns.length = n ∧ cs = ns.map (Value.int k) ∧ x.1 = .agg (ns.map fun m => .lit (.int k m)) ∧ ∀ i, i < n → (Lit.int k (ns.getD i 0)).wf = true := by
  obtain ⟨xs, m, rfl, rfl, hl, hn, hel⟩ := DataW.trod_array ht h
  obtain ⟨ns, hnl, hns⟩ := exists_list (fun i m => cs[i]? = some (.int k m) ∧ (xs[i]?).map (·.1) = some (.lit (.int k m)) ∧ (Lit.int k m).wf = true) n (fun i hi => by
    have h1 := hel i hi
    rw [hc, Nat.mul_one] at h1
    have hxi : xs[i]? = some xs[i] := List.getElem?_eq_getElem (by omega)
    rw [hxi] at h1
    obtain ⟨q, e1, e2, e3⟩ := DataW.trod_int he h1
    refine ⟨q, ?_, by rw [hxi]; simp [e2], e3⟩
    have hci : i < cs.length := by omega
    have e4 : (cs.drop i).take 1 = [cs[i]] := by
      rw [List.drop_eq_getElem_cons hci]; rfl
    rw [e4] at e1
    rw [List.getElem?_eq_getElem hci]
    simpa using e1)
  refine ⟨ns, hnl, ?_, ?_, fun i hi => (hns i hi).2.2⟩
  · apply List.ext_getElem?
    intro i
    by_cases hi : i < n
    · rw [(hns i hi).1, List.getElem?_map, List.getElem?_eq_getElem (by omega)]
      simp [List.getD_eq_getElem?_getD, List.getElem?_eq_getElem (show i < ns.length by omega)]
    · rw [List.getElem?_eq_none (by omega), List.getElem?_eq_none (by simp; omega)]
  · show DataW.agg _ = DataW.agg _
    refine congrArg DataW.agg ?_
    apply List.ext_getElem?
    intro i
    by_cases hi : i < n
    · rw [List.getElem?_map, (hns i hi).2.1, List.getElem?_map, List.getElem?_eq_getElem (by omega)]
      simp [List.getD_eq_getElem?_getD, List.getElem?_eq_getElem (show i < ns.length by omega)]
    · rw [List.getElem?_eq_none (by simp; omega), List.getElem?_eq_none (by simp; omega)]
section
variable {H : Type} {enc : TypeId × Value → H} {W : World} {spare : Nat → Bool} {held : Bool} {b' : Nat}
theorem bytes_of {n : Nat} {ns : List Int} (hl : ns.length = n) (hw : ∀ i, i < n → (Lit.int .u8 (ns.getD i 0)).wf = true) : ns.map (Value.int .u8) = (ns.map fun m => BitVec.ofNat 8 m.toNat).map V8 := by
  rw [List.map_map]
  apply List.map_congr_left
  intro m hm
  obtain ⟨i, hi, rfl⟩ := List.mem_iff_getElem.1 hm
  have hbd := bounds_u8 (hw i (by omega))
  rw [List.getD_eq_getElem?_getD, List.getElem?_eq_getElem hi] at hbd
  simp only [Option.getD_some] at hbd
  simp only [Function.comp_apply, V8, N8, BitVec.toNat_ofNat]
  congr 1
  omega
theorem u16_of {n : Nat} {ns : List Int} (hl : ns.length = n) (hw : ∀ i, i < n → (Lit.int .u16 (ns.getD i 0)).wf = true) : ns.map (Value.int .u16) = (ns.map Int.toNat).map U16 ∧ ∀ x ∈ ns.map Int.toNat, x < 65536 := by
  have hb : ∀ m ∈ ns, 0 ≤ m ∧ m < 65536 := fun m hm => by
    obtain ⟨i, hi, rfl⟩ := List.mem_iff_getElem.1 hm
    have hbd := bounds_u16 (hw i (by omega))
    rw [List.getD_eq_getElem?_getD, List.getElem?_eq_getElem hi] at hbd
    simp only [Option.getD_some] at hbd
    omega
  constructor
  · rw [List.map_map]
    apply List.map_congr_left
    intro m hm
    have := hb m hm
    simp only [Function.comp_apply, U16]
    congr 1
    omega
  · intro x hx
    obtain ⟨m, hm, rfl⟩ := List.mem_map.1 hx
    have := hb m hm
    omega
theorem cellsU16 : Tryd.prog.cellsOf 22 = 1 := by kernel_rfl
theorem cellsU32 : Tryd.prog.cellsOf 23 = 1 := by kernel_rfl
theorem cellsU64 : Tryd.prog.cellsOf 24 = 1 := by kernel_rfl
theorem cellsA32 : Tryd.prog.cellsOf 25 = 32 := by kernel_rfl
theorem cellsAts : Tryd.prog.cellsOf 26 = 4 := by kernel_rfl
theorem cellsP : Tryd.prog.cellsOf 28 = 41 := by kernel_rfl
theorem cut_parts (cs : List Value) (hl : cs.length = 41) : cs = cs.take 1 ++ ((cs.drop 1).take 1 ++ ((cs.drop 2).take 1 ++ ((cs.drop 3).take 1 ++ ((cs.drop 4).take 1 ++ ((cs.drop 5).take 32 ++ (cs.drop 37).take 4))))) := by
  have g : ∀ n m, (cs.drop n).take m ++ cs.drop (n + m) = cs.drop n := fun n m => by rw [← List.drop_drop, List.take_append_drop]
  have h1 : (cs.drop 37).take 4 = cs.drop 37 := List.take_of_length_le (by simp [hl])
  rw [h1, g 5 32, g 4 1, g 3 1, g 2 1, g 1 1, List.take_append_drop]
theorem cells_ptr {fuel : Nat} {cs : List Value} {x : DataW H × List MemPlace} (h : DataW.trod enc Tryd.prog W b' spare held fuel 28 cs = some x) : ∃ p : Pt, p.OK ∧ cs = pcells p := by
  obtain ⟨xs, k, _, _, hl, hxl, hfl⟩ := DataW.trod_struct Tryd.underlying28 h
  rw [cellsP] at hl
  match xs, hxl with
  | [y0, y1, y2, y3, y4, y5, y6], _ =>
    have g0 := hfl 0 _ rfl
    have g1 := hfl 1 _ rfl
    have g2 := hfl 2 _ rfl
    have g3 := hfl 3 _ rfl
    have g4 := hfl 4 _ rfl
    have g5 := hfl 5 _ rfl
    have g6 := hfl 6 _ rfl
    simp [cellsB, cellsU16, cellsU32, cellsU64, cellsA32, cellsAts] at g0 g1 g2 g3 g4 g5 g6
    obtain ⟨z0, e0, _, w0⟩ := DataW.trod_int Tryd.underlying5 g0
    obtain ⟨z1, e1, _, w1⟩ := DataW.trod_int Tryd.underlying5 g1
    obtain ⟨z2, e2, _, w2⟩ := DataW.trod_int Tryd.underlying22 g2
    obtain ⟨z3, e3, _, w3⟩ := DataW.trod_int Tryd.underlying23 g3
    obtain ⟨z4, e4, _, w4⟩ := DataW.trod_int Tryd.underlying24 g4
    obtain ⟨n5, l5, e5, _, w5⟩ := trod_int_array Tryd.underlying25 Tryd.underlying5 cellsB cellsA32 g5
    obtain ⟨n6, l6, e6, _, w6⟩ := trod_int_array Tryd.underlying26 Tryd.underlying22 cellsU16 cellsAts g6
    have b0 := bounds_u8 w0
    have b1 := bounds_u8 w1
    have b2 := bounds_u16 w2
    have b3 := bounds_u32 w3
    have b4 := bounds_u64 w4
    obtain ⟨u1, u2⟩ := u16_of l6 w6
    refine ⟨⟨z0.toNat, z1.toNat, z2.toNat, z3.toNat, z4.toNat, n5.map fun m => BitVec.ofNat 8 m.toNat, n6.map Int.toNat⟩, ⟨by simp only; omega, by simp only; omega, by simp only; omega, by simp only; omega, by simp only; omega, by simp [l5], by simp [l6], u2⟩, ?_⟩
    rw [bytes_of l5 w5] at e5
    rw [u1] at e6
    have hcp := cut_parts cs hl
    have tl : (cs.drop 1).take 1 = cs.tail.take 1 := by rw [List.drop_one]
    rw [tl] at hcp
    rw [hcp]
    first | rw [e0, e1, e2, e3, e4, e5, e6] | rw [List.drop_one, e0, e1, e2, e3, e4, e5, e6]
    simp only [pcells, pnums]
    rw [show ((z0.toNat : Nat) : Int) = z0 by omega, show ((z1.toNat : Nat) : Int) = z1 by omega, show ((z2.toNat : Nat) : Int) = z2 by omega, show ((z3.toNat : Nat) : Int) = z3 by omega, show ((z4.toNat : Nat) : Int) = z4 by omega]
    rfl
theorem three {α : Type} : ∀ cs : List α, cs.length = 3 → ∃ a b c, cs = [a, b, c]
  | [a, b, c], _ => ⟨a, b, c, rfl⟩
set_option maxRecDepth 100000 in
theorem trod_rule {fuel : Nat} {cs : List Value} {x : DataW H × List MemPlace} (h : DataW.trod enc Tryd.prog W b' spare held fuel 89 cs = some x) : ∃ a b c, cs = [.int .i64 a, .int .u8 b, .int .u8 c] ∧ x.1 = .agg [.lit (.int .i64 a), .lit (.int .u8 b), .lit (.int .u8 c)] := by
  obtain ⟨xs, k, _, rfl, hl, hxl, hfl⟩ := DataW.trod_struct Tryd.underlying89 h
  rw [cellsRu] at hl
  obtain ⟨c0, c1, c2, rfl⟩ := three cs hl
  match xs, hxl with
  | [y0, y1, y2], _ =>
    have g0 := hfl 0 _ rfl
    have g1 := hfl 1 _ rfl
    have g2 := hfl 2 _ rfl
    simp [cellsB, cellsInt] at g0 g1 g2
    obtain ⟨z0, e0, f0, _⟩ := DataW.trod_int Tryd.underlying3 g0
    obtain ⟨z1, e1, f1, _⟩ := DataW.trod_int Tryd.underlying5 g1
    obtain ⟨z2, e2, f2, _⟩ := DataW.trod_int Tryd.underlying5 g2
    refine ⟨z0, z1, z2, ?_, ?_⟩
    · simp at e0 e1 e2
      rw [e0, e1, e2]
    · rw [f0, f1, f2]; rfl
theorem cut18 (cs : List Value) (hl : cs.length = 18) : cs = cs.take 3 ++ ((cs.drop 3).take 3 ++ ((cs.drop 6).take 3 ++ ((cs.drop 9).take 3 ++ ((cs.drop 12).take 3 ++ (cs.drop 15).take 3)))) := by
  have g : ∀ n m, (cs.drop n).take m ++ cs.drop (n + m) = cs.drop n := fun n m => by rw [← List.drop_drop, List.take_append_drop]
  have h1 : (cs.drop 15).take 3 = cs.drop 15 := List.take_of_length_le (by simp [hl])
  rw [h1, g 12 3, g 9 3, g 6 3, g 3 3, List.take_append_drop]
set_option maxRecDepth 100000 in
theorem trod_rules {fuel : Nat} {cs : List Value} {x : DataW H × List MemPlace} (h : DataW.trod enc Tryd.prog W b' spare held fuel 98 cs = some x) (hx : x.1 = Rows.laid_kintsugi_ptr_rules) : cs = (List.range 6).flatMap rcell := by
  obtain ⟨xs, m, rfl, rfl, hl, hn, hel⟩ := DataW.trod_array Tryd.underlying98 h
  rw [cellsRus] at hl
  rw [cellsRu] at hel
  match xs, hn with
  | [y0, y1, y2, y3, y4, y5], _ =>
    obtain ⟨a0, b0, c0, e0, f0⟩ := trod_rule (x := y0) (hel 0 (by omega))
    obtain ⟨a1, b1, c1, e1, f1⟩ := trod_rule (x := y1) (hel 1 (by omega))
    obtain ⟨a2, b2, c2, e2, f2⟩ := trod_rule (x := y2) (hel 2 (by omega))
    obtain ⟨a3, b3, c3, e3, f3⟩ := trod_rule (x := y3) (hel 3 (by omega))
    obtain ⟨a4, b4, c4, e4, f4⟩ := trod_rule (x := y4) (hel 4 (by omega))
    obtain ⟨a5, b5, c5, e5, f5⟩ := trod_rule (x := y5) (hel 5 (by omega))
    simp only [List.map_cons, List.map_nil, f0, f1, f2, f3, f4, f5, Rows.laid_kintsugi_ptr_rules, DataW.agg.injEq, List.cons.injEq, DataW.lit.injEq, Lit.int.injEq, true_and, and_true] at hx
    rw [cut18 cs hl]
    simp only [Nat.zero_mul, List.drop_zero] at e0
    rw [e0, e1, e2, e3, e4, e5]
    obtain ⟨⟨rfl, rfl, rfl⟩, ⟨rfl, rfl, rfl⟩, ⟨rfl, rfl, rfl⟩, ⟨rfl, rfl, rfl⟩, ⟨rfl, rfl, rfl⟩, ⟨rfl, rfl, rfl⟩⟩ := hx
    rfl
end
theorem row_of {W : World} {n : String} {g : Nat} {cs : Array Value} (hg : Tryd.prog.globalNamed n = some g) (hv : W.var? Tryd.prog n = some cs) : ∃ t fr, W.heap[g]? = some (.cells cs t fr) := by
  unfold World.var? at hv
  rw [hg] at hv
  simp only [Option.bind_some] at hv
  split at hv
  · rename_i cs' t fr hh
    obtain rfl := Option.some.inj hv
    exact ⟨t, fr, hh⟩
  · cases hv
end Go.Proofs.YtecngehkdjmjmaaDoor
/- Inodes that came in; the table of kinds as it is laid. -/
namespace Go.Proofs.YtecngehkdjmjmaaDoor
open Go.ChangeShapes Go.WideShapes Go.ChangeAt Go.WideMaps Go.WideElems Go.RowKit

def laidK : List (String × DataW Unit) := [("kintsugi/ptr.rules", Rows.laid_kintsugi_ptr_rules)]
theorem gK : (laidK.map fun x => Tryd.prog.globalNamed x.1) = [some 0] := by kernel_rfl
theorem door_met (os : Os) (args : Array Value) : laidMetH Tryd.prog laidK ((World.doorLaid Tryd.prog 400 os).forCall (fun _ _ => 0) ⟨#[], args, []⟩).memory :=
  laidMetH_of_parts3 (fuel := 8) (laidMet_of_run' 8 (by kernel_rfl) (by kernel_rfl)) (by kernel_rfl) (by kernel_rfl)
theorem of_laid {W : World} (h : laidMetH Tryd.prog laidK W) : RTab W := by
  rw [MakeChecks.laidMetH_plain _ _ _ (by kernel_rfl)] at h
  obtain ⟨ps, ⟨g1, t1, cs1, f1, p1, q1, hg1, ht1, hv1, hd1, _, _⟩, _, _⟩ := h
  have hgg : [some g1] = [some 0] := by rw [← gK]; show _ = [Tryd.prog.globalNamed _]; rw [← hg1]
  simp only [List.cons.injEq, Option.some.injEq, and_true] at hgg
  obtain rfl := hgg
  obtain rfl := Option.some.inj (tRu.symm.trans ht1)
  have hc := trod_rules hd1 rfl
  obtain ⟨t, fr, hh⟩ := row_of hg1 hv1
  refine ⟨t, fr, ?_⟩
  rw [hh, ← hc]
section
variable {H : Type} {enc : TypeId × Value → H} {W : World} {b' : Nat} {spare : Nat → Bool} {held : Bool}
theorem cellsI0 : Tryd.prog.cellsOf 5 = 1 := by kernel_rfl
theorem cellsI1 : Tryd.prog.cellsOf 22 = 1 := by kernel_rfl
theorem cellsI2 : Tryd.prog.cellsOf 23 = 1 := by kernel_rfl
theorem cellsI3 : Tryd.prog.cellsOf 28 = 41 := by kernel_rfl
theorem cells_ri4 : Tryd.prog.cellsOf 31 = 176 := by kernel_rfl
set_option maxRecDepth 100000 in
theorem cells_ino {fuel : Nat} {cs : List Value} {x : DataW H × List MemPlace} (h : DataW.trod enc Tryd.prog W b' spare held fuel 30 cs = some x) : ∃ q : Ino, q.OK ∧ cs = icells q := by
  obtain ⟨xs, k, _, _, hl, hxl, hfl⟩ := DataW.trod_struct Tryd.underlying30 h
  rw [cellsRn] at hl
  match xs, hxl with
  | [y0, y1, y2, y3], _ =>
    have g0 := hfl 0 _ rfl
    have g1 := hfl 1 _ rfl
    have g2 := hfl 2 _ rfl
    have g3 := hfl 3 _ rfl
    simp [cellsI0, cellsI1, cellsI2, cellsI3] at g0 g1 g2 g3
    obtain ⟨z0, e0, _, w0⟩ := DataW.trod_int Tryd.underlying5 g0
    obtain ⟨z1, e1, _, w1⟩ := DataW.trod_int Tryd.underlying22 g1
    obtain ⟨z2, e2, _, w2⟩ := DataW.trod_int Tryd.underlying23 g2
    obtain ⟨p, hp, e3⟩ := cells_ptr g3
    have b0 := bounds_u8 w0
    have b1 := bounds_u16 w1
    have b2 := bounds_u32 w2
    refine ⟨⟨z0.toNat, z1.toNat, z2.toNat, p⟩, ⟨by show z0.toNat < _; omega, by show z1.toNat < _; omega, by show z2.toNat < _; omega, hp⟩, ?_⟩
    have g : ∀ n m, cs.take n ++ (cs.drop n).take m = cs.take (n + m) := fun n m => by rw [List.take_add]
    have hcs : cs = cs.take 1 ++ ((cs.drop 1).take 1 ++ ((cs.drop 2).take 1 ++ (cs.drop 3).take 41)) := by
      simp only [← List.append_assoc]
      rw [g 1 1, g 2 1, g 3 41, List.take_of_length_le (by omega)]
    have e1' : (cs.drop 1).take 1 = [Value.int .u16 z1] := by simpa using e1
    have e2' : (cs.drop 2).take 1 = [Value.int .u32 z2] := by simpa using e2
    have e3' : (cs.drop 3).take 41 = pcells p := by simpa using e3
    have e0' : cs.take 1 = [Value.int .u8 z0] := by simpa using e0
    rw [hcs, e0', e1', e2', e3']
    show _ = [Value.int .u8 ((z0.toNat : Nat) : Int), .int .u16 ((z1.toNat : Nat) : Int), .int .u32 ((z2.toNat : Nat) : Int)] ++ pcells p
    rw [Int.toNat_of_nonneg b0.1, Int.toNat_of_nonneg b1.1, Int.toNat_of_nonneg b2.1]
    rfl
theorem chunks44 (cs : List Value) : ∀ k, (List.range k).flatMap (fun j => (cs.drop (j * 44)).take 44) = cs.take (k * 44)
  | 0 => by simp
  | k + 1 => by
    rw [List.range_succ, List.flatMap_append, chunks44 cs k]
    simp only [List.flatMap_cons, List.flatMap_nil, List.append_nil]
    rw [show (k + 1) * 44 = k * 44 + 44 by omega, List.take_add]
theorem pick_all {α : Type} (P : Nat → α → Prop) : ∀ n : Nat, (∀ i, i < n → ∃ m, P i m) → ∃ l : List α, l.length = n ∧ ∀ i x, l[i]? = some x → P i x
  | 0, _ => ⟨[], rfl, fun i x h => by simp at h⟩
  | n + 1, h => by
    obtain ⟨l, hl, hp⟩ := pick_all P n (fun i hi => h i (by omega))
    obtain ⟨m, hm⟩ := h n (by omega)
    refine ⟨l ++ [m], by simp [hl], fun i x hx => ?_⟩
    rcases Nat.lt_trichotomy i n with h1 | h1 | h1
    · rw [List.getElem?_append_left (by omega)] at hx; exact hp i x hx
    · subst h1
      rw [List.getElem?_append_right (by omega), hl, Nat.sub_self] at hx
      simp at hx
      rw [← hx]; exact hm
    · rw [List.getElem?_eq_none (by simp; omega)] at hx; cases hx
set_option maxRecDepth 100000 in
theorem open_ri4 {b : Nat} {v : Value} {d : DataW H} {p : List MemPlace} (ho : Value.okWide Tryd.prog W .any b 31 v) (h : DataW.Trod enc Tryd.prog W b' spare held 31 v d p) : ∃ ns : List Ino, BOK ns ∧ v = .agg (bcells ns).toArray := by
  unfold Value.okWide at ho
  rw [Tryd.underlying31] at ho
  obtain ⟨cs, rfl, _⟩ := ho
  obtain ⟨fuel, hf⟩ := h
  obtain ⟨xs, m, _, _, hl, hn, hel⟩ := DataW.trod_array Tryd.underlying31 hf
  rw [cells_ri4] at hl
  rw [cellsRn] at hel
  have hcs : (Value.agg cs).cells.toList = cs.toList := rfl
  rw [hcs] at hl hel
  obtain ⟨ns, hnl, hns⟩ := pick_all (fun i (p : Ino) => p.OK ∧ (cs.toList.drop (i * 44)).take 44 = icells p) 4 (fun i hi => by
    have h1 := hel i (by omega)
    rw [List.getElem?_eq_getElem (show i < xs.length by omega)] at h1
    exact cells_ino h1)
  have hok : BOK ns := ⟨hnl, fun p hp => by
    obtain ⟨i, hi⟩ := List.getElem?_of_mem hp
    exact (hns i p hi).1⟩
  refine ⟨ns, hok, ?_⟩
  congr 1
  apply Array.toList_inj.1
  have e1 : cs.toList = (List.range 4).flatMap (fun j => (cs.toList.drop (j * 44)).take 44) := by
    rw [chunks44, List.take_of_length_le (by omega)]
  have e2 : bcells ns = (List.range 4).flatMap (fun j => icells (ns.getD j zeroI)) := by
    have e3 : ns = (List.range 4).map (fun j => ns.getD j zeroI) := by
      apply List.ext_getElem?
      intro j
      by_cases hj : j < 4
      · obtain ⟨p, hp⟩ := hok.get hj
        simp [hp, hj, List.getD_eq_getElem?_getD]
      · rw [List.getElem?_eq_none (by omega), List.getElem?_eq_none (by simp; omega)]
    conv => lhs; rw [e3]
    unfold bcells
    rw [List.flatMap_map]
  rw [e1]
  show _ = bcells ns
  rw [e2, List.flatMap_def, List.flatMap_def]
  refine congrArg List.flatten (List.map_congr_left fun j hj => ?_)
  have hj8 := List.mem_range.1 hj
  obtain ⟨p, hp⟩ := hok.get hj8
  rw [List.getD_eq_getElem?_getD, hp]
  exact (hns j p hp).2
end
end Go.Proofs.YtecngehkdjmjmaaDoor
