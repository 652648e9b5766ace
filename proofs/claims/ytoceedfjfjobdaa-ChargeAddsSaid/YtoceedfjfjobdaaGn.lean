/- Charge: ChargeAdds' walk. -/
import Derived.Test.YtoceedfjfjobdaaGm
namespace Go.Proofs.Ytoceedfjfjobdaa
open Go.RowKit

attribute [local go_sem] Oper.semAt_some

section
variable {ρ : Operand → Value} {o : Oper} {x y : Operand} {w : World}
theorem ex_leqb {a c : Int} {b : Bool} {t : TypeId} (hb : decide (a ≤ c) = b) (ho : o.op = .binOp .leq 3 x y t) (hx : ρ x = .int .i64 a) (hy : ρ y = .int .i64 c) : (execOp ρ o).run Try.prog w = .ok (.value (.bool b)) w := by
  subst hb
  unfold execOp; simp only [ho]; go_simp
theorem ex_eqb {b : Bool} {t : TypeId} (ho : o.op = .binOp .eql 4 x y t) (hx : ρ x = .bool b) (hy : ρ y = .bool b) : (execOp ρ o).run Try.prog w = .ok (.value (.bool true)) w := by
  cases b
  · unfold execOp; simp only [ho]; go_simp
  · unfold execOp; simp only [ho]; go_simp
end
set_option maxRecDepth 100000 in
set_option maxHeartbeats 16000000 in
theorem adds_go (f m o lv mo bl : Int) (kd : Nat) (hf : -2147483648 ≤ f ∧ f ≤ 2147483647) (hm : -2147483648 ≤ m ∧ m ≤ 2147483647) (ho : -2147483648 ≤ o ∧ o ≤ 2147483647) (hl : -2147483648 ≤ lv ∧ lv ≤ 2147483647) (hmo : -2147483648 ≤ mo ∧ mo ≤ 2147483647) (hbl : -2147483648 ≤ bl ∧ bl ≤ 2147483647) (w : World) :
    Calls Try.prog 3 #[.int .i32 f, .int .i32 m, .int .i32 o, .int .u8 (kd : Int), .int .i32 lv, .int .i32 mo, .int .i32 bl] w (Ret w (.bool true)) := by
  have hin : In33 f m o := by unfold In33; omega
  have HW0 := Lib.hid (with_any f m o lv mo kd hin (by omega) (by omega))
  have HCH := Lib.hid (charge_any f m o hin)
  have HF := Lib.hid (fits_any f m o bl hin (by omega))
  obtain ⟨p, hp⟩ : ∃ p, pr f m o = p := ⟨_, rfl⟩
  rw [hp] at HCH HF
  obtain ⟨b, hb⟩ : ∃ b, decide (p + 320 ≤ bl - 1) = b := ⟨_, rfl⟩
  rw [hb] at HF
  have HBB := Lib.hid hb
  have hpe : p = 20 + f * 3 + m * 4 + o * 4 := by rw [← hp]; rfl
  have c1 : IntKind.i64.wrap f = f := IntWalk.i64_in _ (by omega)
  have c2 : IntKind.i64.wrap m = m := IntWalk.i64_in _ (by omega)
  have c3 : IntKind.i64.wrap o = o := IntWalk.i64_in _ (by omega)
  have HCL : Hid (IntKind.i64.wrap lv = lv) := Lib.hid (IntWalk.i64_in _ (by omega))
  have HCM : Hid (IntKind.i64.wrap mo = mo) := Lib.hid (IntWalk.i64_in _ (by omega))
  have HCB : Hid (IntKind.i64.wrap bl = bl) := Lib.hid (IntWalk.i64_in _ (by omega))
  have w1 : IntKind.i64.wrap (o + mo) = o + mo := IntWalk.i64_in _ (by omega)
  have w2 : IntKind.i64.wrap (f + lv) = f + lv := IntWalk.i64_in _ (by omega)
  have w3 : IntKind.i64.wrap (m + lv) = m + lv := IntWalk.i64_in _ (by omega)
  have w4 : IntKind.i64.wrap (3 * f) = 3 * f := IntWalk.i64_in _ (by omega)
  have w5 : IntKind.i64.wrap (4 * m) = 4 * m := IntWalk.i64_in _ (by omega)
  have w6 : IntKind.i64.wrap (4 * o) = 4 * o := IntWalk.i64_in _ (by omega)
  have w7 : IntKind.i64.wrap (3 * f + 4 * m) = 3 * f + 4 * m := IntWalk.i64_in _ (by omega)
  have w8 : IntKind.i64.wrap (3 * f + 4 * m + 4 * o) = 3 * f + 4 * m + 4 * o := IntWalk.i64_in _ (by omega)
  have w9 : IntKind.i64.wrap (3 * f + 4 * m + 4 * o + 20) = p := by rw [IntWalk.i64_in _ (by omega)]; omega
  have HP3 : Hid (IntKind.i64.wrap (p + 320) = p + 320 ∧ IntKind.i64.wrap (bl - 1) = bl - 1) := Lib.hid ⟨IntWalk.i64_in _ (by omega), IntWalk.i64_in _ (by omega)⟩
  have c4 := HCL.out
  have c5 := HCM.out
  clear hin hp hb hpe hf hm ho hl hmo hbl
  by_cases k1 : kd = 1
  · subst k1
    have HW : Hid (∀ w, Calls Try.prog 5 #[tlv f m o, .int .u8 ((1 : Nat) : Int), .int .i64 lv, .int .i64 mo] w (Ret w (tlv (f + lv) (m) (o + mo)))) := Lib.hid (by have := HW0.out; simpa [leafG] using this)
    clear HW0
    go_enter Try.func3, Try.ntmps3
    go_upto_region 9 with fail
    refine (fun (k' : ∀ W, Blk W w.heap.size (tls f m o) 23 → Blk W (w.heap.size + 1) (tls (f + lv) (m) (o + mo)) 23 → Below w.heap.size w W → Code.wp _ _ _ _ W) => k' _ ((Blk.new' _ _ _ _ _ rfl rfl).alloc _) (Blk.new' _ _ _ _ _ (by simp) rfl) (((Below.refl _ _).alloc (Nat.le_refl _) _).alloc (by simp) _)) ?_
    intro W1 hA hB hb1
    have HA := Lib.hid hA; have HB := Lib.hid hB; have HBL := Lib.hid hb1
    clear hA hB hb1 c1 c2 c3 c4 c5 w1 w2 w3 w4 w5 w6 w7 w8 w9
    refine wp_region_sched ((.take 0 (.take 1 (.take 2 (.take 3 (.take 4 (.take 5 (.take 7 (.step 6 (.take 8 (.take 9 (.take 10 (.take 12 (.step 11 (.take 13 (.take 14 (.take 15 (.take 16 (.take 17 (.take 18 (.take 20 (.take 21 (.take 22 (.take 23 (.take 24 (.take 25 (.step 19 (.take 26 (.take 27 (.take 28 (.step 29 (.take 30 (.take 31 (.nil)))))))))))))))))))))))))))))))))) (by kernel_rfl) (by kernel_rfl) (fun d _ _ _ _ h => by cases d <;> exact h) (fun X => Chg (fun _ => False) W1 X) ((Chg.refl _ _).drew) ?_
    refine wpG_take _ (tlv f m o) rfl (by rfl) (fun X hX => c_ldT (HA.out.chg hX id) rfl rfl) ?_
    (try simp only [Act.put, List.setIfInBounds_toArray, List.set_cons_zero, List.set_cons_succ])
    refine wpG_take _ (.int .u8 ((1 : Nat) : Int)) rfl (by rfl) (fun X hX => by first | rfl | go_simp) ?_
    (try simp only [Act.put, List.setIfInBounds_toArray, List.set_cons_zero, List.set_cons_succ])
    refine wpG_take _ (.int .i32 lv) rfl (by rfl) (fun X hX => by first | rfl | go_simp) ?_
    (try simp only [Act.put, List.setIfInBounds_toArray, List.set_cons_zero, List.set_cons_succ])
    refine wpG_take _ (.int .i64 lv) rfl (by rfl) (fun X hX => by have w1 := HCL.out; first | rfl | go_simp) ?_
    (try simp only [Act.put, List.setIfInBounds_toArray, List.set_cons_zero, List.set_cons_succ])
    refine wpG_take _ (.int .i32 mo) rfl (by rfl) (fun X hX => by first | rfl | go_simp) ?_
    (try simp only [Act.put, List.setIfInBounds_toArray, List.set_cons_zero, List.set_cons_succ])
    refine wpG_take _ (.int .i64 mo) rfl (by rfl) (fun X hX => by have w1 := HCM.out; first | rfl | go_simp) ?_
    (try simp only [Act.put, List.setIfInBounds_toArray, List.set_cons_zero, List.set_cons_succ])
    refine wpG_take _ (tlv (f + lv) (m) (o + mo)) rfl (by rfl) (fun X hX => c_ldT (HB.out.chg hX id) rfl rfl) ?_
    (try simp only [Act.put, List.setIfInBounds_toArray, List.set_cons_zero, List.set_cons_succ])
    refine g_call _ rfl (by rfl) 5 (#[tlv f m o, .int .u8 ((1 : Nat) : Int), .int .i64 lv, .int .i64 mo]) (fun X => by go_simp) (tlv (f + lv) (m) (o + mo)) (HW.out _) (by first | exact (Chg.refl _ _).drew | exact HBW.out) ?_
    intro W hbW hbl
    (try clear HBW)
    have HBW := Lib.hid hbW
    clear hbW hbl
    (try simp only [Act.put, List.setIfInBounds_toArray, List.set_cons_zero, List.set_cons_succ])
    refine wpG_take _ (.bool true) rfl (by rfl) (fun X hX => ex_eqT (by simp) rfl rfl rfl) ?_
    (try simp only [Act.put, List.setIfInBounds_toArray, List.set_cons_zero, List.set_cons_succ])
    refine wpG_take _ (.bool true) rfl (by rfl) (fun X hX => by first | rfl | go_simp) ?_
    (try simp only [Act.put, List.setIfInBounds_toArray, List.set_cons_zero, List.set_cons_succ])
    refine wpG_take _ (tlv f m o) rfl (by rfl) (fun X hX => c_ldT (HA.out.chg hX id) rfl rfl) ?_
    (try simp only [Act.put, List.setIfInBounds_toArray, List.set_cons_zero, List.set_cons_succ])
    refine wpG_take _ (.int .i64 p) rfl (by rfl) (fun X hX => by first | rfl | go_simp) ?_
    (try simp only [Act.put, List.setIfInBounds_toArray, List.set_cons_zero, List.set_cons_succ])
    refine g_call _ rfl (by rfl) 6 (#[tlv f m o]) (fun X => by go_simp) (.int .i64 p) (HCH.out _) (by first | exact (Chg.refl _ _).drew | exact HBW.out) ?_
    intro W hbW hbl
    (try clear HBW)
    have HBW := Lib.hid hbW
    clear hbW hbl
    (try simp only [Act.put, List.setIfInBounds_toArray, List.set_cons_zero, List.set_cons_succ])
    refine wpG_take _ (.bool true) rfl (by rfl) (fun X hX => by first | rfl | go_simp) ?_
    (try simp only [Act.put, List.setIfInBounds_toArray, List.set_cons_zero, List.set_cons_succ])
    refine wpG_take _ (.bool true) rfl (by rfl) (fun X hX => by first | rfl | go_simp) ?_
    (try simp only [Act.put, List.setIfInBounds_toArray, List.set_cons_zero, List.set_cons_succ])
    refine wpG_take _ (.bool true) rfl (by rfl) (fun X hX => by first | rfl | go_simp) ?_
    (try simp only [Act.put, List.setIfInBounds_toArray, List.set_cons_zero, List.set_cons_succ])
    refine wpG_take _ (tlv f m o) rfl (by rfl) (fun X hX => c_ldT (HA.out.chg hX id) rfl rfl) ?_
    (try simp only [Act.put, List.setIfInBounds_toArray, List.set_cons_zero, List.set_cons_succ])
    refine wpG_take _ (.int .i32 bl) rfl (by rfl) (fun X hX => by first | rfl | go_simp) ?_
    (try simp only [Act.put, List.setIfInBounds_toArray, List.set_cons_zero, List.set_cons_succ])
    refine wpG_take _ (.int .i64 bl) rfl (by rfl) (fun X hX => by have w1 := HCB.out; first | rfl | go_simp) ?_
    (try simp only [Act.put, List.setIfInBounds_toArray, List.set_cons_zero, List.set_cons_succ])
    refine wpG_take _ (.int .i64 p) rfl (by rfl) (fun X hX => by first | rfl | go_simp) ?_
    (try simp only [Act.put, List.setIfInBounds_toArray, List.set_cons_zero, List.set_cons_succ])
    refine wpG_take _ (.int .i64 (p + 320)) rfl (by rfl) (fun X hX => by have w1 := HP3.out.1; first | rfl | go_simp) ?_
    (try simp only [Act.put, List.setIfInBounds_toArray, List.set_cons_zero, List.set_cons_succ])
    refine wpG_take _ (.int .i32 bl) rfl (by rfl) (fun X hX => by first | rfl | go_simp) ?_
    (try simp only [Act.put, List.setIfInBounds_toArray, List.set_cons_zero, List.set_cons_succ])
    refine wpG_take _ (.int .i64 bl) rfl (by rfl) (fun X hX => by have w1 := HCB.out; first | rfl | go_simp) ?_
    (try simp only [Act.put, List.setIfInBounds_toArray, List.set_cons_zero, List.set_cons_succ])
    refine wpG_take _ (.int .i64 (bl - 1)) rfl (by rfl) (fun X hX => by have w1 := HP3.out.2; first | rfl | go_simp) ?_
    (try simp only [Act.put, List.setIfInBounds_toArray, List.set_cons_zero, List.set_cons_succ])
    refine wpG_take _ (.bool b) rfl (by rfl) (fun X hX => ex_leqb HBB.out rfl rfl rfl) ?_
    (try simp only [Act.put, List.setIfInBounds_toArray, List.set_cons_zero, List.set_cons_succ])
    refine g_call _ rfl (by rfl) 7 (#[tlv f m o, .int .i64 bl]) (fun X => by go_simp) (.bool b) (HF.out _) (by first | exact (Chg.refl _ _).drew | exact HBW.out) ?_
    intro W hbW hbl
    (try clear HBW)
    have HBW := Lib.hid hbW
    clear hbW hbl
    (try simp only [Act.put, List.setIfInBounds_toArray, List.set_cons_zero, List.set_cons_succ])
    refine wpG_take _ (.bool true) rfl (by rfl) (fun X hX => ex_eqb rfl rfl rfl) ?_
    (try simp only [Act.put, List.setIfInBounds_toArray, List.set_cons_zero, List.set_cons_succ])
    refine wpG_take _ (.bool true) rfl (by rfl) (fun X hX => by first | rfl | go_simp) ?_
    (try simp only [Act.put, List.setIfInBounds_toArray, List.set_cons_zero, List.set_cons_succ])
    refine wpG_take _ (.bool true) rfl (by rfl) (fun X hX => by first | rfl | go_simp) ?_
    (try simp only [Act.put, List.setIfInBounds_toArray, List.set_cons_zero, List.set_cons_succ])
    refine g_call _ rfl (by rfl) 8 (#[]) (fun X => by go_simp) (.bool true) (gwakes_any _) (by first | exact (Chg.refl _ _).drew | exact HBW.out) ?_
    intro W hbW hbl
    (try clear HBW)
    have HBW := Lib.hid hbW
    clear hbW hbl
    (try simp only [Act.put, List.setIfInBounds_toArray, List.set_cons_zero, List.set_cons_succ])
    refine wpG_take _ (.bool true) rfl (by rfl) (fun X hX => by first | rfl | go_simp) ?_
    (try simp only [Act.put, List.setIfInBounds_toArray, List.set_cons_zero, List.set_cons_succ])
    refine wpG_take _ (.bool true) rfl (by rfl) (fun X hX => by first | rfl | go_simp) ?_
    (try simp only [Act.put, List.setIfInBounds_toArray, List.set_cons_zero, List.set_cons_succ])
    refine wpG_nil ?_
    have HE := Lib.hid (HBL.out.trans (HBW.out.below (fun _ h => h.elim) HBL.out.size))
    go_wp2_with fail
    first | exact ⟨rfl, HE.out⟩ | (go_ret; exact ⟨rfl, HE.out⟩)
  by_cases k2 : kd = 2
  · subst k2
    have HW : Hid (∀ w, Calls Try.prog 5 #[tlv f m o, .int .u8 ((2 : Nat) : Int), .int .i64 lv, .int .i64 mo] w (Ret w (tlv (f) (m + lv) (o + mo)))) := Lib.hid (by have := HW0.out; simpa [leafG] using this)
    clear HW0
    go_enter Try.func3, Try.ntmps3
    go_upto_region 9 with fail
    refine (fun (k' : ∀ W, Blk W w.heap.size (tls f m o) 23 → Blk W (w.heap.size + 1) (tls (f) (m + lv) (o + mo)) 23 → Below w.heap.size w W → Code.wp _ _ _ _ W) => k' _ ((Blk.new' _ _ _ _ _ rfl rfl).alloc _) (Blk.new' _ _ _ _ _ (by simp) rfl) (((Below.refl _ _).alloc (Nat.le_refl _) _).alloc (by simp) _)) ?_
    intro W1 hA hB hb1
    have HA := Lib.hid hA; have HB := Lib.hid hB; have HBL := Lib.hid hb1
    clear hA hB hb1 c1 c2 c3 c4 c5 w1 w2 w3 w4 w5 w6 w7 w8 w9
    refine wp_region_sched ((.take 0 (.take 1 (.take 2 (.take 3 (.take 4 (.take 5 (.take 7 (.step 6 (.take 8 (.take 9 (.take 10 (.take 12 (.step 11 (.take 13 (.take 14 (.take 15 (.take 16 (.take 17 (.take 18 (.take 20 (.take 21 (.take 22 (.take 23 (.take 24 (.take 25 (.step 19 (.take 26 (.take 27 (.take 28 (.step 29 (.take 30 (.take 31 (.nil)))))))))))))))))))))))))))))))))) (by kernel_rfl) (by kernel_rfl) (fun d _ _ _ _ h => by cases d <;> exact h) (fun X => Chg (fun _ => False) W1 X) ((Chg.refl _ _).drew) ?_
    refine wpG_take _ (tlv f m o) rfl (by rfl) (fun X hX => c_ldT (HA.out.chg hX id) rfl rfl) ?_
    (try simp only [Act.put, List.setIfInBounds_toArray, List.set_cons_zero, List.set_cons_succ])
    refine wpG_take _ (.int .u8 ((2 : Nat) : Int)) rfl (by rfl) (fun X hX => by first | rfl | go_simp) ?_
    (try simp only [Act.put, List.setIfInBounds_toArray, List.set_cons_zero, List.set_cons_succ])
    refine wpG_take _ (.int .i32 lv) rfl (by rfl) (fun X hX => by first | rfl | go_simp) ?_
    (try simp only [Act.put, List.setIfInBounds_toArray, List.set_cons_zero, List.set_cons_succ])
    refine wpG_take _ (.int .i64 lv) rfl (by rfl) (fun X hX => by have w1 := HCL.out; first | rfl | go_simp) ?_
    (try simp only [Act.put, List.setIfInBounds_toArray, List.set_cons_zero, List.set_cons_succ])
    refine wpG_take _ (.int .i32 mo) rfl (by rfl) (fun X hX => by first | rfl | go_simp) ?_
    (try simp only [Act.put, List.setIfInBounds_toArray, List.set_cons_zero, List.set_cons_succ])
    refine wpG_take _ (.int .i64 mo) rfl (by rfl) (fun X hX => by have w1 := HCM.out; first | rfl | go_simp) ?_
    (try simp only [Act.put, List.setIfInBounds_toArray, List.set_cons_zero, List.set_cons_succ])
    refine wpG_take _ (tlv (f) (m + lv) (o + mo)) rfl (by rfl) (fun X hX => c_ldT (HB.out.chg hX id) rfl rfl) ?_
    (try simp only [Act.put, List.setIfInBounds_toArray, List.set_cons_zero, List.set_cons_succ])
    refine g_call _ rfl (by rfl) 5 (#[tlv f m o, .int .u8 ((2 : Nat) : Int), .int .i64 lv, .int .i64 mo]) (fun X => by go_simp) (tlv (f) (m + lv) (o + mo)) (HW.out _) (by first | exact (Chg.refl _ _).drew | exact HBW.out) ?_
    intro W hbW hbl
    (try clear HBW)
    have HBW := Lib.hid hbW
    clear hbW hbl
    (try simp only [Act.put, List.setIfInBounds_toArray, List.set_cons_zero, List.set_cons_succ])
    refine wpG_take _ (.bool true) rfl (by rfl) (fun X hX => ex_eqT (by simp) rfl rfl rfl) ?_
    (try simp only [Act.put, List.setIfInBounds_toArray, List.set_cons_zero, List.set_cons_succ])
    refine wpG_take _ (.bool true) rfl (by rfl) (fun X hX => by first | rfl | go_simp) ?_
    (try simp only [Act.put, List.setIfInBounds_toArray, List.set_cons_zero, List.set_cons_succ])
    refine wpG_take _ (tlv f m o) rfl (by rfl) (fun X hX => c_ldT (HA.out.chg hX id) rfl rfl) ?_
    (try simp only [Act.put, List.setIfInBounds_toArray, List.set_cons_zero, List.set_cons_succ])
    refine wpG_take _ (.int .i64 p) rfl (by rfl) (fun X hX => by first | rfl | go_simp) ?_
    (try simp only [Act.put, List.setIfInBounds_toArray, List.set_cons_zero, List.set_cons_succ])
    refine g_call _ rfl (by rfl) 6 (#[tlv f m o]) (fun X => by go_simp) (.int .i64 p) (HCH.out _) (by first | exact (Chg.refl _ _).drew | exact HBW.out) ?_
    intro W hbW hbl
    (try clear HBW)
    have HBW := Lib.hid hbW
    clear hbW hbl
    (try simp only [Act.put, List.setIfInBounds_toArray, List.set_cons_zero, List.set_cons_succ])
    refine wpG_take _ (.bool true) rfl (by rfl) (fun X hX => by first | rfl | go_simp) ?_
    (try simp only [Act.put, List.setIfInBounds_toArray, List.set_cons_zero, List.set_cons_succ])
    refine wpG_take _ (.bool true) rfl (by rfl) (fun X hX => by first | rfl | go_simp) ?_
    (try simp only [Act.put, List.setIfInBounds_toArray, List.set_cons_zero, List.set_cons_succ])
    refine wpG_take _ (.bool true) rfl (by rfl) (fun X hX => by first | rfl | go_simp) ?_
    (try simp only [Act.put, List.setIfInBounds_toArray, List.set_cons_zero, List.set_cons_succ])
    refine wpG_take _ (tlv f m o) rfl (by rfl) (fun X hX => c_ldT (HA.out.chg hX id) rfl rfl) ?_
    (try simp only [Act.put, List.setIfInBounds_toArray, List.set_cons_zero, List.set_cons_succ])
    refine wpG_take _ (.int .i32 bl) rfl (by rfl) (fun X hX => by first | rfl | go_simp) ?_
    (try simp only [Act.put, List.setIfInBounds_toArray, List.set_cons_zero, List.set_cons_succ])
    refine wpG_take _ (.int .i64 bl) rfl (by rfl) (fun X hX => by have w1 := HCB.out; first | rfl | go_simp) ?_
    (try simp only [Act.put, List.setIfInBounds_toArray, List.set_cons_zero, List.set_cons_succ])
    refine wpG_take _ (.int .i64 p) rfl (by rfl) (fun X hX => by first | rfl | go_simp) ?_
    (try simp only [Act.put, List.setIfInBounds_toArray, List.set_cons_zero, List.set_cons_succ])
    refine wpG_take _ (.int .i64 (p + 320)) rfl (by rfl) (fun X hX => by have w1 := HP3.out.1; first | rfl | go_simp) ?_
    (try simp only [Act.put, List.setIfInBounds_toArray, List.set_cons_zero, List.set_cons_succ])
    refine wpG_take _ (.int .i32 bl) rfl (by rfl) (fun X hX => by first | rfl | go_simp) ?_
    (try simp only [Act.put, List.setIfInBounds_toArray, List.set_cons_zero, List.set_cons_succ])
    refine wpG_take _ (.int .i64 bl) rfl (by rfl) (fun X hX => by have w1 := HCB.out; first | rfl | go_simp) ?_
    (try simp only [Act.put, List.setIfInBounds_toArray, List.set_cons_zero, List.set_cons_succ])
    refine wpG_take _ (.int .i64 (bl - 1)) rfl (by rfl) (fun X hX => by have w1 := HP3.out.2; first | rfl | go_simp) ?_
    (try simp only [Act.put, List.setIfInBounds_toArray, List.set_cons_zero, List.set_cons_succ])
    refine wpG_take _ (.bool b) rfl (by rfl) (fun X hX => ex_leqb HBB.out rfl rfl rfl) ?_
    (try simp only [Act.put, List.setIfInBounds_toArray, List.set_cons_zero, List.set_cons_succ])
    refine g_call _ rfl (by rfl) 7 (#[tlv f m o, .int .i64 bl]) (fun X => by go_simp) (.bool b) (HF.out _) (by first | exact (Chg.refl _ _).drew | exact HBW.out) ?_
    intro W hbW hbl
    (try clear HBW)
    have HBW := Lib.hid hbW
    clear hbW hbl
    (try simp only [Act.put, List.setIfInBounds_toArray, List.set_cons_zero, List.set_cons_succ])
    refine wpG_take _ (.bool true) rfl (by rfl) (fun X hX => ex_eqb rfl rfl rfl) ?_
    (try simp only [Act.put, List.setIfInBounds_toArray, List.set_cons_zero, List.set_cons_succ])
    refine wpG_take _ (.bool true) rfl (by rfl) (fun X hX => by first | rfl | go_simp) ?_
    (try simp only [Act.put, List.setIfInBounds_toArray, List.set_cons_zero, List.set_cons_succ])
    refine wpG_take _ (.bool true) rfl (by rfl) (fun X hX => by first | rfl | go_simp) ?_
    (try simp only [Act.put, List.setIfInBounds_toArray, List.set_cons_zero, List.set_cons_succ])
    refine g_call _ rfl (by rfl) 8 (#[]) (fun X => by go_simp) (.bool true) (gwakes_any _) (by first | exact (Chg.refl _ _).drew | exact HBW.out) ?_
    intro W hbW hbl
    (try clear HBW)
    have HBW := Lib.hid hbW
    clear hbW hbl
    (try simp only [Act.put, List.setIfInBounds_toArray, List.set_cons_zero, List.set_cons_succ])
    refine wpG_take _ (.bool true) rfl (by rfl) (fun X hX => by first | rfl | go_simp) ?_
    (try simp only [Act.put, List.setIfInBounds_toArray, List.set_cons_zero, List.set_cons_succ])
    refine wpG_take _ (.bool true) rfl (by rfl) (fun X hX => by first | rfl | go_simp) ?_
    (try simp only [Act.put, List.setIfInBounds_toArray, List.set_cons_zero, List.set_cons_succ])
    refine wpG_nil ?_
    have HE := Lib.hid (HBL.out.trans (HBW.out.below (fun _ h => h.elim) HBL.out.size))
    go_wp2_with fail
    first | exact ⟨rfl, HE.out⟩ | (go_ret; exact ⟨rfl, HE.out⟩)
  by_cases k3 : kd = 3
  · subst k3
    have HW : Hid (∀ w, Calls Try.prog 5 #[tlv f m o, .int .u8 ((3 : Nat) : Int), .int .i64 lv, .int .i64 mo] w (Ret w (tlv (f) (m + lv) (o + mo)))) := Lib.hid (by have := HW0.out; simpa [leafG] using this)
    clear HW0
    go_enter Try.func3, Try.ntmps3
    go_upto_region 9 with fail
    refine (fun (k' : ∀ W, Blk W w.heap.size (tls f m o) 23 → Blk W (w.heap.size + 1) (tls (f) (m + lv) (o + mo)) 23 → Below w.heap.size w W → Code.wp _ _ _ _ W) => k' _ ((Blk.new' _ _ _ _ _ rfl rfl).alloc _) (Blk.new' _ _ _ _ _ (by simp) rfl) (((Below.refl _ _).alloc (Nat.le_refl _) _).alloc (by simp) _)) ?_
    intro W1 hA hB hb1
    have HA := Lib.hid hA; have HB := Lib.hid hB; have HBL := Lib.hid hb1
    clear hA hB hb1 c1 c2 c3 c4 c5 w1 w2 w3 w4 w5 w6 w7 w8 w9
    refine wp_region_sched ((.take 0 (.take 1 (.take 2 (.take 3 (.take 4 (.take 5 (.take 7 (.step 6 (.take 8 (.take 9 (.take 10 (.take 12 (.step 11 (.take 13 (.take 14 (.take 15 (.take 16 (.take 17 (.take 18 (.take 20 (.take 21 (.take 22 (.take 23 (.take 24 (.take 25 (.step 19 (.take 26 (.take 27 (.take 28 (.step 29 (.take 30 (.take 31 (.nil)))))))))))))))))))))))))))))))))) (by kernel_rfl) (by kernel_rfl) (fun d _ _ _ _ h => by cases d <;> exact h) (fun X => Chg (fun _ => False) W1 X) ((Chg.refl _ _).drew) ?_
    refine wpG_take _ (tlv f m o) rfl (by rfl) (fun X hX => c_ldT (HA.out.chg hX id) rfl rfl) ?_
    (try simp only [Act.put, List.setIfInBounds_toArray, List.set_cons_zero, List.set_cons_succ])
    refine wpG_take _ (.int .u8 ((3 : Nat) : Int)) rfl (by rfl) (fun X hX => by first | rfl | go_simp) ?_
    (try simp only [Act.put, List.setIfInBounds_toArray, List.set_cons_zero, List.set_cons_succ])
    refine wpG_take _ (.int .i32 lv) rfl (by rfl) (fun X hX => by first | rfl | go_simp) ?_
    (try simp only [Act.put, List.setIfInBounds_toArray, List.set_cons_zero, List.set_cons_succ])
    refine wpG_take _ (.int .i64 lv) rfl (by rfl) (fun X hX => by have w1 := HCL.out; first | rfl | go_simp) ?_
    (try simp only [Act.put, List.setIfInBounds_toArray, List.set_cons_zero, List.set_cons_succ])
    refine wpG_take _ (.int .i32 mo) rfl (by rfl) (fun X hX => by first | rfl | go_simp) ?_
    (try simp only [Act.put, List.setIfInBounds_toArray, List.set_cons_zero, List.set_cons_succ])
    refine wpG_take _ (.int .i64 mo) rfl (by rfl) (fun X hX => by have w1 := HCM.out; first | rfl | go_simp) ?_
    (try simp only [Act.put, List.setIfInBounds_toArray, List.set_cons_zero, List.set_cons_succ])
    refine wpG_take _ (tlv (f) (m + lv) (o + mo)) rfl (by rfl) (fun X hX => c_ldT (HB.out.chg hX id) rfl rfl) ?_
    (try simp only [Act.put, List.setIfInBounds_toArray, List.set_cons_zero, List.set_cons_succ])
    refine g_call _ rfl (by rfl) 5 (#[tlv f m o, .int .u8 ((3 : Nat) : Int), .int .i64 lv, .int .i64 mo]) (fun X => by go_simp) (tlv (f) (m + lv) (o + mo)) (HW.out _) (by first | exact (Chg.refl _ _).drew | exact HBW.out) ?_
    intro W hbW hbl
    (try clear HBW)
    have HBW := Lib.hid hbW
    clear hbW hbl
    (try simp only [Act.put, List.setIfInBounds_toArray, List.set_cons_zero, List.set_cons_succ])
    refine wpG_take _ (.bool true) rfl (by rfl) (fun X hX => ex_eqT (by simp) rfl rfl rfl) ?_
    (try simp only [Act.put, List.setIfInBounds_toArray, List.set_cons_zero, List.set_cons_succ])
    refine wpG_take _ (.bool true) rfl (by rfl) (fun X hX => by first | rfl | go_simp) ?_
    (try simp only [Act.put, List.setIfInBounds_toArray, List.set_cons_zero, List.set_cons_succ])
    refine wpG_take _ (tlv f m o) rfl (by rfl) (fun X hX => c_ldT (HA.out.chg hX id) rfl rfl) ?_
    (try simp only [Act.put, List.setIfInBounds_toArray, List.set_cons_zero, List.set_cons_succ])
    refine wpG_take _ (.int .i64 p) rfl (by rfl) (fun X hX => by first | rfl | go_simp) ?_
    (try simp only [Act.put, List.setIfInBounds_toArray, List.set_cons_zero, List.set_cons_succ])
    refine g_call _ rfl (by rfl) 6 (#[tlv f m o]) (fun X => by go_simp) (.int .i64 p) (HCH.out _) (by first | exact (Chg.refl _ _).drew | exact HBW.out) ?_
    intro W hbW hbl
    (try clear HBW)
    have HBW := Lib.hid hbW
    clear hbW hbl
    (try simp only [Act.put, List.setIfInBounds_toArray, List.set_cons_zero, List.set_cons_succ])
    refine wpG_take _ (.bool true) rfl (by rfl) (fun X hX => by first | rfl | go_simp) ?_
    (try simp only [Act.put, List.setIfInBounds_toArray, List.set_cons_zero, List.set_cons_succ])
    refine wpG_take _ (.bool true) rfl (by rfl) (fun X hX => by first | rfl | go_simp) ?_
    (try simp only [Act.put, List.setIfInBounds_toArray, List.set_cons_zero, List.set_cons_succ])
    refine wpG_take _ (.bool true) rfl (by rfl) (fun X hX => by first | rfl | go_simp) ?_
    (try simp only [Act.put, List.setIfInBounds_toArray, List.set_cons_zero, List.set_cons_succ])
    refine wpG_take _ (tlv f m o) rfl (by rfl) (fun X hX => c_ldT (HA.out.chg hX id) rfl rfl) ?_
    (try simp only [Act.put, List.setIfInBounds_toArray, List.set_cons_zero, List.set_cons_succ])
    refine wpG_take _ (.int .i32 bl) rfl (by rfl) (fun X hX => by first | rfl | go_simp) ?_
    (try simp only [Act.put, List.setIfInBounds_toArray, List.set_cons_zero, List.set_cons_succ])
    refine wpG_take _ (.int .i64 bl) rfl (by rfl) (fun X hX => by have w1 := HCB.out; first | rfl | go_simp) ?_
    (try simp only [Act.put, List.setIfInBounds_toArray, List.set_cons_zero, List.set_cons_succ])
    refine wpG_take _ (.int .i64 p) rfl (by rfl) (fun X hX => by first | rfl | go_simp) ?_
    (try simp only [Act.put, List.setIfInBounds_toArray, List.set_cons_zero, List.set_cons_succ])
    refine wpG_take _ (.int .i64 (p + 320)) rfl (by rfl) (fun X hX => by have w1 := HP3.out.1; first | rfl | go_simp) ?_
    (try simp only [Act.put, List.setIfInBounds_toArray, List.set_cons_zero, List.set_cons_succ])
    refine wpG_take _ (.int .i32 bl) rfl (by rfl) (fun X hX => by first | rfl | go_simp) ?_
    (try simp only [Act.put, List.setIfInBounds_toArray, List.set_cons_zero, List.set_cons_succ])
    refine wpG_take _ (.int .i64 bl) rfl (by rfl) (fun X hX => by have w1 := HCB.out; first | rfl | go_simp) ?_
    (try simp only [Act.put, List.setIfInBounds_toArray, List.set_cons_zero, List.set_cons_succ])
    refine wpG_take _ (.int .i64 (bl - 1)) rfl (by rfl) (fun X hX => by have w1 := HP3.out.2; first | rfl | go_simp) ?_
    (try simp only [Act.put, List.setIfInBounds_toArray, List.set_cons_zero, List.set_cons_succ])
    refine wpG_take _ (.bool b) rfl (by rfl) (fun X hX => ex_leqb HBB.out rfl rfl rfl) ?_
    (try simp only [Act.put, List.setIfInBounds_toArray, List.set_cons_zero, List.set_cons_succ])
    refine g_call _ rfl (by rfl) 7 (#[tlv f m o, .int .i64 bl]) (fun X => by go_simp) (.bool b) (HF.out _) (by first | exact (Chg.refl _ _).drew | exact HBW.out) ?_
    intro W hbW hbl
    (try clear HBW)
    have HBW := Lib.hid hbW
    clear hbW hbl
    (try simp only [Act.put, List.setIfInBounds_toArray, List.set_cons_zero, List.set_cons_succ])
    refine wpG_take _ (.bool true) rfl (by rfl) (fun X hX => ex_eqb rfl rfl rfl) ?_
    (try simp only [Act.put, List.setIfInBounds_toArray, List.set_cons_zero, List.set_cons_succ])
    refine wpG_take _ (.bool true) rfl (by rfl) (fun X hX => by first | rfl | go_simp) ?_
    (try simp only [Act.put, List.setIfInBounds_toArray, List.set_cons_zero, List.set_cons_succ])
    refine wpG_take _ (.bool true) rfl (by rfl) (fun X hX => by first | rfl | go_simp) ?_
    (try simp only [Act.put, List.setIfInBounds_toArray, List.set_cons_zero, List.set_cons_succ])
    refine g_call _ rfl (by rfl) 8 (#[]) (fun X => by go_simp) (.bool true) (gwakes_any _) (by first | exact (Chg.refl _ _).drew | exact HBW.out) ?_
    intro W hbW hbl
    (try clear HBW)
    have HBW := Lib.hid hbW
    clear hbW hbl
    (try simp only [Act.put, List.setIfInBounds_toArray, List.set_cons_zero, List.set_cons_succ])
    refine wpG_take _ (.bool true) rfl (by rfl) (fun X hX => by first | rfl | go_simp) ?_
    (try simp only [Act.put, List.setIfInBounds_toArray, List.set_cons_zero, List.set_cons_succ])
    refine wpG_take _ (.bool true) rfl (by rfl) (fun X hX => by first | rfl | go_simp) ?_
    (try simp only [Act.put, List.setIfInBounds_toArray, List.set_cons_zero, List.set_cons_succ])
    refine wpG_nil ?_
    have HE := Lib.hid (HBL.out.trans (HBW.out.below (fun _ h => h.elim) HBL.out.size))
    go_wp2_with fail
    first | exact ⟨rfl, HE.out⟩ | (go_ret; exact ⟨rfl, HE.out⟩)
  have i1 : ¬ (kd : Int) = 1 := by omega
  have i2 : ¬ (kd : Int) = 2 := by omega
  have i3 : ¬ (kd : Int) = 3 := by omega
  have i4 : ((kd : Int) == 2) = false := by simpa using i2
  have i5 : ((kd : Int) == 3) = false := by simpa using i3
  have HW : Hid (∀ w, Calls Try.prog 5 #[tlv f m o, .int .u8 (kd : Int), .int .i64 lv, .int .i64 mo] w (Ret w (tlv (f) (m) (o + mo)))) := Lib.hid (by have := HW0.out; simpa [leafG, k1, k2, k3] using this)
  clear HW0
  go_enter Try.func3, Try.ntmps3
  go_upto_region 9 with fail
  refine (fun (k' : ∀ W, Blk W w.heap.size (tls f m o) 23 → Blk W (w.heap.size + 1) (tls (f) (m) (o + mo)) 23 → Below w.heap.size w W → Code.wp _ _ _ _ W) => k' _ ((Blk.new' _ _ _ _ _ rfl rfl).alloc _) (Blk.new' _ _ _ _ _ (by simp) rfl) (((Below.refl _ _).alloc (Nat.le_refl _) _).alloc (by simp) _)) ?_
  intro W1 hA hB hb1
  have HA := Lib.hid hA; have HB := Lib.hid hB; have HBL := Lib.hid hb1
  clear hA hB hb1 c1 c2 c3 c4 c5 w1 w2 w3 w4 w5 w6 w7 w8 w9
  refine wp_region_sched ((.take 0 (.take 1 (.take 2 (.take 3 (.take 4 (.take 5 (.take 7 (.step 6 (.take 8 (.take 9 (.take 10 (.take 12 (.step 11 (.take 13 (.take 14 (.take 15 (.take 16 (.take 17 (.take 18 (.take 20 (.take 21 (.take 22 (.take 23 (.take 24 (.take 25 (.step 19 (.take 26 (.take 27 (.take 28 (.step 29 (.take 30 (.take 31 (.nil)))))))))))))))))))))))))))))))))) (by kernel_rfl) (by kernel_rfl) (fun d _ _ _ _ h => by cases d <;> exact h) (fun X => Chg (fun _ => False) W1 X) ((Chg.refl _ _).drew) ?_
  refine wpG_take _ (tlv f m o) rfl (by rfl) (fun X hX => c_ldT (HA.out.chg hX id) rfl rfl) ?_
  (try simp only [Act.put, List.setIfInBounds_toArray, List.set_cons_zero, List.set_cons_succ])
  refine wpG_take _ (.int .u8 (kd : Int)) rfl (by rfl) (fun X hX => by first | rfl | go_simp) ?_
  (try simp only [Act.put, List.setIfInBounds_toArray, List.set_cons_zero, List.set_cons_succ])
  refine wpG_take _ (.int .i32 lv) rfl (by rfl) (fun X hX => by first | rfl | go_simp) ?_
  (try simp only [Act.put, List.setIfInBounds_toArray, List.set_cons_zero, List.set_cons_succ])
  refine wpG_take _ (.int .i64 lv) rfl (by rfl) (fun X hX => by have w1 := HCL.out; first | rfl | go_simp) ?_
  (try simp only [Act.put, List.setIfInBounds_toArray, List.set_cons_zero, List.set_cons_succ])
  refine wpG_take _ (.int .i32 mo) rfl (by rfl) (fun X hX => by first | rfl | go_simp) ?_
  (try simp only [Act.put, List.setIfInBounds_toArray, List.set_cons_zero, List.set_cons_succ])
  refine wpG_take _ (.int .i64 mo) rfl (by rfl) (fun X hX => by have w1 := HCM.out; first | rfl | go_simp) ?_
  (try simp only [Act.put, List.setIfInBounds_toArray, List.set_cons_zero, List.set_cons_succ])
  refine wpG_take _ (tlv (f) (m) (o + mo)) rfl (by rfl) (fun X hX => c_ldT (HB.out.chg hX id) rfl rfl) ?_
  (try simp only [Act.put, List.setIfInBounds_toArray, List.set_cons_zero, List.set_cons_succ])
  refine g_call _ rfl (by rfl) 5 (#[tlv f m o, .int .u8 (kd : Int), .int .i64 lv, .int .i64 mo]) (fun X => by go_simp) (tlv (f) (m) (o + mo)) (HW.out _) (by first | exact (Chg.refl _ _).drew | exact HBW.out) ?_
  intro W hbW hbl
  (try clear HBW)
  have HBW := Lib.hid hbW
  clear hbW hbl
  (try simp only [Act.put, List.setIfInBounds_toArray, List.set_cons_zero, List.set_cons_succ])
  refine wpG_take _ (.bool true) rfl (by rfl) (fun X hX => ex_eqT (by simp) rfl rfl rfl) ?_
  (try simp only [Act.put, List.setIfInBounds_toArray, List.set_cons_zero, List.set_cons_succ])
  refine wpG_take _ (.bool true) rfl (by rfl) (fun X hX => by first | rfl | go_simp) ?_
  (try simp only [Act.put, List.setIfInBounds_toArray, List.set_cons_zero, List.set_cons_succ])
  refine wpG_take _ (tlv f m o) rfl (by rfl) (fun X hX => c_ldT (HA.out.chg hX id) rfl rfl) ?_
  (try simp only [Act.put, List.setIfInBounds_toArray, List.set_cons_zero, List.set_cons_succ])
  refine wpG_take _ (.int .i64 p) rfl (by rfl) (fun X hX => by first | rfl | go_simp) ?_
  (try simp only [Act.put, List.setIfInBounds_toArray, List.set_cons_zero, List.set_cons_succ])
  refine g_call _ rfl (by rfl) 6 (#[tlv f m o]) (fun X => by go_simp) (.int .i64 p) (HCH.out _) (by first | exact (Chg.refl _ _).drew | exact HBW.out) ?_
  intro W hbW hbl
  (try clear HBW)
  have HBW := Lib.hid hbW
  clear hbW hbl
  (try simp only [Act.put, List.setIfInBounds_toArray, List.set_cons_zero, List.set_cons_succ])
  refine wpG_take _ (.bool true) rfl (by rfl) (fun X hX => by first | rfl | go_simp) ?_
  (try simp only [Act.put, List.setIfInBounds_toArray, List.set_cons_zero, List.set_cons_succ])
  refine wpG_take _ (.bool true) rfl (by rfl) (fun X hX => by first | rfl | go_simp) ?_
  (try simp only [Act.put, List.setIfInBounds_toArray, List.set_cons_zero, List.set_cons_succ])
  refine wpG_take _ (.bool true) rfl (by rfl) (fun X hX => by first | rfl | go_simp) ?_
  (try simp only [Act.put, List.setIfInBounds_toArray, List.set_cons_zero, List.set_cons_succ])
  refine wpG_take _ (tlv f m o) rfl (by rfl) (fun X hX => c_ldT (HA.out.chg hX id) rfl rfl) ?_
  (try simp only [Act.put, List.setIfInBounds_toArray, List.set_cons_zero, List.set_cons_succ])
  refine wpG_take _ (.int .i32 bl) rfl (by rfl) (fun X hX => by first | rfl | go_simp) ?_
  (try simp only [Act.put, List.setIfInBounds_toArray, List.set_cons_zero, List.set_cons_succ])
  refine wpG_take _ (.int .i64 bl) rfl (by rfl) (fun X hX => by have w1 := HCB.out; first | rfl | go_simp) ?_
  (try simp only [Act.put, List.setIfInBounds_toArray, List.set_cons_zero, List.set_cons_succ])
  refine wpG_take _ (.int .i64 p) rfl (by rfl) (fun X hX => by first | rfl | go_simp) ?_
  (try simp only [Act.put, List.setIfInBounds_toArray, List.set_cons_zero, List.set_cons_succ])
  refine wpG_take _ (.int .i64 (p + 320)) rfl (by rfl) (fun X hX => by have w1 := HP3.out.1; first | rfl | go_simp) ?_
  (try simp only [Act.put, List.setIfInBounds_toArray, List.set_cons_zero, List.set_cons_succ])
  refine wpG_take _ (.int .i32 bl) rfl (by rfl) (fun X hX => by first | rfl | go_simp) ?_
  (try simp only [Act.put, List.setIfInBounds_toArray, List.set_cons_zero, List.set_cons_succ])
  refine wpG_take _ (.int .i64 bl) rfl (by rfl) (fun X hX => by have w1 := HCB.out; first | rfl | go_simp) ?_
  (try simp only [Act.put, List.setIfInBounds_toArray, List.set_cons_zero, List.set_cons_succ])
  refine wpG_take _ (.int .i64 (bl - 1)) rfl (by rfl) (fun X hX => by have w1 := HP3.out.2; first | rfl | go_simp) ?_
  (try simp only [Act.put, List.setIfInBounds_toArray, List.set_cons_zero, List.set_cons_succ])
  refine wpG_take _ (.bool b) rfl (by rfl) (fun X hX => ex_leqb HBB.out rfl rfl rfl) ?_
  (try simp only [Act.put, List.setIfInBounds_toArray, List.set_cons_zero, List.set_cons_succ])
  refine g_call _ rfl (by rfl) 7 (#[tlv f m o, .int .i64 bl]) (fun X => by go_simp) (.bool b) (HF.out _) (by first | exact (Chg.refl _ _).drew | exact HBW.out) ?_
  intro W hbW hbl
  (try clear HBW)
  have HBW := Lib.hid hbW
  clear hbW hbl
  (try simp only [Act.put, List.setIfInBounds_toArray, List.set_cons_zero, List.set_cons_succ])
  refine wpG_take _ (.bool true) rfl (by rfl) (fun X hX => ex_eqb rfl rfl rfl) ?_
  (try simp only [Act.put, List.setIfInBounds_toArray, List.set_cons_zero, List.set_cons_succ])
  refine wpG_take _ (.bool true) rfl (by rfl) (fun X hX => by first | rfl | go_simp) ?_
  (try simp only [Act.put, List.setIfInBounds_toArray, List.set_cons_zero, List.set_cons_succ])
  refine wpG_take _ (.bool true) rfl (by rfl) (fun X hX => by first | rfl | go_simp) ?_
  (try simp only [Act.put, List.setIfInBounds_toArray, List.set_cons_zero, List.set_cons_succ])
  refine g_call _ rfl (by rfl) 8 (#[]) (fun X => by go_simp) (.bool true) (gwakes_any _) (by first | exact (Chg.refl _ _).drew | exact HBW.out) ?_
  intro W hbW hbl
  (try clear HBW)
  have HBW := Lib.hid hbW
  clear hbW hbl
  (try simp only [Act.put, List.setIfInBounds_toArray, List.set_cons_zero, List.set_cons_succ])
  refine wpG_take _ (.bool true) rfl (by rfl) (fun X hX => by first | rfl | go_simp) ?_
  (try simp only [Act.put, List.setIfInBounds_toArray, List.set_cons_zero, List.set_cons_succ])
  refine wpG_take _ (.bool true) rfl (by rfl) (fun X hX => by first | rfl | go_simp) ?_
  (try simp only [Act.put, List.setIfInBounds_toArray, List.set_cons_zero, List.set_cons_succ])
  refine wpG_nil ?_
  have HE := Lib.hid (HBL.out.trans (HBW.out.below (fun _ h => h.elim) HBL.out.size))
  go_wp2_with fail
  first | exact ⟨rfl, HE.out⟩ | (go_ret; exact ⟨rfl, HE.out⟩)
end Go.Proofs.Ytoceedfjfjobdaa
