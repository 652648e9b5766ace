/- What the document says of an act: Fuse, Back, Step. -/
import Derived.Test.YtneemllgimeacaaSz
namespace Go.Proofs.Ytneemllgimeacaa
open Go.RowKit

theorem RpAt.set1 {w : World} {q : Nat} {p : Pw} (h : RpAt w q p) (f : Int) (h1 : -1 ≤ f) (h2 : f ≤ 9223372036854775807) : RpAt (w.setCell ⟨q, 1, none⟩ (.int .i64 f)) q ⟨p.on, f⟩ := ⟨h.blk.set 1 _, h1, h2⟩
theorem ex_max3 {ρ : Operand → Value} {o : Oper} {x : Operand} {z : Int} {w : World} (ho : o.op = .call { callee := .builtin .max, args := #[x, .const (.int .i64 (-1))], argTypes := #[3, 3] }) (hx : ρ x = .int .i64 z) (hc : ρ (.const (.int .i64 (-1))) = .int .i64 (-1)) : (execOp ρ o).run Try.prog w = .ok (.value (.int .i64 (max z (-1)))) w := by
  unfold execOp
  simp only [ho]
  by_cases h : z < -1
  · have e : max z (-1) = -1 := by omega
    rw [e]
    go_simp
  · have e : max z (-1) = z := by omega
    rw [e]
    go_simp
theorem ex_ld27 {ρ : Operand → Value} {o : Oper} {x : Operand} {ad : Addr} {v : Value} {w : World} (ho : o.op = .load 27 x) (hx : ρ x = .pointer (some ad)) (hc : w.cell? ad = some v) : (execOp ρ o).run Try.prog w = .ok (.value v) w := by
  unfold execOp
  simp only [ho]
  go_simp
theorem ex_fa45n {ρ : Operand → Value} {o : Oper} {x : Operand} {g off : Nat} {w : World} (ho : o.op = .fieldAddr 45 x 5) (hx : ρ x = .pointer (some ⟨g, off, none⟩)) : (execOp ρ o).run Try.prog w = .ok (.value (.pointer (some ⟨g, off + 5, none⟩))) w := by
  unfold execOp
  simp only [ho]
  go_simp
theorem ex_fa29 {ρ : Operand → Value} {o : Oper} {x : Operand} {g : Nat} {w : World} (ho : o.op = .fieldAddr 29 x 1) (hx : ρ x = .pointer (some ⟨g, 0, none⟩)) : (execOp ρ o).run Try.prog w = .ok (.value (.pointer (some ⟨g, 1, none⟩))) w := by
  unfold execOp
  simp only [ho]
  go_simp
theorem ex_st3 {ρ : Operand → Value} {o : Oper} {x y : Operand} {b j : Nat} {z : Int} {w : World} (ho : o.op = .store 3 x y) (hx : ρ x = .pointer (some ⟨b, j, none⟩)) (hy : ρ y = .int .i64 z) {u : Value} (hc : w.cell? ⟨b, j, none⟩ = some u) (hf : w.frozen? ⟨b, j, none⟩ = false) :
    (execOp ρ o).run Try.prog w = .ok .skip (w.setCell ⟨b, j, none⟩ (.int .i64 z)) := by
  unfold execOp
  simp only [ho]
  go_simp
theorem chg_q {w : World} (q : Nat) (j : Nat) (v : Value) : Chg (fun k => k = q) w (w.setCell ⟨q, j, none⟩ v) := (Chg.refl (fun k => k = q) w).setCell (.inl rfl) j v
set_option maxRecDepth 100000 in
set_option maxHeartbeats 4000000 in
theorem says_10 (R q : Nat) (T : Nat → Prop) (t : Rsk) (p : Pw) (a : Ac) (w : World) (h : Asks w R q T t p a) (hk : a.act = 10) : Calls Try.prog 13 #[.pointer (some ⟨R, 0, none⟩), aval a] w (Spoke R q T (said t p a) w) := by
  obtain ⟨act, d, addr, b, spb, capb, short, n, z, spz, capz⟩ := a
  simp only at hk
  subst hk
  have hz : Below w.heap.size w (w.alloc (.cells #[.int .u8 (10 : Int), .int .u8 (d : Int), .int .u16 (addr : Int), .slice spb b.length capb, .bool short, .int .i64 n, .slice spz z.length capz] 45)) := (Below.refl _ _).alloc (Nat.le_refl _) _
  have HZ := Lib.hid hz
  have H := Lib.hid (h.grown hz)
  have hadr := h.ok.addr
  have hq : q < w.heap.size := h.rp.blk.lt
  clear h hz
  change Calls Try.prog 13 #[.pointer (some ⟨R, 0, none⟩), .agg #[.int .u8 (10 : Int), .int .u8 (d : Int), .int .u16 (addr : Int), .slice spb b.length capb, .bool short, .int .i64 n, .slice spz z.length capz]] w _
  obtain ⟨vm, vc, vb, vs, va, hin⟩ := H.out.rk
  obtain ⟨-, c1, -⟩ := hin.c
  clear hin
  have hn1 := H.out.ok.n1
  have hn2 := H.out.ok.n2
  simp only at hn1 hn2
  have c5 : (w.alloc (.cells #[.int .u8 (10 : Int), .int .u8 (d : Int), .int .u16 (addr : Int), .slice spb b.length capb, .bool short, .int .i64 n, .slice spz z.length capz] 45)).cell? ⟨w.heap.size, 5, none⟩ = some (.int .i64 n) := (Blk.new w [.int .u8 (10 : Int), .int .u8 (d : Int), .int .u16 (addr : Int), .slice spb b.length capb, .bool short, .int .i64 n, .slice spz z.length capz] 45).cell rfl
  have d0 : (w.alloc (.cells #[.int .u8 (10 : Int), .int .u8 (d : Int), .int .u16 (addr : Int), .slice spb b.length capb, .bool short, .int .i64 n, .slice spz z.length capz] 45)).cell? ⟨q, 0, none⟩ = some (.bool (!p.on)) := H.out.rp.blk.cell rfl
  have d1 : (w.alloc (.cells #[.int .u8 (10 : Int), .int .u8 (d : Int), .int .u16 (addr : Int), .slice spb b.length capb, .bool short, .int .i64 n, .slice spz z.length capz] 45)).cell? ⟨q, 1, none⟩ = some (.int .i64 p.fuse) := H.out.rp.blk.cell rfl
  have f1 := H.out.rp.blk.free 1
  have HS := Lib.hid (H.out.rp.set1 (max n (-1)) (by omega) (by omega))
  by_cases hon : p.on = false
  · rw [hon] at d0
    simp only [Bool.not_false] at d0
    have e : p.set n = p := by unfold Pw.set; rw [hon]; rfl
    have HE := Lib.hid e
    clear e
    go_enter Try.func13, Try.ntmps13
    go_wp2_with fail
    go_ret2
    exact Spoke.since ⟨rfl, H.out.rk.ext H.out.rp.blk.lt, by show RpAt _ q (p.set n); rw [HE.out]; exact H.out.rp, Chg.refl _ _⟩ HZ.out hq
  · have hon' : p.on = true := by simpa using hon
    rw [hon'] at d0
    simp only [Bool.not_true] at d0
    have e : p.set n = ⟨p.on, max n (-1)⟩ := by unfold Pw.set; rw [if_pos hon', hon']
    have HE := Lib.hid e
    clear e hon
    have HF := Lib.hid f1
    have HC1 := Lib.hid c1
    have HC5 := Lib.hid c5
    have HD1 := Lib.hid d1
    go_enter Try.func13, Try.ntmps13
    go_wp2_with fail
    have hch : Chg (fun k => k = q) (w.alloc (.cells #[.int .u8 (10 : Int), .int .u8 (d : Int), .int .u16 (addr : Int), .slice spb b.length capb, .bool short, .int .i64 n, .slice spz z.length capz] 45)) ((w.alloc (.cells #[.int .u8 (10 : Int), .int .u8 (d : Int), .int .u16 (addr : Int), .slice spb b.length capb, .bool short, .int .i64 n, .slice spz z.length capz] 45)).drew.setCell ⟨q, 1, none⟩ (.int .i64 (max n (-1)))) := (Chg.refl _ _).drew.trans' (chg_q q 1 _)
    have hRlt : R < (w.alloc (.cells #[.int .u8 (10 : Int), .int .u8 (d : Int), .int .u16 (addr : Int), .slice spb b.length capb, .bool short, .int .i64 n, .slice spz z.length capz] 45)).heap.size := H.out.rk.lt R H.out.rk.sd
    have hRq : ¬ R = q := fun e => H.out.rk.nq (e ▸ H.out.rk.sd)
    refine wp_region_sched (.take 0 (.take 1 (.take 2 (.take 3 (.take 4 (.take 5 (.take 6 (.take 7 (.take 8 (.step 9 (.nil))))))))))) (by kernel_rfl) (by kernel_rfl) (fun d _ _ _ _ h => by cases d <;> exact h) (fun X => X.cell? ⟨R, 1, none⟩ = some (.pointer (some ⟨q, 0, none⟩)) ∧ X.cell? ⟨w.heap.size, 5, none⟩ = some (.int .i64 n)) ⟨HC1.out, HC5.out⟩ ?_
    refine wpG_take _ (.pointer (some ⟨R, 0, none⟩)) rfl (by rfl) (fun X hX => by rfl) ?_
    (try simp only [Act.put, List.setIfInBounds_toArray, List.set_cons_zero, List.set_cons_succ])
    refine wpG_take _ (.pointer (some ⟨R, 0, none⟩)) rfl (by rfl) (fun X hX => ex_nc rfl rfl) ?_
    (try simp only [Act.put, List.setIfInBounds_toArray, List.set_cons_zero, List.set_cons_succ])
    refine wpG_take _ (.pointer (some ⟨R, 1, none⟩)) rfl (by rfl) (fun X hX => ex_fa40 (by omega) rfl rfl) ?_
    (try simp only [Act.put, List.setIfInBounds_toArray, List.set_cons_zero, List.set_cons_succ])
    refine wpG_take _ (.pointer (some ⟨q, 0, none⟩)) rfl (by rfl) (fun X hX => ex_ld27 rfl rfl hX.1) ?_
    (try simp only [Act.put, List.setIfInBounds_toArray, List.set_cons_zero, List.set_cons_succ])
    refine wpG_take _ (.pointer (some ⟨w.heap.size, 5, none⟩)) rfl (by rfl) (fun X hX => ex_fa45n rfl rfl) ?_
    (try simp only [Act.put, List.setIfInBounds_toArray, List.set_cons_zero, List.set_cons_succ])
    refine wpG_take _ (.int .i64 n) rfl (by rfl) (fun X hX => ex_ld3 rfl rfl hX.2) ?_
    (try simp only [Act.put, List.setIfInBounds_toArray, List.set_cons_zero, List.set_cons_succ])
    refine wpG_take _ (.int .i64 (max n (-1))) rfl (by rfl) (fun X hX => ex_max3 rfl rfl rfl) ?_
    (try simp only [Act.put, List.setIfInBounds_toArray, List.set_cons_zero, List.set_cons_succ])
    refine wpG_take _ (.pointer (some ⟨q, 0, none⟩)) rfl (by rfl) (fun X hX => ex_nc rfl rfl) ?_
    (try simp only [Act.put, List.setIfInBounds_toArray, List.set_cons_zero, List.set_cons_succ])
    refine wpG_take _ (.pointer (some ⟨q, 1, none⟩)) rfl (by rfl) (fun X hX => ex_fa29 rfl rfl) ?_
    (try simp only [Act.put, List.setIfInBounds_toArray, List.set_cons_zero, List.set_cons_succ])
    refine wpG_st _ rfl (by rfl) ((w.alloc (.cells #[.int .u8 (10 : Int), .int .u8 (d : Int), .int .u16 (addr : Int), .slice spb b.length capb, .bool short, .int .i64 n, .slice spz z.length capz] 45)).drew.setCell ⟨q, 1, none⟩ (.int .i64 (max n (-1)))) (ex_st3 rfl rfl rfl HD1.out HF.out) _ ⟨(World.cell?_of_block (a := ⟨R, 1, none⟩) (hch.block R hRlt hRq)).trans HC1.out, (World.cell?_of_block (a := ⟨w.heap.size, 5, none⟩) (hch.block w.heap.size (by simp) (by omega))).trans HC5.out⟩ ⟨(World.cell?_of_block (a := ⟨R, 1, none⟩) (hch.block R hRlt hRq)).trans HC1.out, (World.cell?_of_block (a := ⟨w.heap.size, 5, none⟩) (hch.block w.heap.size (by simp) (by omega))).trans HC5.out⟩ (fun _ h => h) ?_
    (try simp only [Act.put, List.setIfInBounds_toArray, List.set_cons_zero, List.set_cons_succ])
    refine wpG_nil ?_
    go_wp2_with fail
    go_ret2
    have hrp : RpAt ((w.alloc (.cells #[.int .u8 (10 : Int), .int .u8 (d : Int), .int .u16 (addr : Int), .slice spb b.length capb, .bool short, .int .i64 n, .slice spz z.length capz] 45)).drew.setCell ⟨q, 1, none⟩ (.int .i64 (max n (-1)))) q (p.set n) := by
      rw [HE.out]
      exact (H.out.rp.chg (F := fun _ => False) (Chg.of_below (Below.refl _ _).drew) (fun h => h)).set1 (max n (-1)) (by omega) (by omega)
    exact Spoke.since ⟨rfl, (H.out.rk.chg hch (fun k hk e => H.out.rk.nq (e ▸ hk))).ext H.out.rp.blk.lt, hrp, hch.justQ⟩ HZ.out hq

theorem info29 : (Try.prog.info? 29).map (·.size) = some 2 := by kernel_rfl
theorem one2b (a : Bool) (z : Int) : (#[Value.bool a, Value.int .i64 z]).all (·.oneCell') = true := by simp [Value.oneCell']
set_option maxRecDepth 100000 in
set_option maxHeartbeats 4000000 in
theorem says_11 (R q : Nat) (T : Nat → Prop) (t : Rsk) (p : Pw) (a : Ac) (w : World) (h : Asks w R q T t p a) (hk : a.act = 11) : Calls Try.prog 13 #[.pointer (some ⟨R, 0, none⟩), aval a] w (Spoke R q T (said t p a) w) := by
  obtain ⟨act, d, addr, b, spb, capb, short, n, z, spz, capz⟩ := a
  simp only at hk
  subst hk
  have hz : Below w.heap.size w (w.alloc (.cells #[.int .u8 (11 : Int), .int .u8 (d : Int), .int .u16 (addr : Int), .slice spb b.length capb, .bool short, .int .i64 n, .slice spz z.length capz] 45)) := (Below.refl _ _).alloc (Nat.le_refl _) _
  have HZ := Lib.hid hz
  have H := Lib.hid (h.grown hz)
  have hadr := h.ok.addr
  have hq : q < w.heap.size := h.rp.blk.lt
  clear h hz
  change Calls Try.prog 13 #[.pointer (some ⟨R, 0, none⟩), .agg #[.int .u8 (11 : Int), .int .u8 (d : Int), .int .u16 (addr : Int), .slice spb b.length capb, .bool short, .int .i64 n, .slice spz z.length capz]] w _
  obtain ⟨vm, vc, vb, vs, va, hin⟩ := H.out.rk
  obtain ⟨-, c1, -⟩ := hin.c
  clear hin
  have hrow : RpAt ((w.alloc (.cells #[.int .u8 (11 : Int), .int .u8 (d : Int), .int .u16 (addr : Int), .slice spb b.length capb, .bool short, .int .i64 n, .slice spz z.length capz] 45)).setRow q #[.bool false, .int .i64 (-1)]) q ⟨true, -1⟩ := ⟨H.out.rp.blk.row [.bool false, .int .i64 (-1)], by simp, by simp⟩
  have hch : Chg (fun k => k = q) (w.alloc (.cells #[.int .u8 (11 : Int), .int .u8 (d : Int), .int .u16 (addr : Int), .slice spb b.length capb, .bool short, .int .i64 n, .slice spz z.length capz] 45)) ((w.alloc (.cells #[.int .u8 (11 : Int), .int .u8 (d : Int), .int .u16 (addr : Int), .slice spb b.length capb, .bool short, .int .i64 n, .slice spz z.length capz] 45)).setRow q #[.bool false, .int .i64 (-1)]) := (Chg.refl (fun k => k = q) _).setRow (.inl rfl) _
  have HROW := Lib.hid hrow
  have HCH := Lib.hid hch
  clear hrow hch
  go_enter Try.func13, Try.ntmps13
  go_wp2_with (first | (refine wpList_store_row rfl 29 (.tmp 100) (.tmp 99) rfl q _ rfl rfl 29 _ H.out.rp.blk info29 rfl (one2b _ _) ?_) | fail)
  go_ret2
  exact Spoke.since ⟨rfl, (H.out.rk.chg HCH.out (fun k hk e => H.out.rk.nq (e ▸ hk))).ext H.out.rp.blk.lt, HROW.out, HCH.out.justQ⟩ HZ.out hq
set_option maxRecDepth 100000 in
set_option maxHeartbeats 4000000 in
theorem says_d (R q : Nat) (T : Nat → Prop) (t : Rsk) (p : Pw) (a : Ac) (w : World) (h : Asks w R q T t p a) (hk : 12 ≤ a.act) : Calls Try.prog 13 #[.pointer (some ⟨R, 0, none⟩), aval a] w (Spoke R q T (said t p a) w) := by
  obtain ⟨act, d, addr, b, spb, capb, short, n, z, spz, capz⟩ := a
  simp only at hk
  have hz : Below w.heap.size w (w.alloc (.cells #[.int .u8 (act : Int), .int .u8 (d : Int), .int .u16 (addr : Int), .slice spb b.length capb, .bool short, .int .i64 n, .slice spz z.length capz] 45)) := (Below.refl _ _).alloc (Nat.le_refl _) _
  have HZ := Lib.hid hz
  have H := Lib.hid (h.grown hz)
  have hadr := h.ok.addr
  have hq : q < w.heap.size := h.rp.blk.lt
  clear h hz
  change Calls Try.prog 13 #[.pointer (some ⟨R, 0, none⟩), .agg #[.int .u8 (act : Int), .int .u8 (d : Int), .int .u16 (addr : Int), .slice spb b.length capb, .bool short, .int .i64 n, .slice spz z.length capz]] w _
  obtain ⟨vm, vc, vb, vs, va, hin⟩ := H.out.rk
  obtain ⟨-, c1, -⟩ := hin.c
  clear hin
  have k0 : ((act : Int) == 0) = false := by simp; omega
  have k1 : ((act : Int) == 1) = false := by simp; omega
  have k2 : ((act : Int) == 2) = false := by simp; omega
  have k3 : ((act : Int) == 3) = false := by simp; omega
  have k4 : ((act : Int) == 4) = false := by simp; omega
  have k5 : ((act : Int) == 5) = false := by simp; omega
  have k6 : ((act : Int) == 6) = false := by simp; omega
  have k7 : ((act : Int) == 7) = false := by simp; omega
  have k8 : ((act : Int) == 8) = false := by simp; omega
  have k9 : ((act : Int) == 9) = false := by simp; omega
  have k10 : ((act : Int) == 10) = false := by simp; omega
  have k11 : ((act : Int) == 11) = false := by simp; omega
  have hsd : said t p ⟨act, d, addr, b, spb, capb, short, n, z, spz, capz⟩ = ([], if p.step.1 then 0 else 3, t, p.step.2) := by
    unfold said
    split <;> first | rfl | (rename_i hh; simp only at hh; omega)
  have HSD := Lib.hid hsd
  clear hsd hk
  go_enter Try.func13, Try.ntmps13
  go_wp2_with fail
  refine (rstep_any q p _ H.out.rp).mono ?_
  rintro e w1 ⟨rfl, hp1, hc1⟩
  have HP := Lib.hid hp1
  have HC := Lib.hid hc1
  clear hp1 hc1
  by_cases hst : p.step.1 = true
  · rw [hst]
    go_wp2_with fail
    go_ret2
    rw [HSD.out, hst]
    exact Spoke.since ⟨rfl, (H.out.rk.chg HC.out (fun k hk e => H.out.rk.nq (e ▸ hk))).ext H.out.rp.blk.lt, HP.out, HC.out.justQ⟩ HZ.out hq
  · have hst' : p.step.1 = false := by simpa using hst
    rw [hst']
    clear hst
    go_wp2_with fail
    go_ret2
    rw [HSD.out, hst']
    exact Spoke.since ⟨rfl, (H.out.rk.chg HC.out (fun k hk e => H.out.rk.nq (e ▸ hk))).ext H.out.rp.blk.lt, HP.out, HC.out.justQ⟩ HZ.out hq
end Go.Proofs.Ytneemllgimeacaa
