/- A space beside the document's two disks; same. -/
import Derived.Test.YtjfedhaafdfibaaKrp
import Derived.Test.YtjfedhaafdfibaaKta
import Derived.Deep.DeepCutAuto
import Derived.Deep.CutBlock
namespace Go.Proofs.Ytjfedhaafdfibaa
open Go.RowKit

/-- What the law keeps: the space, the document's two disks, the acts. -/
structure Pl (w0 w : World) (D : Nat) (B : Nat → Nat) (sp : Sp) (G : Nat) (lab : Nat → Nat) (R : Nat → Nat) (v : Nat → Nat → Value) (rd : Nat → Rdk) : Prop where
  live : Live w0 w D B sp
  g : Blk w G [.pointer (some ⟨R 0, 0, none⟩), .pointer (some ⟨R 1, 0, none⟩)] 28
  rds : ∀ d, d < 2 → RdIn w w0.heap.size lab (3 * d) (R d) (v d) (rd d)
  ne : R 0 ≠ R 1
  gl : w0.heap.size ≤ G
  sim : ∀ d, d < 2 → SimD (sp d) (rd d)
theorem Pl.ptr {w0 w : World} {D : Nat} {B : Nat → Nat} {sp : Sp} {G : Nat} {lab : Nat → Nat} {R : Nat → Nat} {v : Nat → Nat → Value} {rd : Nat → Rdk} (h : Pl w0 w D B sp G lab R v rd) {d : Nat} (hd : d < 2) : w.cell? ⟨G, d, none⟩ = some (.pointer (some ⟨R d, 0, none⟩)) := by
  obtain rfl | rfl : d = 0 ∨ d = 1 := by omega
  · exact h.g.cell rfl
  · exact h.g.cell rfl
theorem Pl.below {w0 w w' : World} {D : Nat} {B : Nat → Nat} {sp : Sp} {G : Nat} {lab : Nat → Nat} {R : Nat → Nat} {v : Nat → Nat → Value} {rd : Nat → Rdk} (h : Pl w0 w D B sp G lab R v rd) (hb : Below w.heap.size w w') : Pl w0 w' D B sp G lab R v rd :=
  ⟨h.live.below hb, h.g.below hb h.g.lt, fun d hd => (h.rds d hd).below hb, h.ne, h.gl, h.sim⟩
section
variable {ρ : Operand → Value} {o : Oper} {x y : Operand} {w : World}
theorem exk_cv16 {t : Nat} (ho : o.op = .convert 3 33 x) (hx : ρ x = .int .i64 (t : Int)) (h : IntKind.u16.wrap (t : Int) = (t : Int)) : (execOp ρ o).run Try.prog w = .ok (.value (.int .u16 (t : Int))) w := by
  unfold execOp
  simp only [ho]
  go_simp
theorem exk_ia32 {G k : Nat} (hk : k < 2) (ho : o.op = .indexAddr 32 x y) (hx : ρ x = .slice (some ⟨G, 0, none⟩) 2 2) (hy : ρ y = .int .i64 (k : Int)) : (execOp ρ o).run Try.prog w = .ok (.value (.pointer (some ⟨G, k, none⟩))) w := by
  have hk2 : ¬ 2 ≤ (k : Int) := by omega
  unfold execOp
  simp only [ho]
  go_simp
theorem exk_ldp {ad : Addr} {u : Value} (ho : o.op = .load 28 x) (hx : ρ x = .pointer (some ad)) (hc : w.cell? ad = some u) : (execOp ρ o).run Try.prog w = .ok (.value u) w := by
  unfold execOp
  simp only [ho]
  go_simp
theorem exk_lds {ad : Addr} {u : Value} (ho : o.op = .load 29 x) (hx : ρ x = .pointer (some ad)) (hc : w.cell? ad = some u) : (execOp ρ o).run Try.prog w = .ok (.value u) w := by
  unfold execOp
  simp only [ho]
  go_simp
theorem exk_faR {b j : Nat} (hj : j < 4) (ho : o.op = .fieldAddr 31 x j) (hx : ρ x = .pointer (some ⟨b, 0, none⟩)) : (execOp ρ o).run Try.prog w = .ok (.value (.pointer (some ⟨b, j, none⟩))) w := by
  unfold execOp
  simp only [ho]
  match j, hj with
  | 0, _ | 1, _ | 2, _ | 3, _ => go_simp
theorem exk_neqb {b : Bool} (ho : o.op = .binOp .neq 4 x y 4) (hx : ρ x = .bool b) (hy : ρ y = .bool b) : (execOp ρ o).run Try.prog w = .ok (.value (.bool false)) w := by
  unfold execOp
  simp only [ho]
  cases b <;> go_simp
end
set_option maxRecDepth 100000 in
set_option maxHeartbeats 8000000 in
theorem same_any (w0 w : World) (D : Nat) (B : Nat → Nat) (sp : Sp) (G : Nat) (lab : Nat → Nat) (R : Nat → Nat) (v : Nat → Nat → Value) (rd : Nat → Rdk) (h : Pl w0 w D B sp G lab R v rd) (hn : ∀ d, d < 2 → (rd d).n ≤ 1000) :
    Calls Try.prog 17 #[.pointer (some ⟨D, 0, none⟩), .slice (some ⟨G, 0, none⟩) 2 2] w fun e w' => e = .returned (.bool true) ∧ Below w.heap.size w w' := by
  have H : Hid (∀ W, Below w.heap.size w W → Pl w0 W D B sp G lab R v rd) := Lib.hid fun W hW => h.below hW
  have HN := Lib.hid hn
  clear h hn
  go_enter Try.func17, Try.ntmps17
  go_wp2_with fail
  go_loopw [5] (fun i wr => ∃ k : Nat, k ≤ 2 ∧ i = .int .i64 (k : Int) ∧ Hid (Below w.heap.size w wr)) (fun i _ => 2 - (intOf i).toNat)
  case atStart => exact ⟨0, by omega, rfl, Lib.hid (Below.refl _ _)⟩
  case round =>
    obtain ⟨k, hk, rfl, HB⟩ := hrel
    have wk := IntWalk.i64_in ((k : Int) + 1) (by omega)
    by_cases hlt : k < 2
    · have hP := H.out wr HB.out
      have hnn := HN.out k hlt
      have hsim := hP.sim k hlt
      have hsn := hsim.n
      have hm0 := cnt_all (sp k) hsim.is
      rw [← hsim.u.len, ← hsim.h.len] at hm0
      have ev : countOf sp k = .agg #[.int .i64 (cnt (isB 0) (sp k) : Nat), .int .i64 (((rd k).l 0).length : Nat), .int .i64 (((rd k).l 1).length : Nat), .int .i64 (((rd k).l 2).length : Nat)] := by
        rw [hsim.u.len, hsim.h.len, hsim.s.len]; rfl
      have hhas : ∀ a, isS sp k a = hasB ((rd k).l 2) a := fun a => by rw [hsim.s.has]; rfl
      obtain ⟨m0, e0⟩ : ∃ m, cnt (isB 0) (sp k) = m := ⟨_, rfl⟩
      obtain ⟨m1, e1⟩ : ∃ m, ((rd k).l 0).length = m := ⟨_, rfl⟩
      obtain ⟨m2, e2⟩ : ∃ m, ((rd k).l 1).length = m := ⟨_, rfl⟩
      obtain ⟨m3, e3⟩ : ∃ m, ((rd k).l 2).length = m := ⟨_, rfl⟩
      obtain ⟨n, e4⟩ : ∃ m, (rd k).n = m := ⟨_, rfl⟩
      have hm3 := (hsim.len 2 (by omega))
      rw [e0, e1, e2] at hm0
      rw [e0, e1, e2, e3] at ev
      rw [e3] at hm3
      rw [e4] at hsn hnn
      have EV := Lib.hid ev; have HH := Lib.hid hhas
      have E1 := Lib.hid e1; have E2 := Lib.hid e2; have E3 := Lib.hid e3; have E4 := Lib.hid e4
      have hsum : m0 + m1 + m2 + 1 = n := by omega
      have hb3 : m3 < n := by omega
      clear ev hhas e0 e1 e2 e3 e4 hsim hP hm0 hsn hm3
      go_wp2_with fail
      refine (count_any k D B sp wr (H.out wr HB.out).live.at' hlt).mono ?_
      rw [EV.out]
      rintro e w4 ⟨rfl, hb4⟩
      have HB4 := Lib.hid (HB.out.trans (hb4.mono HB.out.size))
      clear hb4
      go_upto_region 5 with fail
      have hb5 : Below w4.heap.size w4 (w4.alloc (.cells #[.int .i64 (m0 : Int), .int .i64 (m1 : Int), .int .i64 (m2 : Int), .int .i64 (m3 : Int)] 41)) := (Below.refl _ _).alloc (Nat.le_refl _) _
      have hbc : Blk (w4.alloc (.cells #[.int .i64 (m0 : Int), .int .i64 (m1 : Int), .int .i64 (m2 : Int), .int .i64 (m3 : Int)] 41)) w4.heap.size [.int .i64 (m0 : Int), .int .i64 (m1 : Int), .int .i64 (m2 : Int), .int .i64 (m3 : Int)] 41 := Blk.new w4 [.int .i64 (m0 : Int), .int .i64 (m1 : Int), .int .i64 (m2 : Int), .int .i64 (m3 : Int)] 41
      have hw5 := HB4.out.trans (hb5.mono HB4.out.size)
      generalize (w4.alloc (.cells #[.int .i64 (m0 : Int), .int .i64 (m1 : Int), .int .i64 (m2 : Int), .int .i64 (m3 : Int)] 41)) = w5 at hb5 hbc hw5 ⊢
      have hP5 := H.out w5 hw5
      obtain ⟨s0, s1, s2, k0, k1, k2, _, _, _, hlk⟩ := (hP5.rds k hlt).look
      have p0 := hP5.ptr hlt
      have d0 := hlk.n; have d1 := hlk.u; have d2 := hlk.h; have d3 := hlk.s
      rw [E4.out] at d0; rw [E1.out] at d1; rw [E2.out] at d2; rw [E3.out] at d3
      have q0 := hbc.cell (j := 0) rfl
      have q1 := hbc.cell (j := 1) rfl
      have q2 := hbc.cell (j := 2) rfl
      have q3 := hbc.cell (j := 3) rfl
      have v1 := IntWalk.i64_in ((n : Int) - 1) (by omega)
      have v2 := IntWalk.i64_in ((n : Int) - 1 - (m1 : Int)) (by omega)
      have v3 := IntWalk.i64_in ((n : Int) - 1 - (m1 : Int) - (m2 : Int)) (by omega)
      have tt : ((m0 : Int) != (n : Int) - 1 - (m1 : Int) - (m2 : Int)) = false := by simp; omega
      have HW5 := Lib.hid hw5
      have HRK : Hid (SrcU w5 s2 ((rd k).l 2)) := Lib.hid hlk.ss
      clear hP5 hlk hb5 hbc hw5 HB4 hsum
      obtain ⟨Rk, hRk⟩ : ∃ r, R k = r := ⟨_, rfl⟩
      rw [hRk] at p0 d0 d1 d2 d3
      clear hRk
      go_quiet (fail)
      have p0' : (w5.drewN nq).cell? ⟨G, k, none⟩ = some (.pointer (some ⟨Rk, 0, none⟩)) := p0
      have d0' : (w5.drewN nq).cell? ⟨Rk, 0, none⟩ = some (.int .i64 (n : Int)) := d0
      have d3' : (w5.drewN nq).cell? ⟨Rk, 3, none⟩ = some (.slice s2 m3 k2) := d3
      have HW6 : Hid (Below w.heap.size w (w5.drewN nq)) := Lib.hid (HW5.out.trans ⟨rfl, rfl, rfl, Nat.le_refl _, fun _ _ => rfl⟩)
      have HS6 : Hid (SrcU (w5.drewN nq) s2 ((rd k).l 2)) := Lib.hid HRK.out
      clear p0 d0 d1 d2 d3 q0 q1 q2 q3 v1 v2 v3 tt HRK HW5
      generalize w5.drewN nq = w6 at p0' d0' d3' HW6 HS6 ⊢
      have HP6 := Lib.hid p0'; have HD0 := Lib.hid d0'; have HD3 := Lib.hid d3'
      have vn2 := IntWalk.i64_in ((n : Int) + 2) (by omega)
      have hl2 : ((rd k).l 2).length ≤ 1000 := by rw [E3.out]; omega
      have HL2 := Lib.hid hl2
      obtain ⟨g6, hg6⟩ : ∃ g6, w6.heap.size = g6 := ⟨_, rfl⟩
      have HG6 := Lib.hid hg6
      have cG : G < g6 := by rw [← hg6]; exact lt_of_cell p0'
      have cR : Rk < g6 := by rw [← hg6]; exact lt_of_cell d0'
      clear p0' d0' d3' hl2 hg6
      obtain ⟨wo, hwo⟩ : ∃ wo : World, wo = wr := ⟨_, rfl⟩
      subst hwo
      go_wp2_with fail
      go_loopw [7] (fun i wx => ∃ t : Nat, t ≤ n + 2 ∧ i = .int .i64 (t : Int) ∧ Hid (Below g6 w6 wx)) (fun i _ => (n + 2) - (intOf i).toNat)
      case atStart => exact ⟨0, by omega, rfl, Lib.hid (Below.refl _ _)⟩
      case round =>
        obtain ⟨t, ht, rfl, HX⟩ := hrel
        have wt := IntWalk.i64_in ((t : Int) + 1) (by omega)
        have p0 := (HX.out.cell (p := ⟨G, k, none⟩) cG).trans HP6.out
        have d0 := (HX.out.cell (p := ⟨Rk, 0, none⟩) cR).trans HD0.out
        by_cases htl : t < n + 2
        · have htl' : (t : Int) < (n : Int) + 2 := by omega
          have wu := IntWalk.u16_in (t : Int) (by omega)
          go_upto_region 10 with fail
          have HP := Lib.hid (H.out wr (HW6.out.trans (HX.out.mono (by rw [← HG6.out]; exact HW6.out.size))))
          have d3 := (HX.out.cell (p := ⟨Rk, 3, none⟩) cR).trans HD3.out
          have HS : Hid (SrcU wr s2 ((rd k).l 2)) := Lib.hid fun h0 => by
            obtain ⟨g, e, hc⟩ := HS6.out h0
            exact ⟨g, e, fun j a hj => (HX.out.cell (p := ⟨g, j, none⟩) (by rw [← HG6.out]; exact lt_of_cell (hc j a hj))).trans (hc j a hj)⟩
          have hgr : g6 ≤ wr.heap.size := by rw [← HG6.out]; exact (HG6.out ▸ HX.out.size)
          obtain ⟨bt, hbt⟩ : ∃ bt, hasB ((rd k).l 2) t = bt := ⟨_, rfl⟩
          have HBT := Lib.hid hbt
          have HPT := Lib.hid p0; have HDT := Lib.hid d3; have HWU := Lib.hid wu
          clear hbt p0 d3 wu htl'
          refine wp_region_sched (.take 0 (.take 1 (.take 2 (.take 3 (.take 5 (.take 6 (.take 7 (.take 8 (.take 9 (.take 10 (.take 11 (.take 12 (.take 13 (.step 4 (.step 14 (.take 15 (.nil))))))))))))))))) (by kernel_rfl) (by kernel_rfl) (fun d _ _ _ _ h => by cases d <;> exact h) (fun Y => Below wr.heap.size wr Y) ⟨rfl, rfl, rfl, Nat.le_refl _, fun _ _ => rfl⟩ ?_
          refine wpG_take _ (.pointer (some ⟨D, 0, none⟩)) rfl (by rfl) (fun Y hY => by rfl) ?_
          (try simp only [Act.put, List.setIfInBounds_toArray, List.set_cons_zero, List.set_cons_succ])
          refine wpG_take _ (.int .i64 (k : Int)) rfl (by rfl) (fun Y hY => by rfl) ?_
          (try simp only [Act.put, List.setIfInBounds_toArray, List.set_cons_zero, List.set_cons_succ])
          refine wpG_take _ (.int .i64 (t : Int)) rfl (by rfl) (fun Y hY => by rfl) ?_
          (try simp only [Act.put, List.setIfInBounds_toArray, List.set_cons_zero, List.set_cons_succ])
          refine wpG_take _ (.int .u16 (t : Int)) rfl (by rfl) (fun Y hY => exk_cv16 rfl rfl HWU.out) ?_
          (try simp only [Act.put, List.setIfInBounds_toArray, List.set_cons_zero, List.set_cons_succ])
          refine wpG_take _ (.slice (some ⟨G, 0, none⟩) 2 2) rfl (by rfl) (fun Y hY => by rfl) ?_
          (try simp only [Act.put, List.setIfInBounds_toArray, List.set_cons_zero, List.set_cons_succ])
          refine wpG_take _ (.int .i64 (k : Int)) rfl (by rfl) (fun Y hY => by rfl) ?_
          (try simp only [Act.put, List.setIfInBounds_toArray, List.set_cons_zero, List.set_cons_succ])
          refine wpG_take _ (.pointer (some ⟨G, k, none⟩)) rfl (by rfl) (fun Y hY => exk_ia32 hlt rfl rfl rfl) ?_
          (try simp only [Act.put, List.setIfInBounds_toArray, List.set_cons_zero, List.set_cons_succ])
          refine wpG_take _ (.pointer (some ⟨Rk, 0, none⟩)) rfl (by rfl) (fun Y hY => exk_ldp rfl rfl ((hY.cell (p := ⟨G, k, none⟩) (Nat.lt_of_lt_of_le cG hgr)).trans HPT.out)) ?_
          (try simp only [Act.put, List.setIfInBounds_toArray, List.set_cons_zero, List.set_cons_succ])
          refine wpG_take _ (.pointer (some ⟨Rk, 0, none⟩)) rfl (by rfl) (fun Y hY => exk_nc rfl rfl) ?_
          (try simp only [Act.put, List.setIfInBounds_toArray, List.set_cons_zero, List.set_cons_succ])
          refine wpG_take _ (.pointer (some ⟨Rk, 3, none⟩)) rfl (by rfl) (fun Y hY => exk_faR (by omega) rfl rfl) ?_
          (try simp only [Act.put, List.setIfInBounds_toArray, List.set_cons_zero, List.set_cons_succ])
          refine wpG_take _ (.slice s2 m3 k2) rfl (by rfl) (fun Y hY => exk_lds rfl rfl ((hY.cell (p := ⟨Rk, 3, none⟩) (Nat.lt_of_lt_of_le cR hgr)).trans HDT.out)) ?_
          (try simp only [Act.put, List.setIfInBounds_toArray, List.set_cons_zero, List.set_cons_succ])
          refine wpG_take _ (.int .i64 (t : Int)) rfl (by rfl) (fun Y hY => by rfl) ?_
          (try simp only [Act.put, List.setIfInBounds_toArray, List.set_cons_zero, List.set_cons_succ])
          refine wpG_take _ (.int .u16 (t : Int)) rfl (by rfl) (fun Y hY => exk_cv16 rfl rfl HWU.out) ?_
          (try simp only [Act.put, List.setIfInBounds_toArray, List.set_cons_zero, List.set_cons_succ])
          refine wpG_call _ rfl (by rfl) 19 #[.pointer (some ⟨D, 0, none⟩), .int .i64 (k : Int), .int .u16 (t : Int)] (fun _ => by go_simp) (fun u Y => u = .bool bt ∧ SrcU Y s2 ((rd k).l 2)) ?_ ?_
          · refine (is_any k D t B sp wr.drew HP.out.live.at'.drew hlt (by omega)).mono ?_
            rintro e Y ⟨rfl, hY⟩
            refine ⟨_, rfl, Below.trans (⟨rfl, rfl, rfl, Nat.le_refl _, fun _ _ => rfl⟩ : Below wr.heap.size wr wr.drew) hY, by rw [HH.out, HBT.out], fun h0 => ?_⟩
            obtain ⟨g, e, hc⟩ := HS.out h0
            exact ⟨g, e, fun j a hj => (hY.cell (p := ⟨g, j, none⟩) (lt_of_cell (hc j a hj))).trans (hc j a hj)⟩
          rintro u Y hY ⟨rfl, hSY⟩
          refine ⟨_, fun _ h => h, hY, ?_⟩
          (try simp only [Act.put, List.setIfInBounds_toArray, List.set_cons_zero, List.set_cons_succ])
          refine wpG_call _ rfl (by rfl) 20 #[.slice s2 m3 k2, .int .u16 (t : Int)] (fun _ => by go_simp) (fun u _ => u = .bool bt) ?_ ?_
          · have hx := has_any s2 k2 ((rd k).l 2) t Y HL2.out hSY
            rw [E3.out, HBT.out] at hx
            refine hx.mono ?_
            rintro e Y2 ⟨rfl, rfl⟩
            exact ⟨_, rfl, hY, rfl⟩
          rintro u Y2 hY2 rfl
          refine ⟨_, fun _ h => h, hY2, ?_⟩
          (try simp only [Act.put, List.setIfInBounds_toArray, List.set_cons_zero, List.set_cons_succ])
          refine wpG_take _ (.bool false) rfl (by rfl) (fun Y hY => exk_neqb rfl rfl rfl) ?_
          (try simp only [Act.put, List.setIfInBounds_toArray, List.set_cons_zero, List.set_cons_succ])
          refine wpG_nil ?_
          have HX2 : Hid (Below g6 w6 Y2) := Lib.hid (HX.out.trans (hY2.mono hgr))
          clear hSY hY hY2
          go_wp2_with fail
          go_roundw
          case rel => exact ⟨t + 1, by omega, by go_num, HX2⟩
          case measure => simp [intOf]; omega
        · obtain rfl : t = n + 2 := by omega
          have hge : ¬ (((n + 2 : Nat) : Int) < (n : Int) + 2) := by omega
          go_wp2_with fail
          go_roundw
          case rel => exact ⟨k + 1, by omega, by go_num, Lib.hid (HW6.out.trans (HX.out.mono (by rw [← HG6.out]; exact HW6.out.size)))⟩
          case measure => simp [intOf]; omega
    · go_wp2_with fail
      go_ret
      exact ⟨rfl, HB.out⟩
end Go.Proofs.Ytjfedhaafdfibaa
