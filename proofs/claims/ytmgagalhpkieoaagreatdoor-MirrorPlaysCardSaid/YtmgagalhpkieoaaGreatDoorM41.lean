/- What befalls the disks under a mirror: plain, and by the program's own calls. -/
import Derived.Test.YtmgagalhpkieoaaGreatDoorM38
import Derived.Test.YtmgagalhpkieoaaGreatDoorM40
import Derived.Test.YtmgagalhpkieoaaGreatDoorM15
import Derived.Deep.DeepCutAuto
namespace Go.Proofs.YtmgagalhpkieoaaGreatDoor
open Go.RowKit

def fD (x : Mi Dsk Sp) (k : Nat) (s : Dsk) : Mi Dsk Sp := { x with d := upk x.d k s }
def faultS (x : Mi Dsk Sp) (a : Ac) : Mi Dsk Sp :=
  if a.act = 3 then fD x (a.d % 2) (crashed (x.d (a.d % 2)) a.z)
  else if a.act = 4 then fD x (a.d % 2) (ailed (x.d (a.d % 2)) a.addr 512 (rotK (d_full a.b))).2
  else if a.act = 5 then fD x (a.d % 2) (ailed (x.d (a.d % 2)) a.addr 512 (fun k => { k with bad := true })).2
  else if a.act = 6 then fD x (a.d % 2) (ailed (x.d (a.d % 2)) a.addr 512 (fun k => { k with stuck := true })).2
  else if a.act = 7 then fD x (a.d % 2) { x.d (a.d % 2) with lose := true }
  else if a.act = 8 then fD x (a.d % 2) { x.d (a.d % 2) with astray := some a.addr }
  else if a.act = 9 then fD x (a.d % 2) { x.d (a.d % 2) with dead := true }
  else if a.act = 10 then { x with p := x.p.set a.n }
  else if a.act = 11 then { x with p := ⟨true, -1⟩ }
  else x
def Ma.q (m : Ma) : Pt := if m.wr then m.p else sealP m.p (d_full m.b)
def Ma.f (m : Ma) : Bs := d_full m.b
theorem Ma.q_ok {w : World} {m : Ma} (h : MaOK w m) : m.q.OK := by
  unfold Ma.q
  split
  · exact h.p
  · exact sealP_ok h.p _
def doS (x : Mi Dsk Sp) (m : Ma) : Mi Dsk Sp :=
  if m.d = 0 then healS kinD x m.q false
  else if m.d = 1 then healS kinD x m.q true
  else if m.d = 2 then (writeR kinD x m.q m.f).2
  else if m.d = 3 then (flushR kinD x).2
  else if m.d = 4 then { x with mv := [] }
  else faultS x m.a
theorem Lim.fd {x : Mi Dsk Sp} {n : Nat} (h : Lim x n) (k : Nat) {s : Dsk} (hs : s.cache.length ≤ (x.d k).cache.length) : Lim (fD x k s) n := by
  refine ⟨fun i hi => ?_, h.f, h.g, h.mv⟩
  show (upk x.d k s i).cache.length ≤ n
  by_cases e : i = k
  · subst e; rw [upk_same]; exact Nat.le_trans hs (h.c i hi)
  · rw [upk_other _ _ e]; exact h.c i hi
theorem crashed_lim (s : Dsk) (z : List Int) : (crashed s z).cache.length ≤ s.cache.length := by
  unfold crashed
  split <;> simp
theorem Lim.fault {x : Mi Dsk Sp} {n : Nat} (h : Lim x n) (a : Ac) : Lim (faultS x a) n := by
  unfold faultS
  split
  · exact h.fd _ (crashed_lim _ _)
  · split
    · exact h.fd _ (ailed_lim _ _ _ _)
    · split
      · exact h.fd _ (ailed_lim _ _ _ _)
      · split
        · exact h.fd _ (ailed_lim _ _ _ _)
        · split
          · exact h.fd _ (Nat.le_refl _)
          · split
            · exact h.fd _ (Nat.le_refl _)
            · split
              · exact h.fd _ (Nat.le_refl _)
              · split
                · exact ⟨h.c, h.f, h.g, h.mv⟩
                · split
                  · exact ⟨h.c, h.f, h.g, h.mv⟩
                  · exact h
theorem Lim.act {x : Mi Dsk Sp} {n : Nat} (h : Lim x n) {m : Ma} (hq : m.q.OK) : Lim (doS x m) (n + 8) := by
  unfold doS
  split
  · exact h.heal hq _
  · split
    · exact h.heal hq _
    · split
      · exact h.write hq _
      · split
        · exact h.flush
        · split
          · exact ⟨fun k hk => Nat.le_trans (h.c k hk) (by omega), fun k => Nat.le_trans (h.f k) (by omega), fun k => Nat.le_trans (h.g k) (by omega), by simp⟩
          · exact (h.fault m.a).mono (by omega)
section
variable {w W W' : World} {lab : Nat → Nat} {X : Nat} {P : Pl} {x : Mi Dsk Sp} {n k : Nat}
theorem PrS.turnE (h : PrS w W lab X P x) (hk : k < 2) {s' : Dsk} (hd : DkAt W' (P.D k) P.Q (Ext (fun b => lab b = k + 1) W W') s') (hc : Chg (fun b => lab b = k + 1) W W') : MiPost W lab P (fD x k s') W' :=
  h.mi.stepD hk hd (h.mi.pw.chg hc (by show ¬ lab P.Q = k + 1; rw [h.mi.lq]; omega)) (hc.mono (fun _ hb => .inl hb))
theorem PrS.turnS (h : PrS w W lab X P x) (hk : k < 2) {s' : Dsk} (hd : DkAt W' (P.D k) P.Q (fun b => lab b = k + 1) s') (hc : Chg (fun b => lab b = k + 1) W W') : MiPost W lab P (fD x k s') W' :=
  h.mi.stayD hk hd (h.mi.pw.chg hc (by show ¬ lab P.Q = k + 1; rw [h.mi.lq]; omega)) (hc.mono (fun _ hb => .inl hb))
theorem PrS.qlt (h : PrS w W lab X P x) : P.Q < W.heap.size := h.mi.lt _ (by rw [h.mi.lq]; omega)
theorem flt_crash (h : PrS w W lab X P x) (hl : Lim x n) (hn : n < 600000) (hk : k < 2) {zs : List Int} {sp : Option Addr} {cap : Nat} (hz : SrcI w sp zs) (hc : zs.length ≤ cap) (hm : cap ≤ maxLen) :
    Calls Tryz.prog 26 #[.pointer (some ⟨P.D k, 0, none⟩), .slice sp zs.length cap] W fun e w' => e = .returned (.tuple #[]) ∧ MiPost W lab P (fD x k (crashed (x.d k) zs)) w' :=
  (crash_any2 (P.D k) P.Q _ (x.d k) zs sp zs.length cap W (h.mi.dk k hk) (by have := hl.c k hk; omega) (hz.below h.bel (Nat.le_refl _)) rfl hc hm (fun h0 a ha e => by
    obtain ⟨g, o, e1, hg, _⟩ := hz.2 h0
    rw [e1] at ha
    obtain rfl := Option.some.inj ha
    exact h.old hg (by omega) (by omega) e)).mono fun e w' ⟨h1, h2, h3⟩ => ⟨h1, h.turnS hk h2 h3⟩
theorem flt_rot (h : PrS w W lab X P x) (hl : Lim x n) (hn : n < 600000) (hk : k < 2) {ad : Nat} (ha : ad < 65536) {b : Bs} {sp : Option Addr} {cap : Nat} (hb : b.length = 512) (hS : SrcA W sp b) :
    Calls Tryz.prog 31 #[.pointer (some ⟨P.D k, 0, none⟩), .int .u16 (ad : Int), .slice sp 512 cap] W fun e w' => (∃ z : Int, e = .returned (.int .i64 z)) ∧ MiPost W lab P (fD x k (ailed (x.d k) ad 512 (rotK b)).2) w' :=
  (rot_any (P.D k) P.Q _ (x.d k) ad b sp 512 cap W ha hb hS (h.mi.dk k hk) h.qlt (by have := hl.c k hk; omega)).mono fun e w' ⟨h1, h2, h3⟩ => ⟨⟨_, h1⟩, h.turnE hk h2 h3⟩
theorem flt_bad (h : PrS w W lab X P x) (hl : Lim x n) (hn : n < 600000) (hk : k < 2) {ad : Nat} (ha : ad < 65536) :
    Calls Tryz.prog 55 #[.pointer (some ⟨P.D k, 0, none⟩), .int .u16 (ad : Int)] W fun e w' => (∃ z : Int, e = .returned (.int .i64 z)) ∧ MiPost W lab P (fD x k (ailed (x.d k) ad 512 (fun k => { k with bad := true })).2) w' :=
  (d_bad_any (P.D k) P.Q _ (x.d k) ad W ha (h.mi.dk k hk) h.qlt (by have := hl.c k hk; omega)).mono fun e w' ⟨h1, h2, h3⟩ => ⟨⟨_, h1⟩, h.turnE hk h2 h3⟩
theorem flt_stick (h : PrS w W lab X P x) (hl : Lim x n) (hn : n < 600000) (hk : k < 2) {ad : Nat} (ha : ad < 65536) :
    Calls Tryz.prog 33 #[.pointer (some ⟨P.D k, 0, none⟩), .int .u16 (ad : Int)] W fun e w' => (∃ z : Int, e = .returned (.int .i64 z)) ∧ MiPost W lab P (fD x k (ailed (x.d k) ad 512 (fun k => { k with stuck := true })).2) w' :=
  (stick_any (P.D k) P.Q _ (x.d k) ad W ha (h.mi.dk k hk) h.qlt (by have := hl.c k hk; omega)).mono fun e w' ⟨h1, h2, h3⟩ => ⟨⟨_, h1⟩, h.turnE hk h2 h3⟩
theorem flt_lose (h : PrS w W lab X P x) (hk : k < 2) : Calls Tryz.prog 56 #[.pointer (some ⟨P.D k, 0, none⟩)] W fun e w' => e = .returned (.tuple #[]) ∧ MiPost W lab P (fD x k { x.d k with lose := true }) w' :=
  (lose_any (P.D k) P.Q _ (x.d k) W (h.mi.dk k hk)).mono fun e w' ⟨h1, h2, h3⟩ => ⟨h1, h.turnS hk h2 h3⟩
theorem flt_astray (h : PrS w W lab X P x) (hk : k < 2) {ad : Nat} (ha : ad < 65536) : Calls Tryz.prog 57 #[.pointer (some ⟨P.D k, 0, none⟩), .int .u16 (ad : Int)] W fun e w' => e = .returned (.tuple #[]) ∧ MiPost W lab P (fD x k { x.d k with astray := some ad }) w' :=
  (astray_any (P.D k) P.Q _ (x.d k) ad ha W (h.mi.dk k hk)).mono fun e w' ⟨h1, h2, h3⟩ => ⟨h1, h.turnS hk h2 h3⟩
theorem flt_die (h : PrS w W lab X P x) (hk : k < 2) : Calls Tryz.prog 58 #[.pointer (some ⟨P.D k, 0, none⟩)] W fun e w' => e = .returned (.tuple #[]) ∧ MiPost W lab P (fD x k { x.d k with dead := true }) w' :=
  (die_any (P.D k) P.Q _ (x.d k) W (h.mi.dk k hk)).mono fun e w' ⟨h1, h2, h3⟩ => ⟨h1, h.turnS hk h2 h3⟩
theorem flt_fuse (h : PrS w W lab X P x) {z : Int} (hz : z ≤ 9223372036854775807) : Calls Tryz.prog 59 #[.pointer (some ⟨P.Q, 0, none⟩), .int .i64 z] W fun e w' => e = .returned (.tuple #[]) ∧ MiPost W lab P { x with p := x.p.set z } w' :=
  (fuse_any P.Q x.p z W h.mi.pw hz).mono fun e w' ⟨h1, h2, h3⟩ => ⟨h1, h.mi.power h2 h3⟩
theorem flt_back (h : PrS w W lab X P x) : Calls Tryz.prog 24 #[.pointer (some ⟨P.Q, 0, none⟩)] W fun e w' => e = .returned (.tuple #[]) ∧ MiPost W lab P { x with p := ⟨true, -1⟩ } w' :=
  (d_back_any P.Q x.p W h.mi.pw).mono fun e w' ⟨h1, h2, h3⟩ => ⟨h1, h.mi.power h2 h3⟩
end
theorem Ma.cell44 {w : World} {m : Ma} (h : MaOK w m) {j : Nat} (hj : j < 7) : m.cells[44 + j]? = some (m.a.cell j) := by
  have h1 := h.len
  unfold Ma.cells at h1 ⊢
  rw [actC_44 h.p, List.append_nil, List.getElem?_append_right (by rw [List.length_take, h1]; omega), List.length_take, h1]
  rw [show 44 + j - min 44 51 = j by omega]
  exact acs_at _ hj
end Go.Proofs.YtmgagalhpkieoaaGreatDoor
/- An act, the program's alone: does. -/
namespace Go.Proofs.YtmgagalhpkieoaaGreatDoor
open Go.RowKit

section
variable {w0 V W W' : World} {labV lab lab' : Nat → Nat} {Xp : Nat} {P : Pl} {x y : Mi Dsk Sp} {m : Ma} {g3 g6 : Nat}
end
theorem q_isAggS {t e : TypeId} (h : Tryz.prog.underlying t = some (.slice e)) (W : World) : (isAgg t).run Tryz.prog W = .ok false W := by
  unfold isAgg
  rw [Sem.run_bind, run_underlying h W]; rfl
theorem q_ldZ {ρ : Operand → Value} {o : Oper} {x : Operand} {ad : Addr} {v : Value} {w : World} {ty e : TypeId} (hu : Tryz.prog.underlying ty = some (.slice e)) (ho : o.op = .load ty x) (hx : ρ x = .pointer (some ad)) (hc : w.cell? ad = some v) : (execOp ρ o).run Tryz.prog w = .ok (.value v) w := by
  have h := q_isAggS hu w
  unfold execOp
  simp only [ho]
  go_simp
theorem ex_rem2 {ρ : Operand → Value} {o : Oper} {x : Operand} {k j : Nat} {w : World} (hj : k % 2 = j) (hk : k < 256) (ho : o.op = .binOp .rem 3 x (.const (.int .i64 2)) 3) (hc : ρ (.const (.int .i64 2)) = .int .i64 2) (hx : ρ x = .int .i64 (k : Int)) : (execOp ρ o).run Tryz.prog w = .ok (.value (.int .i64 (j : Int))) w := by
  subst hj
  unfold execOp
  simp only [ho, hx, hc]
  have e : IntKind.i64.wrap (Int.tmod (k : Int) 2) = ((k % 2 : Nat) : Int) := by
    rw [Int.tmod_eq_emod_of_nonneg (by omega), show (k : Int) % 2 = ((k % 2 : Nat) : Int) by omega]
    exact IntWalk.i64_in _ (by omega)
  simp [go_sem]
  exact Int.tmod_eq_emod_of_nonneg (by omega)
end Go.Proofs.YtmgagalhpkieoaaGreatDoor
/- Whether a pointer may be, as the document says it. -/
namespace Go.Proofs.YtmgagalhpkieoaaGreatDoor
open Go.RowKit

set_option maxRecDepth 100000 in
set_option maxHeartbeats 8000000 in
theorem qmay_any (p : Pt) (hp : p.OK) (w : World) : Calls Tryz.prog 45 #[.agg (pcells p).toArray] w fun e w' => e = .returned (.bool (mayR p)) ∧ Below w.heap.size w w' := by
  have HB0 : Hid (Below w.heap.size w (w.alloc (.cells (pcells p).toArray 58))) := Lib.hid ((Below.refl _ _).alloc (Nat.le_refl _) _)
  have hG : Blk (w.alloc (.cells (pcells p).toArray 58)) w.heap.size (pcells p) 58 := Blk.new _ _ _
  have hA := rng_ats hG hp.hash
  obtain ⟨k, lv, ob, off, bi, hs, ats⟩ := p
  have hl := hp.len
  match ats, hl with
  | [a, b, c, d], _ =>
  have hh := hp.hash
  clear hp hl
  have cK := hG.cell (j := 0) rfl
  have cL := hG.cell (j := 1) rfl
  have cA : (w.alloc (.cells (pcells ⟨k, lv, ob, off, bi, hs, [a, b, c, d]⟩).toArray 58)).cell? ⟨w.heap.size, 37, none⟩ = some (.int .u16 (a : Int)) := cell_ats hG hh (k := 0) rfl
  have cB : (w.alloc (.cells (pcells ⟨k, lv, ob, off, bi, hs, [a, b, c, d]⟩).toArray 58)).cell? ⟨w.heap.size, 38, none⟩ = some (.int .u16 (b : Int)) := cell_ats hG hh (k := 1) rfl
  have cC : (w.alloc (.cells (pcells ⟨k, lv, ob, off, bi, hs, [a, b, c, d]⟩).toArray 58)).cell? ⟨w.heap.size, 39, none⟩ = some (.int .u16 (c : Int)) := cell_ats hG hh (k := 2) rfl
  have cD : (w.alloc (.cells (pcells ⟨k, lv, ob, off, bi, hs, [a, b, c, d]⟩).toArray 58)).cell? ⟨w.heap.size, 40, none⟩ = some (.int .u16 (d : Int)) := cell_ats hG hh (k := 3) rfl
  have HG := Lib.hid hA
  have HB := HB0
  obtain ⟨P, hP⟩ : ∃ P, (pcells ⟨k, lv, ob, off, bi, hs, [a, b, c, d]⟩).toArray = P := ⟨_, rfl⟩
  rw [hP] at cK cL cA cB cC cD HG HB ⊢
  obtain ⟨m, hm⟩ : ∃ m, mayR ⟨k, lv, ob, off, bi, hs, [a, b, c, d]⟩ = m := ⟨_, rfl⟩
  rw [hm]
  have HM := Lib.hid hm
  clear hG hA HB0 hh hP hm
  go_enter Tryz.func45, Tryz.ntmps45
  go_upto_region 1 with fail
  generalize (w.alloc (.cells P 58)) = W at cK cL cA cB cC cD HG HB ⊢
  by_cases h1 : k < 1
  · have ih1 : (k : Int) < 1 := by omega
    obtain rfl : m = false := by rw [← HM.out]; unfold mayR; simp only [List.getD_cons_zero, List.getD_cons_succ]; rw [if_pos (by omega)]
    go_wp2
    go_ret
    exact ⟨rfl, HB.out⟩
  have ih1 : ¬ (k : Int) < 1 := by omega
  by_cases h5 : 5 < k
  · have ih5 : (5 : Int) < k := by omega
    obtain rfl : m = false := by rw [← HM.out]; unfold mayR; simp only [List.getD_cons_zero, List.getD_cons_succ]; rw [if_pos (by omega)]
    go_wp2
    go_ret
    exact ⟨rfl, HB.out⟩
  have ih5 : ¬ (5 : Int) < k := by omega
  have n1 : ¬ (k < 1 ∨ 5 < k) := by omega
  go_upto_region 3 with fail
  go_cut [33] (fun v wx => v = .bool (decide ((k = 3 ∧ (lv < 1 ∨ 2 < lv)) ∨ (k ≠ 3 ∧ lv ≠ 0))) ∧ wx = W)
  case first =>
    by_cases h3 : k = 3
    · have ih3 : (k : Int) = 3 := by omega
      by_cases l1 : lv < 1
      · have il1 : (lv : Int) < 1 := by omega
        go_wp2
        go_meet
        exact ⟨congrArg Value.bool (by first | exact (decide_eq_true (by omega)).symm | (rw [Bool.eq_iff_iff]; simp; omega)), rfl⟩
      · have il1 : ¬ (lv : Int) < 1 := by omega
        by_cases l2 : 2 < lv
        · have il2 : (2 : Int) < lv := by omega
          go_wp2
          go_meet
          exact ⟨congrArg Value.bool (by first | exact (decide_eq_true (by omega)).symm | (rw [Bool.eq_iff_iff]; simp; omega)), rfl⟩
        · have il2 : ¬ (2 : Int) < lv := by omega
          go_wp2
          go_meet
          exact ⟨congrArg Value.bool (by first | exact (decide_eq_false (by omega)).symm | (rw [Bool.eq_iff_iff]; simp; omega)), rfl⟩
    · have ih3 : ¬ (k : Int) = 3 := by omega
      by_cases l0 : lv = 0
      · have il0 : (lv : Int) = 0 := by omega
        go_wp2
        go_meet
        exact ⟨congrArg Value.bool (by first | exact (decide_eq_false (by omega)).symm | (rw [Bool.eq_iff_iff]; simp; omega)), rfl⟩
      · have il0 : ¬ (lv : Int) = 0 := by omega
        go_wp2
        go_meet
        exact ⟨congrArg Value.bool (by first | exact (decide_eq_true (by omega)).symm | (rw [Bool.eq_iff_iff]; simp; omega)), rfl⟩
  case rest =>
  obtain ⟨rfl, rfl⟩ := hcut
  by_cases h3 : ((k = 3 ∧ (lv < 1 ∨ 2 < lv)) ∨ (k ≠ 3 ∧ lv ≠ 0))
  · rw [decide_eq_true h3]
    obtain rfl : m = false := by rw [← HM.out]; unfold mayR; simp only [List.getD_cons_zero, List.getD_cons_succ]; rw [if_neg n1, if_pos h3]
    go_wp2
    go_ret
    exact ⟨rfl, HB.out⟩
  rw [decide_eq_false h3]
  have HN1 := Lib.hid n1; have HN3 := Lib.hid h3; clear n1 h3
  by_cases z : [a, b, c, d] = [0, 0, 0, 0]
  · have HZ := Lib.hid z; clear z
    obtain rfl : m = false := by rw [← HM.out]; unfold mayR; simp only [List.getD_cons_zero, List.getD_cons_succ]; rw [if_neg HN1.out, if_neg HN3.out, if_pos HZ.out]
    go_wp2_with (first | (refine wpL_val rfl (ex_ld (ty := 56) (cs := [a, b, c, d].map U16) rfl rfl HG.out Tryz.underlying56 rfl sizeAts) ?_) | (refine wpL_val rfl (ex_eqAts (a := [a, b, c, d]) (b := [0, 0, 0, 0]) rfl rfl rfl rfl rfl) ?_; rw [decide_eq_true HZ.out]) | fail)
    go_ret
    exact ⟨rfl, HB.out⟩
  have HZ := Lib.hid z; clear z
  go_upto_region 7 with (first | (refine wpL_val rfl (ex_ld (ty := 56) (cs := [a, b, c, d].map U16) rfl rfl HG.out Tryz.underlying56 rfl sizeAts) ?_) | (refine wpL_val rfl (ex_eqAts (a := [a, b, c, d]) (b := [0, 0, 0, 0]) rfl rfl rfl rfl rfl) ?_; rw [decide_eq_false HZ.out]) | fail); try simp only [pS]
  go_cut [65] (fun v wx => v = .bool (decide ((a ≠ 0 ∧ a = b) ∨ (c ≠ 0 ∧ c = d))) ∧ wx = wc)
  case first =>
    by_cases a0 : a = 0
    · have ia0 : (a : Int) = 0 := by omega
      by_cases c0 : c = 0
      · have ic0 : (c : Int) = 0 := by omega
        go_wp2
        go_meet
        exact ⟨congrArg Value.bool (by first | exact (decide_eq_false (by omega)).symm | (rw [Bool.eq_iff_iff]; simp; omega)), rfl⟩
      · have ic0 : ¬ (c : Int) = 0 := by omega
        by_cases cd : c = d
        · have icd : (c : Int) = d := by omega
          go_wp2
          go_meet
          exact ⟨congrArg Value.bool (by first | exact (decide_eq_true (by omega)).symm | (rw [Bool.eq_iff_iff]; simp; omega)), rfl⟩
        · have icd : ¬ (c : Int) = d := by omega
          go_wp2
          go_meet
          exact ⟨congrArg Value.bool (by first | exact (decide_eq_false (by omega)).symm | (rw [Bool.eq_iff_iff]; simp; omega)), rfl⟩
    · have ia0 : ¬ (a : Int) = 0 := by omega
      by_cases ab : a = b
      · have iab : (a : Int) = b := by omega
        go_wp2
        go_meet
        exact ⟨congrArg Value.bool (by first | exact (decide_eq_true (by omega)).symm | (rw [Bool.eq_iff_iff]; simp; omega)), rfl⟩
      · have iab : ¬ (a : Int) = b := by omega
        by_cases c0 : c = 0
        · have ic0 : (c : Int) = 0 := by omega
          go_wp2
          go_meet
          exact ⟨congrArg Value.bool (by first | exact (decide_eq_false (by omega)).symm | (rw [Bool.eq_iff_iff]; simp; omega)), rfl⟩
        · have ic0 : ¬ (c : Int) = 0 := by omega
          by_cases cd : c = d
          · have icd : (c : Int) = d := by omega
            go_wp2
            go_meet
            exact ⟨congrArg Value.bool (by first | exact (decide_eq_true (by omega)).symm | (rw [Bool.eq_iff_iff]; simp; omega)), rfl⟩
          · have icd : ¬ (c : Int) = d := by omega
            go_wp2
            go_meet
            exact ⟨congrArg Value.bool (by first | exact (decide_eq_false (by omega)).symm | (rw [Bool.eq_iff_iff]; simp; omega)), rfl⟩
  case rest =>
  obtain ⟨rfl, rfl⟩ := hcut
  by_cases h7 : ((a ≠ 0 ∧ a = b) ∨ (c ≠ 0 ∧ c = d))
  · rw [decide_eq_true h7]
    obtain rfl : m = false := by rw [← HM.out]; unfold mayR; simp only [List.getD_cons_zero, List.getD_cons_succ]; rw [if_neg HN1.out, if_neg HN3.out, if_neg HZ.out, if_pos h7]
    go_wp2
    go_ret
    exact ⟨rfl, HB.out⟩
  rw [decide_eq_false h7]
  have HN7 := Lib.hid h7; clear h7
  by_cases k1 : k = 1
  · have ik1 : (k : Int) = 1 := by omega
    by_cases b0 : b = 0
    · have ib0 : (b : Int) = 0 := by omega
      by_cases d0 : d = 0
      · have id0 : (d : Int) = 0 := by omega
        obtain rfl : m = true := by rw [← HM.out]; unfold mayR; simp only [List.getD_cons_zero, List.getD_cons_succ]; rw [if_neg HN1.out, if_neg HN3.out, if_neg HZ.out, if_neg HN7.out]; exact decide_eq_true (by omega)
        go_wp2
        go_ret
        exact ⟨rfl, HB.out⟩
      · have id0 : ¬ (d : Int) = 0 := by omega
        have jd0 : ((d : Int) == 0) = false := by simp; omega
        obtain rfl : m = false := by rw [← HM.out]; unfold mayR; simp only [List.getD_cons_zero, List.getD_cons_succ]; rw [if_neg HN1.out, if_neg HN3.out, if_neg HZ.out, if_neg HN7.out]; exact decide_eq_false (by omega)
        go_wp2
        go_ret
        exact ⟨rfl, HB.out⟩
    · have ib0 : ¬ (b : Int) = 0 := by omega
      obtain rfl : m = false := by rw [← HM.out]; unfold mayR; simp only [List.getD_cons_zero, List.getD_cons_succ]; rw [if_neg HN1.out, if_neg HN3.out, if_neg HZ.out, if_neg HN7.out]; exact decide_eq_false (by omega)
      go_wp2
      go_ret
      exact ⟨rfl, HB.out⟩
  · have ik1 : ¬ (k : Int) = 1 := by omega
    obtain rfl : m = true := by rw [← HM.out]; unfold mayR; simp only [List.getD_cons_zero, List.getD_cons_succ]; rw [if_neg HN1.out, if_neg HN3.out, if_neg HZ.out, if_neg HN7.out]; exact decide_eq_true (by omega)
    go_wp2
    go_ret
    exact ⟨rfl, HB.out⟩
end Go.Proofs.YtmgagalhpkieoaaGreatDoor
/- The document's copies of a pointer. -/
namespace Go.Proofs.YtmgagalhpkieoaaGreatDoor
open Go.RowKit

def cpcells (l : List (Nat × Nat)) : List Value := l.flatMap fun x => [.int .i64 (x.1 : Int), .int .u16 (x.2 : Int)]
theorem cpcells_append (l m : List (Nat × Nat)) : cpcells (l ++ m) = cpcells l ++ cpcells m := by simp [cpcells]
theorem infoC : (Tryz.prog.info? 121).map (fun i => (i.zero, i.size, i.bytes)) = some (some (.agg #[.int .i64 0, .int .u16 0]), 2, 16) := by kernel_rfl
theorem info_partsC : ∃ i, Tryz.prog.info? 121 = some i ∧ i.zero = some (.agg #[.int .i64 0, .int .u16 0]) ∧ i.size = 2 ∧ i.bytes = 16 := by
  obtain ⟨i, h1, h2⟩ := Option.map_eq_some_iff.1 infoC
  simp only [Prod.mk.injEq] at h2
  exact ⟨i, h1, h2.1, h2.2.1, h2.2.2⟩
abbrev OwnC (w : World) (B : Nat) (v : Value) (l : List (Nat × Nat)) : Prop := w.ownsRow B 121 2 v l.length (cpcells l)
theorem ownC_app {w : World} {B : Nat} {v : Value} {l : List (Nat × Nat)} (x : Nat × Nat) (h : OwnC w B v l) (hB : B ≤ w.heap.size) (hl : l.length ≤ 1000) {g : Nat} {t : TypeId} (hg : Blk w g [.int .i64 (x.1 : Int), .int .u16 (x.2 : Int)] t) (ty : TypeId) :
    ∃ v' w', (Builtin.append_ #[116, 116] ty #[v, .slice (some ⟨g, 0, none⟩) 1 1]).run Tryz.prog w = .ok v' w' ∧ OwnC w' B v' (l ++ [x]) ∧ Below B w w' := by
  obtain ⟨i0, hi, hz0, hz1, hz2⟩ := info_partsC
  obtain ⟨v', w', hr, h2, h3, _, h5⟩ := run_append_own_at (P := Tryz.prog) w B 116 ty 121 i0 (.agg #[.int .i64 0, .int .u16 0]) 2 16 Tryz.underlying116 hi hz0 hz1 hz2 rfl (by decide) v l.length (cpcells l) h ⟨g, 0, none⟩ 1 1 [.int .i64 (x.1 : Int), .int .u16 (x.2 : Int)] rfl (fun j u hj => by
    rw [Addr.add_mid, Nat.zero_add]
    exact hg.cell hj) (by intro u hu; simp at hu; rcases hu with rfl | rfl <;> rfl) (by unfold maxLen; omega) (by omega) hB
  refine ⟨v', w', hr, ?_, (Below.refl _ _).grown h3 hB (fun k hk => (h.lt k hk).1)⟩
  unfold OwnC
  rw [cpcells_append, List.length_append]
  exact h2
theorem OwnC.below {w W : World} {B B' : Nat} {v : Value} {l : List (Nat × Nat)} (h : OwnC w B v l) (hb : Below B' w W) (hB : w.heap.size ≤ B') : OwnC W B v l := by
  refine ⟨h.1, ?_⟩
  rcases h.2 with hn | ⟨g, cap, cur, e, hg, hh, rest⟩
  · exact .inl hn
  · exact .inr ⟨g, cap, cur, e, hg, (hb.block g (Nat.lt_of_lt_of_le (Array.getElem?_eq_some_iff.1 hh).1 hB)).trans hh, rest⟩
theorem OwnC.form {w : World} {B : Nat} {v : Value} {l : List (Nat × Nat)} (h : OwnC w B v l) : ∃ sp cap, v = .slice sp l.length cap := by
  rcases h.2 with hn | ⟨g, cap, cur, e, _⟩
  · exact ⟨none, 0, by obtain ⟨e, hn⟩ := hn; first | (rw [e, hn]) | (rw [hn, e]) | simp_all⟩
  · exact ⟨_, _, e⟩
theorem ex_appC {ρ : Operand → Value} {o : Oper} {x y : Operand} {v u v' : Value} {w w' : World} (ho : o.op = .call { callee := .builtin .append, args := #[x, y], argTypes := #[116, 116] }) (hx : ρ x = v) (hy : ρ y = u)
    (hr : (Builtin.append_ #[116, 116] o.type #[v, u]).run Tryz.prog w = .ok v' w') : (execOp ρ o).run Tryz.prog w = .ok (.value v') w' := by
  unfold execOp
  simp only [ho, resolve, invoke, builtin, Sem.run_bind, Sem.run_pure, Result.andThen_ok, List.map_toArray, List.map_cons, List.map_nil, hx, hy, hr]
def soFar (p : Pt) (k : Nat) : List (Nat × Nat) := copiesFrom 0 (p.ats.take k)
theorem soFar_zero {p : Pt} {k : Nat} (h : p.ats[k]? = some 0) : soFar p (k + 1) = soFar p k := by
  unfold soFar
  rw [val_take_one h, copiesFrom_append]
  simp [copiesFrom]
theorem soFar_more {p : Pt} {k a : Nat} (h : p.ats[k]? = some a) (ha : a ≠ 0) : soFar p (k + 1) = soFar p k ++ [(k / 2, a)] := by
  have hk := (List.getElem?_eq_some_iff.1 h).1
  unfold soFar
  rw [val_take_one h, copiesFrom_append]
  congr 1
  simp only [copiesFrom, if_neg ha]
  rw [List.length_take, Nat.min_eq_left (by omega), Nat.zero_add]
theorem copiesFrom_len : ∀ (l : List Nat) (i : Nat), (copiesFrom i l).length ≤ l.length
  | [], _ => by simp [copiesFrom]
  | a :: l, i => by
    have ih := copiesFrom_len l (i + 1)
    unfold copiesFrom
    split <;> simp <;> omega
theorem soFar_len (p : Pt) (k : Nat) : (soFar p k).length ≤ k := Nat.le_trans (copiesFrom_len _ _) (by simp; omega)
set_option maxRecDepth 100000 in
set_option maxHeartbeats 4000000 in
theorem qcopies_any (p : Pt) (hp : p.OK) (w : World) : Calls Tryz.prog 46 #[.agg (pcells p).toArray] w fun e w' => ∃ v, e = .returned v ∧ OwnC w' (w.heap.size + 1) v (copiesP p) ∧ Below w.heap.size w w' := by
  have HP := Lib.hid hp
  have HG0 : Hid (Blk (w.alloc (.cells (pcells p).toArray 58)) w.heap.size (pcells p) 58) := Lib.hid (Blk.new _ _ _)
  have HB0 : Hid (Below w.heap.size w (w.alloc (.cells (pcells p).toArray 58))) := Lib.hid ((Below.refl _ _).alloc (Nat.le_refl _) _)
  clear hp
  go_enter Tryz.func46, Tryz.ntmps46
  go_wp2_with fail
  generalize (w.alloc (.cells (pcells p).toArray 58)) = W0 at HG0 HB0 ⊢
  go_loopw [3, 4] (fun v i wr => ∃ k : Nat, k ≤ 4 ∧ i = .int .i64 (k : Int) ∧ OwnC wr (w.heap.size + 1) v (soFar p k) ∧ Blk wr w.heap.size (pcells p) 58 ∧ Below w.heap.size w wr) (fun _ i _ => 4 - (intOf i).toNat)
  case atStart => exact ⟨0, by omega, rfl, World.ownsRow_nil _ _ _ _, HG0.out, HB0.out⟩
  case round =>
    clear HG0 HB0
    obtain ⟨k, hk, rfl, hO, hG, hB⟩ := hrel
    have HO := Lib.hid hO; have HG := Lib.hid hG; have HB := Lib.hid hB
    obtain ⟨sp, cap, rfl⟩ := OwnC.form hO
    have hgs := hG.lt
    have wk1 := IntWalk.i64_in ((k : Int) + 1) (by omega)
    clear hO hB
    by_cases hlt : k < 4
    · obtain ⟨a, ha⟩ : ∃ a, p.ats[k]? = some a := ⟨_, List.getElem?_eq_getElem (by have := HP.out.len; omega)⟩
      have ca := cell_ats hG HP.out.hash ha
      have HA := Lib.hid ha
      clear hG ha
      by_cases h0 : a = 0
      · subst h0
        go_wp2_with fail
        go_roundw
        case rel => exact ⟨k + 1, by omega, by go_num, by rw [soFar_zero HA.out]; exact HO.out, HG.out, HB.out⟩
        case measure => simp [intOf]; omega
      · have hn0 : ¬ (a : Int) = 0 := by omega
        have hz : Below wr.heap.size wr (wr.alloc (.cells #[.int .i64 ((k : Int) / 2), .int .u16 (a : Int)] 121)) := (Below.refl _ _).alloc (Nat.le_refl _) _
        have hbk : Blk (wr.alloc (.cells #[.int .i64 ((k : Int) / 2), .int .u16 (a : Int)] 121)) wr.heap.size [.int .i64 (((k / 2 : Nat), a).1 : Int), .int .u16 (((k / 2 : Nat), a).2 : Int)] 121 := Blk.new' _ _ _ _ _ rfl (by simp)
        obtain ⟨v3, w3, hr3, ho3, hb3⟩ := ownC_app (k / 2, a) (HO.out.below hz (Nat.le_refl _)) (by simp; omega) (by have := soFar_len p k; omega) hbk 116
        obtain ⟨sp3, cap3, e3⟩ := OwnC.form ho3
        rw [List.length_append, List.length_singleton] at e3
        have HR3 := Lib.hid hr3
        have HN : Hid (OwnC w3 (w.heap.size + 1) v3 (soFar p (k + 1)) ∧ Blk w3 w.heap.size (pcells p) 58 ∧ Below w.heap.size w w3) := Lib.hid ⟨by rw [soFar_more HA.out h0]; exact ho3, (HG.out.alloc _).below hb3 (by omega), (HB.out.trans (hz.mono HB.out.size)).trans (hb3.mono (by omega))⟩
        subst e3
        clear hr3 ho3 hb3 hz hbk HO HG HB
        go_wp2_with (first | (at_builtin; refine wpL_val rfl (ex_appC rfl rfl rfl HR3.out) ?_) | fail)
        go_roundw
        case rel => exact ⟨k + 1, by omega, by go_num, HN.out⟩
        case measure => simp [intOf]; omega
    · obtain rfl : k = 4 := by omega
      have hall : soFar p 4 = copiesP p := by unfold soFar copiesP; rw [List.take_of_length_le (by have := HP.out.len; omega)]
      have HALL := Lib.hid hall
      clear hlt hk hG hall
      rw [show ((4 : Nat) : Int) = (4 : Int) from rfl]
      go_wp2_with fail
      go_ret
      exact ⟨_, rfl, by rw [← HALL.out]; exact HO.out, HB.out⟩
end Go.Proofs.YtmgagalhpkieoaaGreatDoor
