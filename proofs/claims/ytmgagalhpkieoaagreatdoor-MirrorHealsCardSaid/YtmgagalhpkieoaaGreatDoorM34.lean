/- A pair of disks, their space, a mirror: made. -/
import Derived.Test.YtmgagalhpkieoaaGreatDoorM33
namespace Go.Proofs.YtmgagalhpkieoaaGreatDoor
open Go.RowKit

attribute [local go_sem] Oper.semAt_some

section
variable {ρ : Operand → Value} {o : Oper} {x y : Operand} {w : World}
theorem q_stD {b k : Nat} {u : Value} {v : Addr} (ho : o.op = .store 28 x y) (hx : ρ x = .pointer (some ⟨b, k, none⟩)) (hy : ρ y = .pointer (some v)) (hc : w.cell? ⟨b, k, none⟩ = some u) (hf : w.frozen? ⟨b, k, none⟩ = false) :
    (execOp ρ o).run Tryz.prog w = .ok .skip (w.setCell ⟨b, k, none⟩ (.pointer (some v))) := by
  unfold execOp
  simp only [ho]
  go_simp
theorem q_stM {b k : Nat} {u : Value} {v : Addr} (ho : o.op = .store 31 x y) (hx : ρ x = .pointer (some ⟨b, k, none⟩)) (hy : ρ y = .pointer (some v)) (hc : w.cell? ⟨b, k, none⟩ = some u) (hf : w.frozen? ⟨b, k, none⟩ = false) :
    (execOp ρ o).run Tryz.prog w = .ok .skip (w.setCell ⟨b, k, none⟩ (.pointer (some v))) := by
  unfold execOp
  simp only [ho]
  go_simp
theorem q_ldPw {ad : Addr} {v : Value} (ho : o.op = .load 27 x) (hx : ρ x = .pointer (some ad)) (hc : w.cell? ad = some v) : (execOp ρ o).run Tryz.prog w = .ok (.value v) w := by
  unfold execOp; simp only [ho]; go_simp
end
/-- A mirror of disks without faults. -/
def start (n : Nat) : Mi Dsk Sp := { d := fun _ => fresh n, p := ⟨true, -1⟩, s := freshS (n - 1) (n - 1), f := fun _ => 0, g := fun _ => 0, mv := [] }
theorem qnew_any (D0 D1 K : Nat) (w : World) : Calls Tryz.prog 40 #[.pointer (some ⟨D0, 0, none⟩), .pointer (some ⟨D1, 0, none⟩), .pointer (some ⟨K, 0, none⟩)] w fun e w' => e = .returned (.tuple #[.pointer (some ⟨w.heap.size, 0, none⟩), .int .i64 0]) ∧
    Blk w' w.heap.size [.pointer (some ⟨D0, 0, none⟩), .pointer (some ⟨D1, 0, none⟩), .int .i64 0, .int .i64 0, .int .i64 0, .int .i64 0, .pointer (some ⟨K, 0, none⟩), .slice none 0 0] 125 ∧ Below w.heap.size w w' := by
  go_enter Tryz.func40, Tryz.ntmps40
  go_wp2
  go_ret2
  exact ⟨rfl, Blk.new' _ _ _ _ _ rfl rfl, (Below.refl _ _).alloc (Nat.le_refl _) _⟩
/-- What begun leaves. -/
structure Beg (w w' : World) (X : Nat) (P : Pl) (lab : Nat → Nat) (n : Nat) : Prop where
  mi : MiAt w' lab P (start n)
  pr : Blk w' X [.pointer (some ⟨P.Q, 0, none⟩), .pointer (some ⟨P.D 0, 0, none⟩), .pointer (some ⟨P.D 1, 0, none⟩), .pointer (some ⟨P.K, 0, none⟩), .pointer (some ⟨P.M, 0, none⟩)] 33
  lx : lab X = 0
  xw : w.heap.size ≤ X
  own : ∀ b, lab b ≠ 0 → lab b ≠ 8 → w.heap.size ≤ b
  bel : Below w.heap.size w w'
/-- On the way. -/
structure Bg (w w' : World) (X Q : Nat) (l : List Value) : Prop where
  pr : Blk w' X (.pointer (some ⟨Q, 0, none⟩) :: l) 33
  pw : PwAt w' Q ⟨true, -1⟩
  qx : Q < X
  wq : w.heap.size ≤ Q
  bel : Below w.heap.size w w'
structure DkN (w' : World) (D Q : Nat) (S : Nat → Prop) (n lo hi : Nat) : Prop where
  dk : DkAt w' D Q S (fresh n)
  lo : ∀ k, S k → lo ≤ k
  hi : ∀ k, S k → k < hi
theorem DkN.below {w w' : World} {D Q n lo hi : Nat} {S : Nat → Prop} (h : DkN w D Q S n lo hi) (hb : Below w.heap.size w w') : DkN w' D Q S n lo hi := ⟨h.dk.chg (Chg.of_below (F := fun _ => False) hb) (fun _ _ h => h), h.lo, h.hi⟩
theorem DkN.set {w : World} {D Q n lo hi X : Nat} {S : Nat → Prop} (h : DkN w D Q S n lo hi) (hx : X < lo) (j : Nat) (v : Value) : DkN (w.setCell ⟨X, j, none⟩ v) D Q S n lo hi :=
  ⟨h.dk.chg (F := fun b => b = X) (chg1 _ _ _ _) (fun k hk e => by have := h.lo k hk; omega), h.lo, h.hi⟩
theorem Bg.below {w w1 w' : World} {X Q : Nat} {l : List Value} (h : Bg w w1 X Q l) (hb : Below w1.heap.size w1 w') : Bg w w' X Q l :=
  ⟨h.pr.below hb h.pr.lt, h.pw.chg (F := fun _ => False) (Chg.of_below hb) (fun h => h), h.qx, h.wq, h.bel.trans (hb.mono h.bel.size)⟩
theorem Bg.set {w w1 : World} {X Q : Nat} {l : List Value} (h : Bg w w1 X Q l) (j : Nat) (v : Value) : Bg w (w1.setCell ⟨X, j + 1, none⟩ v) X Q (l.set j v) :=
  ⟨h.pr.set (j + 1) v, h.pw.chg (F := fun b => b = X) (chg1 _ _ _ _) (fun e => by have := h.qx; omega), h.qx, h.wq, h.bel.setCell (by show w.heap.size ≤ X; have := h.qx; have := h.wq; omega) v⟩
open Classical in
noncomputable def labB (S0 S1 : Nat → Prop) (Q M K : Nat) (B : Nat → Nat) : Nat → Nat := fun b => if S0 b then 1 else if S1 b then 2 else if b = Q then 3 else if b = M then 4 else if b = K then 5 else if Of B b then 6 else if b = 1 ∨ b = 0 then 8 else 0
/-- All is laid. -/
theorem beg_of {w w' : World} {X Q D0 D1 K M n h0 h1 lo0 lo1 : Nat} {S0 S1 : Nat → Prop} {B : Nat → Nat} (hg : Bg w w' X Q [.pointer (some ⟨D0, 0, none⟩), .pointer (some ⟨D1, 0, none⟩), .pointer (some ⟨K, 0, none⟩), .pointer (some ⟨M, 0, none⟩)])
    (hd0 : DkN w' D0 Q S0 n lo0 h0) (hd1 : DkN w' D1 Q S1 n lo1 h1) (hs : SpAt w' K B (freshS (n - 1) (n - 1)))
    (hm : Blk w' M [.pointer (some ⟨D0, 0, none⟩), .pointer (some ⟨D1, 0, none⟩), .int .i64 0, .int .i64 0, .int .i64 0, .int .i64 0, .pointer (some ⟨K, 0, none⟩), .slice none 0 0] 125)
    (x0 : X < lo0) (x1 : h0 ≤ lo1) (x2 : h1 ≤ K) (hB : ∀ k, Of B k → K < k ∧ k < M) (hKM : K < M) (ht : Tab w) (hr : RTab w) :
    ∃ P lab, Beg w w' X P lab n ∧ P.Q = Q ∧ P.M = M := by
  have hX := hg.qx
  have hQ := hg.wq
  have g8 : 1 < w.heap.size := ht.lt
  have g9 : 0 < w.heap.size := hr.lt
  have d0 := hd0.lo _ hd0.dk.d.1
  have d0h := hd0.hi _ hd0.dk.d.1
  have d1 := hd1.lo _ hd1.dk.d.1
  have d1h := hd1.hi _ hd1.dk.d.1
  have L : ∀ b, labB S0 S1 Q M K B b = 1 → S0 b := fun b => by unfold labB; (repeat' split) <;> intro hh <;> first | omega | assumption
  have L2 : ∀ b, labB S0 S1 Q M K B b = 2 → S1 b := fun b => by unfold labB; (repeat' split) <;> intro hh <;> first | omega | assumption
  have n0 : ∀ b, ¬ (lo0 ≤ b ∧ b < h0) → ¬ S0 b := fun b hb hs => hb ⟨hd0.lo b hs, hd0.hi b hs⟩
  have n1 : ∀ b, ¬ (lo1 ≤ b ∧ b < h1) → ¬ S1 b := fun b hb hs => hb ⟨hd1.lo b hs, hd1.hi b hs⟩
  have nB : ∀ b, b ≤ K ∨ M ≤ b → ¬ Of B b := fun b hb hs => by have := hB b hs; omega
  have hlo : ∀ b, labB S0 S1 Q M K B b ≠ 0 → labB S0 S1 Q M K B b ≠ 8 → w.heap.size ≤ b := fun b => by
    unfold labB
    split
    · rename_i h; intro _ _; have := hd0.lo b h; omega
    split
    · rename_i h; intro _ _; have := hd1.lo b h; omega
    split
    · intro _ _; omega
    split
    · intro _ _; omega
    split
    · intro _ _; omega
    split
    · rename_i h; intro _ _; have := hB b h; omega
    split
    · intro _ h8; exact absurd rfl h8
    · intro h0; exact absurd rfl h0
  refine ⟨⟨M, fun k => if k = 0 then D0 else D1, Q, K, B⟩, labB S0 S1 Q M K B, ⟨⟨⟨.slice none 0 0, ?_, ?_, ?_⟩, ?_, hg.pw, hs, ?_, ?_, ?_, ?_, ?_, ?_, ?_, ?_, ?_⟩, ?_, ?_, ?_, hlo, hg.bel⟩, rfl, rfl⟩
  · exact hm
  · exact World.ownsRow_nil _ _ _ _
  · intro g hg; cases hg
  · intro k hk
    obtain rfl | rfl : k = 0 ∨ k = 1 := by omega
    · refine hd0.dk.mono (fun b hb => ?_) (fun hb => hd0.dk.nq (L _ hb)) (fun b hb => hd0.dk.lt b (L _ hb))
      show labB S0 S1 Q M K B b = 1
      unfold labB
      rw [if_pos hb]
    · refine hd1.dk.mono (fun b hb => ?_) (fun hb => hd1.dk.nq (L2 _ hb)) (fun b hb => hd1.dk.lt b (L2 _ hb))
      show labB S0 S1 Q M K B b = 2
      unfold labB
      rw [if_neg (n0 _ (by have := hd1.lo b hb; omega)), if_pos hb]
  · show labB S0 S1 Q M K B Q = 3
    unfold labB
    rw [if_neg (n0 _ (by omega)), if_neg (n1 _ (by omega)), if_pos rfl]
  · show labB S0 S1 Q M K B M = 4
    unfold labB
    rw [if_neg (n0 _ (by omega)), if_neg (n1 _ (by omega)), if_neg (by omega), if_pos rfl]
  · show labB S0 S1 Q M K B K = 5
    unfold labB
    rw [if_neg (n0 _ (by omega)), if_neg (n1 _ (by omega)), if_neg (by omega), if_neg (by omega), if_pos rfl]
  · intro b hb
    have := hB b hb
    show labB S0 S1 Q M K B b = 6
    unfold labB
    rw [if_neg (n0 _ (by omega)), if_neg (n1 _ (by omega)), if_neg (by omega), if_neg (by omega), if_neg (by omega), if_pos hb]
  · intro b hb
    by_cases h8 : labB S0 S1 Q M K B b = 8
    · have hs := hg.bel.size
      revert h8
      unfold labB
      (repeat' split) <;> intro hh <;> first | omega | exact absurd hh (by decide)
    · have h7 := hlo b hb h8
      revert hb
      have m1 := hm.lt
      have m2 := hg.pr.lt
      unfold labB
      split
      · rename_i h; intro _; exact hd0.dk.lt b h
      split
      · rename_i h; intro _; exact hd1.dk.lt b h
      split
      · intro _; omega
      split
      · intro _; omega
      split
      · intro _; omega
      split
      · rename_i h; intro _; have := hB b h; omega
      split
      · rename_i h; intro _; omega
      · intro h0; exact absurd rfl h0
  · intro q hq; cases hq
  · exact ht.below hg.bel (Nat.le_refl _)
  · exact hr.below hg.bel (Nat.le_refl _)
  · have e : ∀ b, b < w.heap.size → (b = 1 ∨ b = 0) → labB S0 S1 Q M K B b = 8 := fun b hb h8 => by
      unfold labB
      rw [if_neg (n0 _ (by omega)), if_neg (n1 _ (by omega)), if_neg (by omega), if_neg (by omega), if_neg (by omega), if_neg (nB _ (by omega)), if_pos h8]
    exact ⟨e _ g8 (.inl rfl), e _ g9 (.inr rfl)⟩
  · exact hg.pr
  · unfold labB
    rw [if_neg (n0 _ (by omega)), if_neg (n1 _ (by omega)), if_neg (by omega), if_neg (by omega), if_neg (by omega), if_neg (nB _ (by omega)), if_neg (by omega)]
  · omega
/-- A mirror that New made. -/
def MNew (w' : World) (M D0 D1 K : Nat) : Prop := Blk w' M [.pointer (some ⟨D0, 0, none⟩), .pointer (some ⟨D1, 0, none⟩), .int .i64 0, .int .i64 0, .int .i64 0, .int .i64 0, .pointer (some ⟨K, 0, none⟩), .slice none 0 0] 125
set_option maxRecDepth 100000 in
set_option maxHeartbeats 4000000 in
theorem begun_any (n : Nat) (n1 : 1 ≤ n) (n2 : n ≤ 4096) (w : World) (ht : Tab w) (hr : RTab w) : Calls Tryz.prog 7 #[.int .i64 (n : Int)] w fun e w' => ∃ X P lab, e = .returned (.pointer (some ⟨X, 0, none⟩)) ∧ Beg w w' X P lab n := by
  have HN : Hid (1 ≤ n ∧ n ≤ 4096) := Lib.hid ⟨n1, n2⟩
  have HT := Lib.hid ht; have HR := Lib.hid hr
  clear n1 n2 ht hr
  go_enter Tryz.func7, Tryz.ntmps7
  go_wp2_with fail
  refine (on_any _).mono ?_
  rintro e W0 ⟨Q, rfl, hq1, hq2, hpw, hb0⟩
  have HB0 : Hid (Bg w (W0.alloc (.cells #[.pointer (some ⟨Q, 0, none⟩), .pointer none, .pointer none, .pointer none, .pointer none] 33)) W0.heap.size Q [.pointer none, .pointer none, .pointer none, .pointer none]) :=
    Lib.hid ⟨Blk.new' _ _ _ _ _ rfl rfl, hpw.chg (F := fun _ => False) (Chg.of_below ((Below.refl _ _).alloc (Nat.le_refl _) _)) (fun h => h), hq2, hq1, hb0.alloc (by have := hb0.size; omega) _⟩
  have HX0 : Hid (W0.heap.size < (W0.alloc (.cells #[.pointer (some ⟨Q, 0, none⟩), .pointer none, .pointer none, .pointer none, .pointer none] 33)).drew.heap.size) := Lib.hid (by simp)
  clear hq1 hq2 hpw hb0
  go_upto_region 2 with fail
  generalize (W0.alloc (.cells #[.pointer (some ⟨Q, 0, none⟩), .pointer none, .pointer none, .pointer none, .pointer none] 33)) = W at HB0 HX0 ⊢
  generalize W0.heap.size = X at HB0 HX0 ⊢
  have HB := Lib.hid (HB0.out.below (Below.refl _ _).drew)
  clear HB0
  refine wp_region_sched (.take 0 (.take 1 (.take 2 (.take 3 (.take 4 (.take 5 (.take 10 (.take 11 (.step 6 (.take 7 (.take 8 (.take 9 (.take 12 (.step 13 (.nil))))))))))))))) (by kernel_rfl) (by kernel_rfl) (fun d _ _ _ _ h => by cases d <;> exact h) (fun Y => Y.cell? ⟨X, 0, none⟩ = some (.pointer (some ⟨Q, 0, none⟩))) (HB.out.pr.cell rfl) ?_
  refine wpG_take _ (.pointer (some ⟨X, 0, none⟩)) rfl (by rfl) (fun X hX => by first | rfl | go_simp) ?_
  (try simp only [Act.put, List.setIfInBounds_toArray, List.set_cons_zero, List.set_cons_succ])
  refine wpG_take _ (.int .i64 (n : Int)) rfl (by rfl) (fun X hX => by first | rfl | go_simp) ?_
  (try simp only [Act.put, List.setIfInBounds_toArray, List.set_cons_zero, List.set_cons_succ])
  refine wpG_take _ (.pointer (some ⟨X, 0, none⟩)) rfl (by rfl) (fun X hX => by first | rfl | go_simp) ?_
  (try simp only [Act.put, List.setIfInBounds_toArray, List.set_cons_zero, List.set_cons_succ])
  refine wpG_take _ (.pointer (some ⟨X, 0, none⟩)) rfl (by rfl) (fun X hX => ex_nc rfl rfl) ?_
  (try simp only [Act.put, List.setIfInBounds_toArray, List.set_cons_zero, List.set_cons_succ])
  refine wpG_take _ (.pointer (some ⟨X, 0, none⟩)) rfl (by rfl) (fun X hX => by first | rfl | go_simp) ?_
  (try simp only [Act.put, List.setIfInBounds_toArray, List.set_cons_zero, List.set_cons_succ])
  refine wpG_take _ (.pointer (some ⟨Q, 0, none⟩)) rfl (by rfl) (fun X hX => q_ldPw rfl rfl (hX)) ?_
  (try simp only [Act.put, List.setIfInBounds_toArray, List.set_cons_zero, List.set_cons_succ])
  refine wpG_take _ (.pointer (some ⟨X, 0, none⟩)) rfl (by rfl) (fun X hX => ex_nc rfl rfl) ?_
  (try simp only [Act.put, List.setIfInBounds_toArray, List.set_cons_zero, List.set_cons_succ])
  refine wpG_take _ (.pointer (some ⟨X, 1, none⟩)) rfl (by rfl) (fun X hX => by first | rfl | go_simp) ?_
  (try simp only [Act.put, List.setIfInBounds_toArray, List.set_cons_zero, List.set_cons_succ])
  refine wpG_call _ rfl (by rfl) 38 #[.int .i64 (n : Int), .pointer (some ⟨Q, 0, none⟩)] (fun _ => by go_simp) (fun u w' => ∃ D S, u = .tuple #[.pointer (some ⟨D, 0, none⟩), .int .i64 0] ∧ DkN w' D Q S n W.drew.heap.size w'.heap.size ∧ Below W.drew.heap.size W.drew w')
    ((new_ok n Q _ rfl W.drew HB.out.pw (by have := HN.out; omega) (by have := HN.out; omega)).mono fun e w' hh => by
      obtain ⟨D, S, e1, h1, h2, h3⟩ := hh
      exact ⟨_, e1, (HB.out.below h3).pr.cell rfl, D, S, rfl, ⟨h1, h2, h1.lt⟩, h3⟩) ?_
  rintro u W1 hs1 ⟨D, S, rfl, hd, hbl⟩
  refine ⟨_, fun _ h => h, hs1, ?_⟩
  (try simp only [Act.put, List.setIfInBounds_toArray, List.set_cons_zero, List.set_cons_succ])
  refine wpG_take _ (.tuple #[.pointer (some ⟨D, 0, none⟩), .int .i64 0]) rfl (by rfl) (fun X hX => by first | rfl | go_simp) ?_
  (try simp only [Act.put, List.setIfInBounds_toArray, List.set_cons_zero, List.set_cons_succ])
  refine wpG_take _ (.pointer (some ⟨D, 0, none⟩)) rfl (by rfl) (fun X hX => by first | rfl | go_simp) ?_
  (try simp only [Act.put, List.setIfInBounds_toArray, List.set_cons_zero, List.set_cons_succ])
  refine wpG_take _ (.int .i64 0) rfl (by rfl) (fun X hX => by first | rfl | go_simp) ?_
  (try simp only [Act.put, List.setIfInBounds_toArray, List.set_cons_zero, List.set_cons_succ])
  refine wpG_take _ (.pointer (some ⟨X, 1, none⟩)) rfl (by rfl) (fun X hX => by first | rfl | go_simp) ?_
  (try simp only [Act.put, List.setIfInBounds_toArray, List.set_cons_zero, List.set_cons_succ])
  have HB2 := Lib.hid (HB.out.below hbl)
  have HB3 := Lib.hid (HB2.out.set 0 (.pointer (some ⟨D, 0, none⟩)))
  refine wpG_st _ rfl (by rfl) _ (q_stD rfl rfl rfl (HB2.out.pr.cell rfl) (HB2.out.pr.free _)) _ (HB3.out.pr.cell rfl) (HB3.out.pr.cell rfl) (fun _ h => h) ?_
  refine wpG_nil ?_
  have HD := Lib.hid (hd.set (X := X) HX0.out 1 (.pointer (some ⟨D, 0, none⟩)))
  have HX1 : Hid (W1.heap.size ≤ (W1.setCell ⟨X, 1, none⟩ (.pointer (some ⟨D, 0, none⟩))).drew.heap.size) := Lib.hid (by simp)
  generalize W.drew.heap.size = lo0 at HX0 HD
  generalize W1.heap.size = h0 at HX1 HD
  obtain ⟨W2, hW2⟩ : ∃ W2, W1.setCell ⟨X, 1, none⟩ (.pointer (some ⟨D, 0, none⟩)) = W2 := ⟨_, rfl⟩
  rw [show (0 : Nat) + 1 = 1 from rfl] at HB3
  rw [hW2] at HB3 HD HX1 ⊢
  clear hW2 HB HB2 hd hs1 hbl W1 W
  have HD0 := HD; clear HD
  have HB0 := HB3; clear HB3
  revert HX0 HX1 HD0 HB0
  generalize D = D0
  generalize S = S0
  generalize W2 = W
  intro HX0 HX1 HD0 HB0
  go_upto_region 3 with fail
  have HB := Lib.hid (HB0.out.below (Below.refl _ _).drew)
  have HDz := Lib.hid (HD0.out.below (Below.refl _ _).drew)
  clear HB0 HD0
  refine wp_region_sched (.take 0 (.take 1 (.take 2 (.take 3 (.take 4 (.take 5 (.take 10 (.take 11 (.step 6 (.take 7 (.take 8 (.take 9 (.take 12 (.step 13 (.nil))))))))))))))) (by kernel_rfl) (by kernel_rfl) (fun d _ _ _ _ h => by cases d <;> exact h) (fun Y => Y.cell? ⟨X, 0, none⟩ = some (.pointer (some ⟨Q, 0, none⟩))) (HB.out.pr.cell rfl) ?_
  refine wpG_take _ (.pointer (some ⟨X, 0, none⟩)) rfl (by rfl) (fun X hX => by first | rfl | go_simp) ?_
  (try simp only [Act.put, List.setIfInBounds_toArray, List.set_cons_zero, List.set_cons_succ])
  refine wpG_take _ (.int .i64 (n : Int)) rfl (by rfl) (fun X hX => by first | rfl | go_simp) ?_
  (try simp only [Act.put, List.setIfInBounds_toArray, List.set_cons_zero, List.set_cons_succ])
  refine wpG_take _ (.pointer (some ⟨X, 0, none⟩)) rfl (by rfl) (fun X hX => by first | rfl | go_simp) ?_
  (try simp only [Act.put, List.setIfInBounds_toArray, List.set_cons_zero, List.set_cons_succ])
  refine wpG_take _ (.pointer (some ⟨X, 0, none⟩)) rfl (by rfl) (fun X hX => ex_nc rfl rfl) ?_
  (try simp only [Act.put, List.setIfInBounds_toArray, List.set_cons_zero, List.set_cons_succ])
  refine wpG_take _ (.pointer (some ⟨X, 0, none⟩)) rfl (by rfl) (fun X hX => by first | rfl | go_simp) ?_
  (try simp only [Act.put, List.setIfInBounds_toArray, List.set_cons_zero, List.set_cons_succ])
  refine wpG_take _ (.pointer (some ⟨Q, 0, none⟩)) rfl (by rfl) (fun X hX => q_ldPw rfl rfl (hX)) ?_
  (try simp only [Act.put, List.setIfInBounds_toArray, List.set_cons_zero, List.set_cons_succ])
  refine wpG_take _ (.pointer (some ⟨X, 0, none⟩)) rfl (by rfl) (fun X hX => ex_nc rfl rfl) ?_
  (try simp only [Act.put, List.setIfInBounds_toArray, List.set_cons_zero, List.set_cons_succ])
  refine wpG_take _ (.pointer (some ⟨X, 1, none⟩)) rfl (by rfl) (fun X hX => by first | rfl | go_simp) ?_
  (try simp only [Act.put, List.setIfInBounds_toArray, List.set_cons_zero, List.set_cons_succ])
  refine wpG_call _ rfl (by rfl) 38 #[.int .i64 (n : Int), .pointer (some ⟨Q, 0, none⟩)] (fun _ => by go_simp) (fun u w' => ∃ D S, u = .tuple #[.pointer (some ⟨D, 0, none⟩), .int .i64 0] ∧ DkN w' D Q S n W.drew.heap.size w'.heap.size ∧ Below W.drew.heap.size W.drew w')
    ((new_ok n Q _ rfl W.drew HB.out.pw (by have := HN.out; omega) (by have := HN.out; omega)).mono fun e w' hh => by
      obtain ⟨D, S, e1, h1, h2, h3⟩ := hh
      exact ⟨_, e1, (HB.out.below h3).pr.cell rfl, D, S, rfl, ⟨h1, h2, h1.lt⟩, h3⟩) ?_
  rintro u W1 hs1 ⟨D, S, rfl, hd, hbl⟩
  refine ⟨_, fun _ h => h, hs1, ?_⟩
  (try simp only [Act.put, List.setIfInBounds_toArray, List.set_cons_zero, List.set_cons_succ])
  refine wpG_take _ (.tuple #[.pointer (some ⟨D, 0, none⟩), .int .i64 0]) rfl (by rfl) (fun X hX => by first | rfl | go_simp) ?_
  (try simp only [Act.put, List.setIfInBounds_toArray, List.set_cons_zero, List.set_cons_succ])
  refine wpG_take _ (.pointer (some ⟨D, 0, none⟩)) rfl (by rfl) (fun X hX => by first | rfl | go_simp) ?_
  (try simp only [Act.put, List.setIfInBounds_toArray, List.set_cons_zero, List.set_cons_succ])
  refine wpG_take _ (.int .i64 0) rfl (by rfl) (fun X hX => by first | rfl | go_simp) ?_
  (try simp only [Act.put, List.setIfInBounds_toArray, List.set_cons_zero, List.set_cons_succ])
  refine wpG_take _ (.pointer (some ⟨X, 2, none⟩)) rfl (by rfl) (fun X hX => by first | rfl | go_simp) ?_
  (try simp only [Act.put, List.setIfInBounds_toArray, List.set_cons_zero, List.set_cons_succ])
  have HB2 := Lib.hid (HB.out.below hbl)
  have HB3 := Lib.hid (HB2.out.set 1 (.pointer (some ⟨D, 0, none⟩)))
  refine wpG_st _ rfl (by rfl) _ (q_stD rfl rfl rfl (HB2.out.pr.cell rfl) (HB2.out.pr.free _)) _ (HB3.out.pr.cell rfl) (HB3.out.pr.cell rfl) (fun _ h => h) ?_
  refine wpG_nil ?_
  have HXa : Hid (X < W.drew.heap.size) := Lib.hid HB.out.pr.lt
  have HD := Lib.hid (hd.set (X := X) HXa.out 2 (.pointer (some ⟨D, 0, none⟩)))
  have HDa := Lib.hid ((HDz.out.below hbl).set (X := X) HX0.out 2 (.pointer (some ⟨D, 0, none⟩)))
  obtain ⟨W2, hW2⟩ : ∃ W2, W1.setCell ⟨X, 2, none⟩ (.pointer (some ⟨D, 0, none⟩)) = W2 := ⟨_, rfl⟩
  have HX2 : Hid (W1.heap.size ≤ W2.heap.size) := Lib.hid (by rw [← hW2]; simp)
  generalize W.drew.heap.size = lo1 at HX1 HD
  generalize W1.heap.size = h1 at HX2 HD
  rw [show (1 : Nat) + 1 = 2 from rfl] at HB3
  rw [hW2] at HB3 HD HDa ⊢
  clear hW2 HB HB2 hd hs1 hbl HDz HXa W1 W
  have HD1 := HD; clear HD
  have HB := HB3; clear HB3
  have HD0 := HDa; clear HDa
  revert HX0 HX1 HX2 HD0 HD1 HB
  generalize D = D1
  generalize S = S1
  generalize W2 = W
  intro HX0 HX1 HX2 HD1 HB HD0
  have hn1 := HN.out
  go_wp2_with fail
  refine (k_new_any (n : Int) (n : Int) W).mono ?_
  rintro e W1 ⟨hb1, hno, hy⟩
  obtain ⟨B, rfl, hsp, hB⟩ := hy ⟨⟨by omega, by omega⟩, ⟨by omega, by omega⟩⟩
  have hnn : ((n : Int) - 1).toNat = n - 1 := by omega
  rw [hnn] at hsp
  have HB1 := Lib.hid (HB.out.below hb1)
  have HD0a := Lib.hid (HD0.out.below hb1)
  have HD1a := Lib.hid (HD1.out.below hb1)
  have HK : Hid (SpAt W1 W.heap.size B (freshS (n - 1) (n - 1)) ∧ (∀ k, Of B k → W.heap.size < k ∧ k < W1.heap.size) ∧ W.heap.size < W1.heap.size) := Lib.hid ⟨hsp, fun k hk => ⟨by
    have h0 := hB k hk
    have h2 : k ≠ W.heap.size := fun e => by
      have hb := hsp.blk
      rw [← e] at hb
      rcases hk with e1 | e1
      · rw [e1] at hb; exact absurd (hb.same (hsp.ax 0 (by omega))) (by decide)
      · rw [e1] at hb; exact absurd (hb.same (hsp.ax 1 (by omega))) (by decide)
    omega, by
    rcases hk with e | e
    · rw [e]; exact (hsp.ax 0 (by omega)).lt
    · rw [e]; exact (hsp.ax 1 (by omega)).lt⟩, hsp.blk.lt⟩
  have HX3 : Hid (h1 ≤ W.heap.size ∧ X < W.heap.size) := Lib.hid ⟨HX2.out, HB.out.pr.lt⟩
  clear hb1 hno hy hB hsp hnn hn1 HX2 HB HD0 HD1
  generalize W.heap.size = K at HK HX3 ⊢
  clear W
  have HBa := HB1; clear HB1
  have HDa := HD0a; clear HD0a
  have HDb := HD1a; clear HD1a
  have hc2 := HBa.out.pr.cell (j := 3) rfl
  have hf2 := HBa.out.pr.free 3
  have HB1 := Lib.hid (HBa.out.set 2 (.pointer (some ⟨K, 0, none⟩)))
  have HXl : Hid (X < W1.heap.size) := Lib.hid HBa.out.pr.lt
  have HXr : Hid (Below W1.heap.size W1 ((W1.setCell ⟨X, 3, none⟩ (.pointer (some ⟨K, 0, none⟩)))) ∨ True) := Lib.hid (.inr trivial)
  have HDc := Lib.hid (HDa.out.set (X := X) HX0.out 3 (.pointer (some ⟨K, 0, none⟩)))
  have HDd := Lib.hid (HDb.out.set (X := X) (by have := HX0.out; have := HX1.out; have := HDa.out.lo _ HDa.out.dk.d.1; have := HDa.out.hi _ HDa.out.dk.d.1; omega) 3 (.pointer (some ⟨K, 0, none⟩)))
  have HKa : Hid (SpAt (W1.setCell ⟨X, 3, none⟩ (.pointer (some ⟨K, 0, none⟩))) K B (freshS (n - 1) (n - 1))) := Lib.hid (HK.out.1.chg (F := fun b => b = X) (chg1 _ _ _ _) (by have := HX3.out; omega) (fun d hd e => by have h1 := HK.out.2.1 _ (of_at B hd); have := HX3.out; omega))
  have HKs : Hid ((∀ k, Of B k → K < k ∧ k < (W1.setCell ⟨X, 3, none⟩ (.pointer (some ⟨K, 0, none⟩))).heap.size) ∧ K < (W1.setCell ⟨X, 3, none⟩ (.pointer (some ⟨K, 0, none⟩))).heap.size) := Lib.hid (by simpa using HK.out.2)
  clear HK HDa HDb HXr HXl
  go_upto_region 5 with fail
  clear hc2 hf2 HBa
  rw [show (2 : Nat) + 1 = 3 from rfl] at HB1
  generalize W1.setCell ⟨X, 3, none⟩ (.pointer (some ⟨K, 0, none⟩)) = W at HB1 HDc HDd HKa HKs ⊢
  have HB := Lib.hid (HB1.out.below (Below.refl _ _).drew)
  have HDa := Lib.hid (HDc.out.below (Below.refl _ _).drew)
  have HDb := Lib.hid (HDd.out.below (Below.refl _ _).drew)
  have HK := Lib.hid (HKa.out.below (Below.refl _ _).drew)
  have HKr : Hid ((∀ k, Of B k → K < k ∧ k < W.drew.heap.size) ∧ K < W.drew.heap.size) := Lib.hid HKs.out
  clear HB1 HDc HDd HKa HKs
  refine wp_region_sched (.take 0 (.take 1 (.take 2 (.take 3 (.take 4 (.take 5 (.take 6 (.take 7 (.take 8 (.take 9 (.take 10 (.take 11 (.take 12 (.take 13 (.take 14 (.step 15 (.take 16 (.take 17 (.take 18 (.take 19 (.take 20 (.step 21 (.nil))))))))))))))))))))))) (by kernel_rfl) (by kernel_rfl) (fun d _ _ _ _ h => by cases d <;> exact h) (fun Y => Y.cell? ⟨X, 1, none⟩ = some (.pointer (some ⟨D0, 0, none⟩)) ∧ Y.cell? ⟨X, 2, none⟩ = some (.pointer (some ⟨D1, 0, none⟩)) ∧ Y.cell? ⟨X, 3, none⟩ = some (.pointer (some ⟨K, 0, none⟩))) ⟨HB.out.pr.cell rfl, HB.out.pr.cell rfl, HB.out.pr.cell rfl⟩ ?_
  refine wpG_take _ (.pointer (some ⟨X, 0, none⟩)) rfl (by rfl) (fun X hX => by first | rfl | go_simp) ?_
  (try simp only [Act.put, List.setIfInBounds_toArray, List.set_cons_zero, List.set_cons_succ])
  refine wpG_take _ (.pointer (some ⟨X, 0, none⟩)) rfl (by rfl) (fun X hX => by first | rfl | go_simp) ?_
  (try simp only [Act.put, List.setIfInBounds_toArray, List.set_cons_zero, List.set_cons_succ])
  refine wpG_take _ (.pointer (some ⟨X, 0, none⟩)) rfl (by rfl) (fun X hX => ex_nc rfl rfl) ?_
  (try simp only [Act.put, List.setIfInBounds_toArray, List.set_cons_zero, List.set_cons_succ])
  refine wpG_take _ (.pointer (some ⟨X, 1, none⟩)) rfl (by rfl) (fun X hX => by first | rfl | go_simp) ?_
  (try simp only [Act.put, List.setIfInBounds_toArray, List.set_cons_zero, List.set_cons_succ])
  refine wpG_take _ (.pointer (some ⟨X, 1, none⟩)) rfl (by rfl) (fun X hX => by first | rfl | go_simp) ?_
  (try simp only [Act.put, List.setIfInBounds_toArray, List.set_cons_zero, List.set_cons_succ])
  refine wpG_take _ (.pointer (some ⟨D0, 0, none⟩)) rfl (by rfl) (fun X hX => q_ldD rfl rfl (hX.1)) ?_
  (try simp only [Act.put, List.setIfInBounds_toArray, List.set_cons_zero, List.set_cons_succ])
  refine wpG_take _ (.pointer (some ⟨X, 0, none⟩)) rfl (by rfl) (fun X hX => by first | rfl | go_simp) ?_
  (try simp only [Act.put, List.setIfInBounds_toArray, List.set_cons_zero, List.set_cons_succ])
  refine wpG_take _ (.pointer (some ⟨X, 0, none⟩)) rfl (by rfl) (fun X hX => ex_nc rfl rfl) ?_
  (try simp only [Act.put, List.setIfInBounds_toArray, List.set_cons_zero, List.set_cons_succ])
  refine wpG_take _ (.pointer (some ⟨X, 1, none⟩)) rfl (by rfl) (fun X hX => by first | rfl | go_simp) ?_
  (try simp only [Act.put, List.setIfInBounds_toArray, List.set_cons_zero, List.set_cons_succ])
  refine wpG_take _ (.pointer (some ⟨X, 2, none⟩)) rfl (by rfl) (fun X hX => by first | rfl | go_simp) ?_
  (try simp only [Act.put, List.setIfInBounds_toArray, List.set_cons_zero, List.set_cons_succ])
  refine wpG_take _ (.pointer (some ⟨D1, 0, none⟩)) rfl (by rfl) (fun X hX => q_ldD rfl rfl (hX.2.1)) ?_
  (try simp only [Act.put, List.setIfInBounds_toArray, List.set_cons_zero, List.set_cons_succ])
  refine wpG_take _ (.pointer (some ⟨X, 0, none⟩)) rfl (by rfl) (fun X hX => by first | rfl | go_simp) ?_
  (try simp only [Act.put, List.setIfInBounds_toArray, List.set_cons_zero, List.set_cons_succ])
  refine wpG_take _ (.pointer (some ⟨X, 0, none⟩)) rfl (by rfl) (fun X hX => ex_nc rfl rfl) ?_
  (try simp only [Act.put, List.setIfInBounds_toArray, List.set_cons_zero, List.set_cons_succ])
  refine wpG_take _ (.pointer (some ⟨X, 3, none⟩)) rfl (by rfl) (fun X hX => by first | rfl | go_simp) ?_
  (try simp only [Act.put, List.setIfInBounds_toArray, List.set_cons_zero, List.set_cons_succ])
  refine wpG_take _ (.pointer (some ⟨K, 0, none⟩)) rfl (by rfl) (fun X hX => q_ldK rfl rfl (hX.2.2)) ?_
  (try simp only [Act.put, List.setIfInBounds_toArray, List.set_cons_zero, List.set_cons_succ])
  refine wpG_call _ rfl (by rfl) 40 #[.pointer (some ⟨D0, 0, none⟩), .pointer (some ⟨D1, 0, none⟩), .pointer (some ⟨K, 0, none⟩)] (fun _ => by go_simp) (fun u w' => u = .tuple #[.pointer (some ⟨W.drew.heap.size, 0, none⟩), .int .i64 0] ∧ MNew w' W.drew.heap.size D0 D1 K ∧ Below W.drew.heap.size W.drew w')
    ((qnew_any D0 D1 K W.drew).mono fun e w' hh => by
      obtain ⟨e1, h1, h3⟩ := hh
      have hp := (HB.out.below h3).pr
      exact ⟨_, e1, ⟨hp.cell rfl, hp.cell rfl, hp.cell rfl⟩, rfl, h1, h3⟩) ?_
  rintro u W1 hs1 ⟨rfl, hm1, hbl⟩
  refine ⟨_, fun _ h => h, hs1, ?_⟩
  (try simp only [Act.put, List.setIfInBounds_toArray, List.set_cons_zero, List.set_cons_succ])
  refine wpG_take _ (.tuple #[.pointer (some ⟨W.drew.heap.size, 0, none⟩), .int .i64 0]) rfl (by rfl) (fun X hX => by first | rfl | go_simp) ?_
  (try simp only [Act.put, List.setIfInBounds_toArray, List.set_cons_zero, List.set_cons_succ])
  refine wpG_take _ (.pointer (some ⟨W.drew.heap.size, 0, none⟩)) rfl (by rfl) (fun X hX => by first | rfl | go_simp) ?_
  (try simp only [Act.put, List.setIfInBounds_toArray, List.set_cons_zero, List.set_cons_succ])
  refine wpG_take _ (.int .i64 0) rfl (by rfl) (fun X hX => by first | rfl | go_simp) ?_
  (try simp only [Act.put, List.setIfInBounds_toArray, List.set_cons_zero, List.set_cons_succ])
  refine wpG_take _ (.pointer (some ⟨X, 0, none⟩)) rfl (by rfl) (fun X hX => ex_nc rfl rfl) ?_
  (try simp only [Act.put, List.setIfInBounds_toArray, List.set_cons_zero, List.set_cons_succ])
  refine wpG_take _ (.pointer (some ⟨X, 4, none⟩)) rfl (by rfl) (fun X hX => by first | rfl | go_simp) ?_
  (try simp only [Act.put, List.setIfInBounds_toArray, List.set_cons_zero, List.set_cons_succ])
  have HB2 := Lib.hid (HB.out.below hbl)
  have HB3 := Lib.hid (HB2.out.set 3 (.pointer (some ⟨W.drew.heap.size, 0, none⟩)))
  refine wpG_st _ rfl (by rfl) _ (q_stM rfl rfl rfl (HB2.out.pr.cell rfl) (HB2.out.pr.free _)) _ ⟨HB3.out.pr.cell rfl, HB3.out.pr.cell rfl, HB3.out.pr.cell rfl⟩ ⟨HB3.out.pr.cell rfl, HB3.out.pr.cell rfl, HB3.out.pr.cell rfl⟩ (fun _ h => h) ?_
  refine wpG_nil ?_
  rw [show (3 : Nat) + 1 = 4 from rfl] at HB3
  have HDc := Lib.hid ((HDa.out.below hbl).set (X := X) HX0.out 4 (.pointer (some ⟨W.drew.heap.size, 0, none⟩)))
  have HDd := Lib.hid ((HDb.out.below hbl).set (X := X) (by have := HX0.out; have := HX1.out; have := HDa.out.lo _ HDa.out.dk.d.1; have := HDa.out.hi _ HDa.out.dk.d.1; omega) 4 (.pointer (some ⟨W.drew.heap.size, 0, none⟩)))
  have HKa : Hid (SpAt (W1.setCell ⟨X, 4, none⟩ (.pointer (some ⟨W.drew.heap.size, 0, none⟩))) K B (freshS (n - 1) (n - 1))) := Lib.hid ((HK.out.below hbl).chg (F := fun b => b = X) (chg1 _ _ _ _) (by have := HX3.out; omega) (fun d hd e => by have h1 := HKr.out.1 _ (of_at B hd); have := HX3.out; omega))
  have HMn : Hid (MNew (W1.setCell ⟨X, 4, none⟩ (.pointer (some ⟨W.drew.heap.size, 0, none⟩))) W.drew.heap.size D0 D1 K) := Lib.hid (by
    unfold MNew at hm1 ⊢
    refine hm1.chg (F := fun b => b = X) (chg1 _ _ _ _) (fun e => ?_)
    have := HKr.out.2; have := HX3.out; omega)
  obtain ⟨P, lab, hbeg, _, _⟩ := beg_of HB3.out HDc.out HDd.out HKa.out HMn.out HX0.out HX1.out HX3.out.1 HKr.out.1 HKr.out.2 HT.out HR.out
  have HBG := Lib.hid hbeg
  clear hbeg
  go_wp2_with fail
  go_ret
  exact ⟨_, P, lab, rfl, HBG.out⟩
end Go.Proofs.YtmgagalhpkieoaaGreatDoor
