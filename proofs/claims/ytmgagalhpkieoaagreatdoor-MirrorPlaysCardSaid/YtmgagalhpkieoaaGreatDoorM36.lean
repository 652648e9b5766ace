/- A pair of disks, their space, a mirror: made. -/
import Derived.Test.YtmgagalhpkieoaaGreatDoorM35
import Derived.Test.YtmgagalhpkieoaaGreatDoorM16
namespace Go.Proofs.YtmgagalhpkieoaaGreatDoor
open Go.RowKit

attribute [local go_sem] Oper.semAt_some

section
variable {ρ : Operand → Value} {o : Oper} {x y : Operand} {w : World}
theorem q_stD {b k : Nat} {u : Value} {v : Addr} (ho : o.op = .store 28 x y) (hx : ρ x = .pointer (some ⟨b, k, none⟩)) (hy : ρ y = .pointer (some v)) (hc : w.cell? ⟨b, k, none⟩ = some u) (hf : w.frozen? ⟨b, k, none⟩ = false) :
    (execOp ρ o).run Tryz.prog w = .ok .skip (w.setCell ⟨b, k, none⟩ (.pointer (some v))) := by
  unfold execOp
  simp only [ho]
  go_simp
theorem q_stM {b k : Nat} {u : Value} {v : Addr} (ho : o.op = .store 31 x y) (hx : ρ x = .pointer (some ⟨b, k, none⟩)) (hy : ρ y = .pointer (some v)) (hc : w.cell? ⟨b, k, none⟩ = some u) (hf : w.frozen? ⟨b, k, none⟩ = false) :
    (execOp ρ o).run Tryz.prog w = .ok .skip (w.setCell ⟨b, k, none⟩ (.pointer (some v))) := by
  unfold execOp
  simp only [ho]
  go_simp
theorem q_ldPw {ad : Addr} {v : Value} (ho : o.op = .load 27 x) (hx : ρ x = .pointer (some ad)) (hc : w.cell? ad = some v) : (execOp ρ o).run Tryz.prog w = .ok (.value v) w := by
  unfold execOp; simp only [ho]; go_simp
end
def start (n : Nat) : Mi Dsk Sp := { d := fun _ => fresh n, p := ⟨true, -1⟩, s := freshS (n - 1) (n - 1), f := fun _ => 0, g := fun _ => 0, mv := [] }
theorem qnew_any (D0 D1 K : Nat) (w : World) : Calls Tryz.prog 40 #[.pointer (some ⟨D0, 0, none⟩), .pointer (some ⟨D1, 0, none⟩), .pointer (some ⟨K, 0, none⟩)] w fun e w' => e = .returned (.tuple #[.pointer (some ⟨w.heap.size, 0, none⟩), .int .i64 0]) ∧
    Blk w' w.heap.size [.pointer (some ⟨D0, 0, none⟩), .pointer (some ⟨D1, 0, none⟩), .int .i64 0, .int .i64 0, .int .i64 0, .int .i64 0, .pointer (some ⟨K, 0, none⟩), .slice none 0 0] 125 ∧ Below w.heap.size w w' := by
  go_enter Tryz.func40, Tryz.ntmps40
  go_wp2
  go_ret2
  exact ⟨rfl, Blk.new' _ _ _ _ _ rfl rfl, (Below.refl _ _).alloc (Nat.le_refl _) _⟩
structure Beg (w w' : World) (X : Nat) (P : Pl) (lab : Nat → Nat) (n : Nat) : Prop where
  mi : MiAt w' lab P (start n)
  pr : Blk w' X [.pointer (some ⟨P.Q, 0, none⟩), .pointer (some ⟨P.D 0, 0, none⟩), .pointer (some ⟨P.D 1, 0, none⟩), .pointer (some ⟨P.K, 0, none⟩), .pointer (some ⟨P.M, 0, none⟩)] 33
  lx : lab X = 0
  xw : w.heap.size ≤ X
  own : ∀ b, lab b ≠ 0 → lab b ≠ 8 → w.heap.size ≤ b
  bel : Below w.heap.size w w'
structure Bg (w w' : World) (X Q : Nat) (l : List Value) : Prop where
  pr : Blk w' X (.pointer (some ⟨Q, 0, none⟩) :: l) 33
  pw : PwAt w' Q ⟨true, -1⟩
  qx : Q < X
  wq : w.heap.size ≤ Q
  bel : Below w.heap.size w w'
structure DkN (w' : World) (D Q : Nat) (S : Nat → Prop) (n lo hi : Nat) : Prop where
  dk : DkAt w' D Q S (fresh n)
  lo : ∀ k, S k → lo ≤ k
  hi : ∀ k, S k → k < hi
theorem DkN.below {w w' : World} {D Q n lo hi : Nat} {S : Nat → Prop} (h : DkN w D Q S n lo hi) (hb : Below w.heap.size w w') : DkN w' D Q S n lo hi := ⟨h.dk.chg (Chg.of_below (F := fun _ => False) hb) (fun _ _ h => h), h.lo, h.hi⟩
theorem DkN.set {w : World} {D Q n lo hi X : Nat} {S : Nat → Prop} (h : DkN w D Q S n lo hi) (hx : X < lo) (j : Nat) (v : Value) : DkN (w.setCell ⟨X, j, none⟩ v) D Q S n lo hi :=
  ⟨h.dk.chg (F := fun b => b = X) (chg1 _ _ _ _) (fun k hk e => by have := h.lo k hk; omega), h.lo, h.hi⟩
theorem Bg.below {w w1 w' : World} {X Q : Nat} {l : List Value} (h : Bg w w1 X Q l) (hb : Below w1.heap.size w1 w') : Bg w w' X Q l :=
  ⟨h.pr.below hb h.pr.lt, h.pw.chg (F := fun _ => False) (Chg.of_below hb) (fun h => h), h.qx, h.wq, h.bel.trans (hb.mono h.bel.size)⟩
theorem Bg.set {w w1 : World} {X Q : Nat} {l : List Value} (h : Bg w w1 X Q l) (j : Nat) (v : Value) : Bg w (w1.setCell ⟨X, j + 1, none⟩ v) X Q (l.set j v) :=
  ⟨h.pr.set (j + 1) v, h.pw.chg (F := fun b => b = X) (chg1 _ _ _ _) (fun e => by have := h.qx; omega), h.qx, h.wq, h.bel.setCell (by show w.heap.size ≤ X; have := h.qx; have := h.wq; omega) v⟩
open Classical in
noncomputable def labB (S0 S1 : Nat → Prop) (Q M K : Nat) (B : Nat → Nat) : Nat → Nat := fun b => if S0 b then 1 else if S1 b then 2 else if b = Q then 3 else if b = M then 4 else if b = K then 5 else if Of B b then 6 else if b = 1 ∨ b = 0 then 8 else 0
theorem beg_of {w w' : World} {X Q D0 D1 K M n h0 h1 lo0 lo1 : Nat} {S0 S1 : Nat → Prop} {B : Nat → Nat} (hg : Bg w w' X Q [.pointer (some ⟨D0, 0, none⟩), .pointer (some ⟨D1, 0, none⟩), .pointer (some ⟨K, 0, none⟩), .pointer (some ⟨M, 0, none⟩)])
    (hd0 : DkN w' D0 Q S0 n lo0 h0) (hd1 : DkN w' D1 Q S1 n lo1 h1) (hs : SpAt w' K B (freshS (n - 1) (n - 1)))
    (hm : Blk w' M [.pointer (some ⟨D0, 0, none⟩), .pointer (some ⟨D1, 0, none⟩), .int .i64 0, .int .i64 0, .int .i64 0, .int .i64 0, .pointer (some ⟨K, 0, none⟩), .slice none 0 0] 125)
    (x0 : X < lo0) (x1 : h0 ≤ lo1) (x2 : h1 ≤ K) (hB : ∀ k, Of B k → K < k ∧ k < M) (hKM : K < M) (ht : Tab w) (hr : RTab w) :
    ∃ P lab, Beg w w' X P lab n ∧ P.Q = Q ∧ P.M = M := by
  have hX := hg.qx
  have hQ := hg.wq
  have g8 : 1 < w.heap.size := ht.lt
  have g9 : 0 < w.heap.size := hr.lt
  have d0 := hd0.lo _ hd0.dk.d.1
  have d0h := hd0.hi _ hd0.dk.d.1
  have d1 := hd1.lo _ hd1.dk.d.1
  have d1h := hd1.hi _ hd1.dk.d.1
  have L : ∀ b, labB S0 S1 Q M K B b = 1 → S0 b := fun b => by unfold labB; (repeat' split) <;> intro hh <;> first | omega | assumption
  have L2 : ∀ b, labB S0 S1 Q M K B b = 2 → S1 b := fun b => by unfold labB; (repeat' split) <;> intro hh <;> first | omega | assumption
  have n0 : ∀ b, ¬ (lo0 ≤ b ∧ b < h0) → ¬ S0 b := fun b hb hs => hb ⟨hd0.lo b hs, hd0.hi b hs⟩
  have n1 : ∀ b, ¬ (lo1 ≤ b ∧ b < h1) → ¬ S1 b := fun b hb hs => hb ⟨hd1.lo b hs, hd1.hi b hs⟩
  have nB : ∀ b, b ≤ K ∨ M ≤ b → ¬ Of B b := fun b hb hs => by have := hB b hs; omega
  have hlo : ∀ b, labB S0 S1 Q M K B b ≠ 0 → labB S0 S1 Q M K B b ≠ 8 → w.heap.size ≤ b := fun b => by
    unfold labB
    split
    · rename_i h; intro _ _; have := hd0.lo b h; omega
    split
    · rename_i h; intro _ _; have := hd1.lo b h; omega
    split
    · intro _ _; omega
    split
    · intro _ _; omega
    split
    · intro _ _; omega
    split
    · rename_i h; intro _ _; have := hB b h; omega
    split
    · intro _ h8; exact absurd rfl h8
    · intro h0; exact absurd rfl h0
  refine ⟨⟨M, fun k => if k = 0 then D0 else D1, Q, K, B⟩, labB S0 S1 Q M K B, ⟨⟨⟨.slice none 0 0, ?_, ?_, ?_⟩, ?_, hg.pw, hs, ?_, ?_, ?_, ?_, ?_, ?_, ?_, ?_, ?_⟩, ?_, ?_, ?_, hlo, hg.bel⟩, rfl, rfl⟩
  · exact hm
  · exact World.ownsRow_nil _ _ _ _
  · intro g hg; cases hg
  · intro k hk
    obtain rfl | rfl : k = 0 ∨ k = 1 := by omega
    · refine hd0.dk.mono (fun b hb => ?_) (fun hb => hd0.dk.nq (L _ hb)) (fun b hb => hd0.dk.lt b (L _ hb))
      show labB S0 S1 Q M K B b = 1
      unfold labB
      rw [if_pos hb]
    · refine hd1.dk.mono (fun b hb => ?_) (fun hb => hd1.dk.nq (L2 _ hb)) (fun b hb => hd1.dk.lt b (L2 _ hb))
      show labB S0 S1 Q M K B b = 2
      unfold labB
      rw [if_neg (n0 _ (by have := hd1.lo b hb; omega)), if_pos hb]
  · show labB S0 S1 Q M K B Q = 3
    unfold labB
    rw [if_neg (n0 _ (by omega)), if_neg (n1 _ (by omega)), if_pos rfl]
  · show labB S0 S1 Q M K B M = 4
    unfold labB
    rw [if_neg (n0 _ (by omega)), if_neg (n1 _ (by omega)), if_neg (by omega), if_pos rfl]
  · show labB S0 S1 Q M K B K = 5
    unfold labB
    rw [if_neg (n0 _ (by omega)), if_neg (n1 _ (by omega)), if_neg (by omega), if_neg (by omega), if_pos rfl]
  · intro b hb
    have := hB b hb
    show labB S0 S1 Q M K B b = 6
    unfold labB
    rw [if_neg (n0 _ (by omega)), if_neg (n1 _ (by omega)), if_neg (by omega), if_neg (by omega), if_neg (by omega), if_pos hb]
  · intro b hb
    by_cases h8 : labB S0 S1 Q M K B b = 8
    · have hs := hg.bel.size
      revert h8
      unfold labB
      (repeat' split) <;> intro hh <;> first | omega | exact absurd hh (by decide)
    · have h7 := hlo b hb h8
      revert hb
      have m1 := hm.lt
      have m2 := hg.pr.lt
      unfold labB
      split
      · rename_i h; intro _; exact hd0.dk.lt b h
      split
      · rename_i h; intro _; exact hd1.dk.lt b h
      split
      · intro _; omega
      split
      · intro _; omega
      split
      · intro _; omega
      split
      · rename_i h; intro _; have := hB b h; omega
      split
      · rename_i h; intro _; omega
      · intro h0; exact absurd rfl h0
  · intro q hq; cases hq
  · exact ht.below hg.bel (Nat.le_refl _)
  · exact hr.below hg.bel (Nat.le_refl _)
  · have e : ∀ b, b < w.heap.size → (b = 1 ∨ b = 0) → labB S0 S1 Q M K B b = 8 := fun b hb h8 => by
      unfold labB
      rw [if_neg (n0 _ (by omega)), if_neg (n1 _ (by omega)), if_neg (by omega), if_neg (by omega), if_neg (by omega), if_neg (nB _ (by omega)), if_pos h8]
    exact ⟨e _ g8 (.inl rfl), e _ g9 (.inr rfl)⟩
  · exact hg.pr
  · unfold labB
    rw [if_neg (n0 _ (by omega)), if_neg (n1 _ (by omega)), if_neg (by omega), if_neg (by omega), if_neg (by omega), if_neg (nB _ (by omega)), if_neg (by omega)]
  · omega
def MNew (w' : World) (M D0 D1 K : Nat) : Prop := Blk w' M [.pointer (some ⟨D0, 0, none⟩), .pointer (some ⟨D1, 0, none⟩), .int .i64 0, .int .i64 0, .int .i64 0, .int .i64 0, .pointer (some ⟨K, 0, none⟩), .slice none 0 0] 125
set_option maxRecDepth 100000 in
set_option maxHeartbeats 4000000 in
theorem begun_any (n : Nat) (n1 : 1 ≤ n) (n2 : n ≤ 4096) (w : World) (ht : Tab w) (hr : RTab w) : Calls Tryz.prog 7 #[.int .i64 (n : Int)] w fun e w' => ∃ X P lab, e = .returned (.pointer (some ⟨X, 0, none⟩)) ∧ Beg w w' X P lab n := by
  have HN : Hid (1 ≤ n ∧ n ≤ 4096) := Lib.hid ⟨n1, n2⟩
  have HT := Lib.hid ht; have HR := Lib.hid hr
  clear n1 n2 ht hr
  go_enter Tryz.func7, Tryz.ntmps7
  go_wp2_with fail
  refine (on_any _).mono ?_
  rintro e W0 ⟨Q, rfl, hq1, hq2, hpw, hb0⟩
  have HB0 : Hid (Bg w (W0.alloc (.cells #[.pointer (some ⟨Q, 0, none⟩), .pointer none, .pointer none, .pointer none, .pointer none] 33)) W0.heap.size Q [.pointer none, .pointer none, .pointer none, .pointer none]) :=
    Lib.hid ⟨Blk.new' _ _ _ _ _ rfl rfl, hpw.chg (F := fun _ => False) (Chg.of_below ((Below.refl _ _).alloc (Nat.le_refl _) _)) (fun h => h), hq2, hq1, hb0.alloc (by have := hb0.size; omega) _⟩
  have HX0 : Hid (W0.heap.size < (W0.alloc (.cells #[.pointer (some ⟨Q, 0, none⟩), .pointer none, .pointer none, .pointer none, .pointer none] 33)).drew.heap.size) := Lib.hid (by simp)
  clear hq1 hq2 hpw hb0
  go_upto_region 2 with fail
  generalize (W0.alloc (.cells #[.pointer (some ⟨Q, 0, none⟩), .pointer none, .pointer none, .pointer none, .pointer none] 33)) = W at HB0 HX0 ⊢
  generalize W0.heap.size = X at HB0 HX0 ⊢
  have HB := Lib.hid (HB0.out.below (Below.refl _ _).drew)
  clear HB0
  refine gS (.take 0 (.take 1 (.take 2 (.take 3 (.take 4 (.take 5 (.take 10 (.take 11 (.step 6 (.take 7 (.take 8 (.take 9 (.take 12 (.step 13 (.nil))))))))))))))) (fun Y => Y.cell? ⟨X, 0, none⟩ = some (.pointer (some ⟨Q, 0, none⟩))) (HB.out.pr.cell rfl) ?_
  refine gT (.pointer (some ⟨X, 0, none⟩)) ?_; try simp only [pS]
  refine gT (.int .i64 (n : Int)) ?_; try simp only [pS]
  refine gT (.pointer (some ⟨X, 0, none⟩)) ?_; try simp only [pS]
  refine wpG_take _ (.pointer (some ⟨X, 0, none⟩)) rfl (by rfl) (fun X hX => ex_nc rfl rfl) ?_; try simp only [pS]
  refine gT (.pointer (some ⟨X, 0, none⟩)) ?_; try simp only [pS]
  refine wpG_take _ (.pointer (some ⟨Q, 0, none⟩)) rfl (by rfl) (fun X hX => q_ldPw rfl rfl (hX)) ?_; try simp only [pS]
  refine wpG_take _ (.pointer (some ⟨X, 0, none⟩)) rfl (by rfl) (fun X hX => ex_nc rfl rfl) ?_; try simp only [pS]
  refine gT (.pointer (some ⟨X, 1, none⟩)) ?_; try simp only [pS]
  refine wpG_call _ rfl (by rfl) 38 #[.int .i64 (n : Int), .pointer (some ⟨Q, 0, none⟩)] (fun _ => by go_simp) (fun u w' => ∃ D S, u = .tuple #[.pointer (some ⟨D, 0, none⟩), .int .i64 0] ∧ DkN w' D Q S n W.drew.heap.size w'.heap.size ∧ Below W.drew.heap.size W.drew w')
    ((new_ok n Q _ rfl W.drew HB.out.pw (by have := HN.out; omega) (by have := HN.out; omega)).mono fun e w' hh => by
      obtain ⟨D, S, e1, h1, h2, h3⟩ := hh
      exact ⟨_, e1, (HB.out.below h3).pr.cell rfl, D, S, rfl, ⟨h1, h2, h1.lt⟩, h3⟩) ?_
  rintro u W1 hs1 ⟨D, S, rfl, hd, hbl⟩
  refine ⟨_, fun _ h => h, hs1, ?_⟩; try simp only [pS]
  refine gT (.tuple #[.pointer (some ⟨D, 0, none⟩), .int .i64 0]) ?_; try simp only [pS]
  refine gT (.pointer (some ⟨D, 0, none⟩)) ?_; try simp only [pS]
  refine gT (.int .i64 0) ?_; try simp only [pS]
  refine gT (.pointer (some ⟨X, 1, none⟩)) ?_; try simp only [pS]
  have HB2 := Lib.hid (HB.out.below hbl)
  have HB3 := Lib.hid (HB2.out.set 0 (.pointer (some ⟨D, 0, none⟩)))
  refine wpG_st _ rfl (by rfl) _ (q_stD rfl rfl rfl (HB2.out.pr.cell rfl) (HB2.out.pr.free _)) _ (HB3.out.pr.cell rfl) (HB3.out.pr.cell rfl) (fun _ h => h) ?_
  refine wpG_nil ?_
  have HD := Lib.hid (hd.set (X := X) HX0.out 1 (.pointer (some ⟨D, 0, none⟩)))
  have HX1 : Hid (W1.heap.size ≤ (W1.setCell ⟨X, 1, none⟩ (.pointer (some ⟨D, 0, none⟩))).drew.heap.size) := Lib.hid (by simp)
  generalize W.drew.heap.size = lo0 at HX0 HD
  generalize W1.heap.size = h0 at HX1 HD
  obtain ⟨W2, hW2⟩ : ∃ W2, W1.setCell ⟨X, 1, none⟩ (.pointer (some ⟨D, 0, none⟩)) = W2 := ⟨_, rfl⟩
  rw [show (0 : Nat) + 1 = 1 from rfl] at HB3
  rw [hW2] at HB3 HD HX1 ⊢
  clear hW2 HB HB2 hd hs1 hbl W1 W
  have HD0 := HD; clear HD
  have HB0 := HB3; clear HB3
  revert HX0 HX1 HD0 HB0
  generalize D = D0
  generalize S = S0
  generalize W2 = W
  intro HX0 HX1 HD0 HB0
  go_upto_region 3 with fail
  have HB := Lib.hid (HB0.out.below (Below.refl _ _).drew)
  have HDz := Lib.hid (HD0.out.below (Below.refl _ _).drew)
  clear HB0 HD0
  refine gS (.take 0 (.take 1 (.take 2 (.take 3 (.take 4 (.take 5 (.take 10 (.take 11 (.step 6 (.take 7 (.take 8 (.take 9 (.take 12 (.step 13 (.nil))))))))))))))) (fun Y => Y.cell? ⟨X, 0, none⟩ = some (.pointer (some ⟨Q, 0, none⟩))) (HB.out.pr.cell rfl) ?_
  refine gT (.pointer (some ⟨X, 0, none⟩)) ?_; try simp only [pS]
  refine gT (.int .i64 (n : Int)) ?_; try simp only [pS]
  refine gT (.pointer (some ⟨X, 0, none⟩)) ?_; try simp only [pS]
  refine wpG_take _ (.pointer (some ⟨X, 0, none⟩)) rfl (by rfl) (fun X hX => ex_nc rfl rfl) ?_; try simp only [pS]
  refine gT (.pointer (some ⟨X, 0, none⟩)) ?_; try simp only [pS]
  refine wpG_take _ (.pointer (some ⟨Q, 0, none⟩)) rfl (by rfl) (fun X hX => q_ldPw rfl rfl (hX)) ?_; try simp only [pS]
  refine wpG_take _ (.pointer (some ⟨X, 0, none⟩)) rfl (by rfl) (fun X hX => ex_nc rfl rfl) ?_; try simp only [pS]
  refine gT (.pointer (some ⟨X, 1, none⟩)) ?_; try simp only [pS]
  refine wpG_call _ rfl (by rfl) 38 #[.int .i64 (n : Int), .pointer (some ⟨Q, 0, none⟩)] (fun _ => by go_simp) (fun u w' => ∃ D S, u = .tuple #[.pointer (some ⟨D, 0, none⟩), .int .i64 0] ∧ DkN w' D Q S n W.drew.heap.size w'.heap.size ∧ Below W.drew.heap.size W.drew w')
    ((new_ok n Q _ rfl W.drew HB.out.pw (by have := HN.out; omega) (by have := HN.out; omega)).mono fun e w' hh => by
      obtain ⟨D, S, e1, h1, h2, h3⟩ := hh
      exact ⟨_, e1, (HB.out.below h3).pr.cell rfl, D, S, rfl, ⟨h1, h2, h1.lt⟩, h3⟩) ?_
  rintro u W1 hs1 ⟨D, S, rfl, hd, hbl⟩
  refine ⟨_, fun _ h => h, hs1, ?_⟩; try simp only [pS]
  refine gT (.tuple #[.pointer (some ⟨D, 0, none⟩), .int .i64 0]) ?_; try simp only [pS]
  refine gT (.pointer (some ⟨D, 0, none⟩)) ?_; try simp only [pS]
  refine gT (.int .i64 0) ?_; try simp only [pS]
  refine gT (.pointer (some ⟨X, 2, none⟩)) ?_; try simp only [pS]
  have HB2 := Lib.hid (HB.out.below hbl)
  have HB3 := Lib.hid (HB2.out.set 1 (.pointer (some ⟨D, 0, none⟩)))
  refine wpG_st _ rfl (by rfl) _ (q_stD rfl rfl rfl (HB2.out.pr.cell rfl) (HB2.out.pr.free _)) _ (HB3.out.pr.cell rfl) (HB3.out.pr.cell rfl) (fun _ h => h) ?_
  refine wpG_nil ?_
  have HXa : Hid (X < W.drew.heap.size) := Lib.hid HB.out.pr.lt
  have HD := Lib.hid (hd.set (X := X) HXa.out 2 (.pointer (some ⟨D, 0, none⟩)))
  have HDa := Lib.hid ((HDz.out.below hbl).set (X := X) HX0.out 2 (.pointer (some ⟨D, 0, none⟩)))
  obtain ⟨W2, hW2⟩ : ∃ W2, W1.setCell ⟨X, 2, none⟩ (.pointer (some ⟨D, 0, none⟩)) = W2 := ⟨_, rfl⟩
  have HX2 : Hid (W1.heap.size ≤ W2.heap.size) := Lib.hid (by rw [← hW2]; simp)
  generalize W.drew.heap.size = lo1 at HX1 HD
  generalize W1.heap.size = h1 at HX2 HD
  rw [show (1 : Nat) + 1 = 2 from rfl] at HB3
  rw [hW2] at HB3 HD HDa ⊢
  clear hW2 HB HB2 hd hs1 hbl HDz HXa W1 W
  have HD1 := HD; clear HD
  have HB := HB3; clear HB3
  have HD0 := HDa; clear HDa
  revert HX0 HX1 HX2 HD0 HD1 HB
  generalize D = D1
  generalize S = S1
  generalize W2 = W
  intro HX0 HX1 HX2 HD1 HB HD0
  have hn1 := HN.out
  go_wp2_with fail
  refine (k_new_any (n : Int) (n : Int) W).mono ?_
  rintro e W1 ⟨hb1, hno, hy⟩
  obtain ⟨B, rfl, hsp, hB⟩ := hy ⟨⟨by omega, by omega⟩, ⟨by omega, by omega⟩⟩
  have hnn : ((n : Int) - 1).toNat = n - 1 := by omega
  rw [hnn] at hsp
  have HB1 := Lib.hid (HB.out.below hb1)
  have HD0a := Lib.hid (HD0.out.below hb1)
  have HD1a := Lib.hid (HD1.out.below hb1)
  have HK : Hid (SpAt W1 W.heap.size B (freshS (n - 1) (n - 1)) ∧ (∀ k, Of B k → W.heap.size < k ∧ k < W1.heap.size) ∧ W.heap.size < W1.heap.size) := Lib.hid ⟨hsp, fun k hk => ⟨by
    have h0 := hB k hk
    have h2 : k ≠ W.heap.size := fun e => by
      have hb := hsp.blk
      rw [← e] at hb
      rcases hk with e1 | e1
      · rw [e1] at hb; exact absurd (hb.same (hsp.ax 0 (by omega))) (by decide)
      · rw [e1] at hb; exact absurd (hb.same (hsp.ax 1 (by omega))) (by decide)
    omega, by
    rcases hk with e | e
    · rw [e]; exact (hsp.ax 0 (by omega)).lt
    · rw [e]; exact (hsp.ax 1 (by omega)).lt⟩, hsp.blk.lt⟩
  have HX3 : Hid (h1 ≤ W.heap.size ∧ X < W.heap.size) := Lib.hid ⟨HX2.out, HB.out.pr.lt⟩
  clear hb1 hno hy hB hsp hnn hn1 HX2 HB HD0 HD1
  generalize W.heap.size = K at HK HX3 ⊢
  clear W
  have HBa := HB1; clear HB1
  have HDa := HD0a; clear HD0a
  have HDb := HD1a; clear HD1a
  have hc2 := HBa.out.pr.cell (j := 3) rfl
  have hf2 := HBa.out.pr.free 3
  have HB1 := Lib.hid (HBa.out.set 2 (.pointer (some ⟨K, 0, none⟩)))
  have HXl : Hid (X < W1.heap.size) := Lib.hid HBa.out.pr.lt
  have HXr : Hid (Below W1.heap.size W1 ((W1.setCell ⟨X, 3, none⟩ (.pointer (some ⟨K, 0, none⟩)))) ∨ True) := Lib.hid (.inr trivial)
  have HDc := Lib.hid (HDa.out.set (X := X) HX0.out 3 (.pointer (some ⟨K, 0, none⟩)))
  have HDd := Lib.hid (HDb.out.set (X := X) (by have := HX0.out; have := HX1.out; have := HDa.out.lo _ HDa.out.dk.d.1; have := HDa.out.hi _ HDa.out.dk.d.1; omega) 3 (.pointer (some ⟨K, 0, none⟩)))
  have HKa : Hid (SpAt (W1.setCell ⟨X, 3, none⟩ (.pointer (some ⟨K, 0, none⟩))) K B (freshS (n - 1) (n - 1))) := Lib.hid (HK.out.1.chg (F := fun b => b = X) (chg1 _ _ _ _) (by have := HX3.out; omega) (fun d hd e => by have h1 := HK.out.2.1 _ (of_at B hd); have := HX3.out; omega))
  have HKs : Hid ((∀ k, Of B k → K < k ∧ k < (W1.setCell ⟨X, 3, none⟩ (.pointer (some ⟨K, 0, none⟩))).heap.size) ∧ K < (W1.setCell ⟨X, 3, none⟩ (.pointer (some ⟨K, 0, none⟩))).heap.size) := Lib.hid (by simpa using HK.out.2)
  clear HK HDa HDb HXr HXl
  go_upto_region 5 with fail
  clear hc2 hf2 HBa
  rw [show (2 : Nat) + 1 = 3 from rfl] at HB1
  generalize W1.setCell ⟨X, 3, none⟩ (.pointer (some ⟨K, 0, none⟩)) = W at HB1 HDc HDd HKa HKs ⊢
  have HB := Lib.hid (HB1.out.below (Below.refl _ _).drew)
  have HDa := Lib.hid (HDc.out.below (Below.refl _ _).drew)
  have HDb := Lib.hid (HDd.out.below (Below.refl _ _).drew)
  have HK := Lib.hid (HKa.out.below (Below.refl _ _).drew)
  have HKr : Hid ((∀ k, Of B k → K < k ∧ k < W.drew.heap.size) ∧ K < W.drew.heap.size) := Lib.hid HKs.out
  clear HB1 HDc HDd HKa HKs
  refine gS (.take 0 (.take 1 (.take 2 (.take 3 (.take 4 (.take 5 (.take 6 (.take 7 (.take 8 (.take 9 (.take 10 (.take 11 (.take 12 (.take 13 (.take 14 (.step 15 (.take 16 (.take 17 (.take 18 (.take 19 (.take 20 (.step 21 (.nil))))))))))))))))))))))) (fun Y => Y.cell? ⟨X, 1, none⟩ = some (.pointer (some ⟨D0, 0, none⟩)) ∧ Y.cell? ⟨X, 2, none⟩ = some (.pointer (some ⟨D1, 0, none⟩)) ∧ Y.cell? ⟨X, 3, none⟩ = some (.pointer (some ⟨K, 0, none⟩))) ⟨HB.out.pr.cell rfl, HB.out.pr.cell rfl, HB.out.pr.cell rfl⟩ ?_
  refine gT (.pointer (some ⟨X, 0, none⟩)) ?_; try simp only [pS]
  refine gT (.pointer (some ⟨X, 0, none⟩)) ?_; try simp only [pS]
  refine wpG_take _ (.pointer (some ⟨X, 0, none⟩)) rfl (by rfl) (fun X hX => ex_nc rfl rfl) ?_; try simp only [pS]
  refine gT (.pointer (some ⟨X, 1, none⟩)) ?_; try simp only [pS]
  refine gT (.pointer (some ⟨X, 1, none⟩)) ?_; try simp only [pS]
  refine wpG_take _ (.pointer (some ⟨D0, 0, none⟩)) rfl (by rfl) (fun X hX => q_ldD rfl rfl (hX.1)) ?_; try simp only [pS]
  refine gT (.pointer (some ⟨X, 0, none⟩)) ?_; try simp only [pS]
  refine wpG_take _ (.pointer (some ⟨X, 0, none⟩)) rfl (by rfl) (fun X hX => ex_nc rfl rfl) ?_; try simp only [pS]
  refine gT (.pointer (some ⟨X, 1, none⟩)) ?_; try simp only [pS]
  refine gT (.pointer (some ⟨X, 2, none⟩)) ?_; try simp only [pS]
  refine wpG_take _ (.pointer (some ⟨D1, 0, none⟩)) rfl (by rfl) (fun X hX => q_ldD rfl rfl (hX.2.1)) ?_; try simp only [pS]
  refine gT (.pointer (some ⟨X, 0, none⟩)) ?_; try simp only [pS]
  refine wpG_take _ (.pointer (some ⟨X, 0, none⟩)) rfl (by rfl) (fun X hX => ex_nc rfl rfl) ?_; try simp only [pS]
  refine gT (.pointer (some ⟨X, 3, none⟩)) ?_; try simp only [pS]
  refine wpG_take _ (.pointer (some ⟨K, 0, none⟩)) rfl (by rfl) (fun X hX => q_ldK rfl rfl (hX.2.2)) ?_; try simp only [pS]
  refine wpG_call _ rfl (by rfl) 40 #[.pointer (some ⟨D0, 0, none⟩), .pointer (some ⟨D1, 0, none⟩), .pointer (some ⟨K, 0, none⟩)] (fun _ => by go_simp) (fun u w' => u = .tuple #[.pointer (some ⟨W.drew.heap.size, 0, none⟩), .int .i64 0] ∧ MNew w' W.drew.heap.size D0 D1 K ∧ Below W.drew.heap.size W.drew w')
    ((qnew_any D0 D1 K W.drew).mono fun e w' hh => by
      obtain ⟨e1, h1, h3⟩ := hh
      have hp := (HB.out.below h3).pr
      exact ⟨_, e1, ⟨hp.cell rfl, hp.cell rfl, hp.cell rfl⟩, rfl, h1, h3⟩) ?_
  rintro u W1 hs1 ⟨rfl, hm1, hbl⟩
  refine ⟨_, fun _ h => h, hs1, ?_⟩; try simp only [pS]
  refine gT (.tuple #[.pointer (some ⟨W.drew.heap.size, 0, none⟩), .int .i64 0]) ?_; try simp only [pS]
  refine gT (.pointer (some ⟨W.drew.heap.size, 0, none⟩)) ?_; try simp only [pS]
  refine gT (.int .i64 0) ?_; try simp only [pS]
  refine wpG_take _ (.pointer (some ⟨X, 0, none⟩)) rfl (by rfl) (fun X hX => ex_nc rfl rfl) ?_; try simp only [pS]
  refine gT (.pointer (some ⟨X, 4, none⟩)) ?_; try simp only [pS]
  have HB2 := Lib.hid (HB.out.below hbl)
  have HB3 := Lib.hid (HB2.out.set 3 (.pointer (some ⟨W.drew.heap.size, 0, none⟩)))
  refine wpG_st _ rfl (by rfl) _ (q_stM rfl rfl rfl (HB2.out.pr.cell rfl) (HB2.out.pr.free _)) _ ⟨HB3.out.pr.cell rfl, HB3.out.pr.cell rfl, HB3.out.pr.cell rfl⟩ ⟨HB3.out.pr.cell rfl, HB3.out.pr.cell rfl, HB3.out.pr.cell rfl⟩ (fun _ h => h) ?_
  refine wpG_nil ?_
  rw [show (3 : Nat) + 1 = 4 from rfl] at HB3
  have HDc := Lib.hid ((HDa.out.below hbl).set (X := X) HX0.out 4 (.pointer (some ⟨W.drew.heap.size, 0, none⟩)))
  have HDd := Lib.hid ((HDb.out.below hbl).set (X := X) (by have := HX0.out; have := HX1.out; have := HDa.out.lo _ HDa.out.dk.d.1; have := HDa.out.hi _ HDa.out.dk.d.1; omega) 4 (.pointer (some ⟨W.drew.heap.size, 0, none⟩)))
  have HKa : Hid (SpAt (W1.setCell ⟨X, 4, none⟩ (.pointer (some ⟨W.drew.heap.size, 0, none⟩))) K B (freshS (n - 1) (n - 1))) := Lib.hid ((HK.out.below hbl).chg (F := fun b => b = X) (chg1 _ _ _ _) (by have := HX3.out; omega) (fun d hd e => by have h1 := HKr.out.1 _ (of_at B hd); have := HX3.out; omega))
  have HMn : Hid (MNew (W1.setCell ⟨X, 4, none⟩ (.pointer (some ⟨W.drew.heap.size, 0, none⟩))) W.drew.heap.size D0 D1 K) := Lib.hid (by
    unfold MNew at hm1 ⊢
    refine hm1.chg (F := fun b => b = X) (chg1 _ _ _ _) (fun e => ?_)
    have := HKr.out.2; have := HX3.out; omega)
  obtain ⟨P, lab, hbeg, _, _⟩ := beg_of HB3.out HDc.out HDd.out HKa.out HMn.out HX0.out HX1.out HX3.out.1 HKr.out.1 HKr.out.2 HT.out HR.out
  have HBG := Lib.hid hbeg
  clear hbeg
  go_wp2_with fail
  go_ret
  exact ⟨_, P, lab, rfl, HBG.out⟩
end Go.Proofs.YtmgagalhpkieoaaGreatDoor
/- The document's bytes of a pointer. -/
namespace Go.Proofs.YtmgagalhpkieoaaGreatDoor
open Go.RowKit

theorem take_oneB {l : Bs} {k : Nat} {x : BitVec 8} (h : l[k]? = some x) : l.take (k + 1) = l.take k ++ [x] := by
  obtain ⟨h2, h3⟩ := List.getElem?_eq_some_iff.1 h
  rw [List.take_succ_eq_append_getElem h2, h3]
def QbRel (p : Pt) (w : World) (v : Value) (l : Bs) (wr : World) : Prop := OwnB wr (w.heap.size + 1) v l ∧ Below w.heap.size w wr ∧ Blk wr w.heap.size (pcells p) 58
theorem QbRel.next {p : Pt} {w wr w' : World} {v v' : Value} {l l' : Bs} (h : QbRel p w v l wr) (ho : OwnB w' (w.heap.size + 1) v' l') (hb : Below (w.heap.size + 1) wr w') : QbRel p w v' l' w' :=
  have h1 := h.2.2.lt
  ⟨ho, h.2.1.trans (hb.mono (by omega)), h.2.2.below hb (by omega)⟩
theorem QbRel.num {p : Pt} {w wr w4 : World} {v u : Value} {l : Bs} {n k : Nat} (h : QbRel p w v l wr) (hl : l.length ≤ 100) (hk : k ≤ 8) (ho4 : OwnB w4 wr.heap.size u (leb n k)) (hb4 : Below wr.heap.size wr w4) :
    ∃ sp n' c v5 w5, (∃ sp4 cap4, u = .slice sp4 k cap4) ∧ v5 = .slice sp n' c ∧ (∀ ty, (Builtin.append_ #[59, 59] ty #[v, u]).run Tryz.prog w4 = .ok v5 w5) ∧ QbRel p w v5 (l ++ leb n k) w5 := by
  obtain ⟨sp4, cap4, e4, q1, q2, q3, q4, q5⟩ := OwnB.form ho4
  rw [leb_length] at e4
  subst e4
  have h1 := h.2.2.lt
  obtain ⟨v5, w5, hr5, ho5, hb5⟩ := ownB_src (m := leb n k) (h.1.below hb4 (Nat.le_refl _)) (by have := hb4.size; omega) (by rw [leb_length]; omega) q3 q4 59
  rw [leb_length] at hr5
  obtain ⟨sp, c, e, _⟩ := OwnB.form ho5
  exact ⟨sp, _, c, v5, w5, ⟨_, _, rfl⟩, e, fun _ => hr5, h.next ho5 ((hb4.mono (by omega)).trans hb5)⟩
theorem qb_start {p : Pt} (hp : p.OK) (w : World) : QbRel p w (.slice (some ⟨w.heap.size + 1, 0, none⟩) 2 2) (leb p.kind 1 ++ leb p.level 1) ((w.alloc (.cells (pcells p).toArray 58)).alloc (.cells #[.int .u8 (p.kind : Int), .int .u8 (p.level : Int)] 5)) := by
  have h : Blk ((w.alloc (.cells (pcells p).toArray 58)).alloc (.cells #[.int .u8 (p.kind : Int), .int .u8 (p.level : Int)] 5)) (w.heap.size + 1) [V8 (lb p.kind 0), V8 (lb p.level 0)] 5 := Blk.new' _ _ _ _ _ (by simp) (by rw [u8_cell hp.kind, u8_cell hp.level])
  have ho := h.owns (base := w.heap.size + 1) (n := 2) (Nat.le_refl _) (Nat.le_refl _) (by unfold maxLen; simp)
  exact ⟨ho, ((Below.refl _ _).alloc (Nat.le_refl _) _).alloc (by simp) _, (Blk.new _ _ _).alloc _⟩
set_option maxRecDepth 100000 in
set_option maxHeartbeats 8000000 in
theorem qbytes_any (p : Pt) (hp : p.OK) (w : World) : Calls Tryz.prog 81 #[.agg (pcells p).toArray] w fun e w' => ∃ v, e = .returned v ∧ OwnB w' w.heap.size v (padB p) ∧ Below w.heap.size w w' := by
  have HP := Lib.hid hp
  have HG0 : Hid (Blk (w.alloc (.cells (pcells p).toArray 58)) w.heap.size (pcells p) 58) := Lib.hid (Blk.new _ _ _)
  have cK := HG0.out.cell (j := 0) rfl
  have cL := HG0.out.cell (j := 1) rfl
  have b1 := hp.obj; have b2 := hp.off; have b3 := hp.birth
  have HB1 := Lib.hid b1; have HB2 := Lib.hid b2; have HB3 := Lib.hid b3
  clear hp b1 b2 b3
  go_enter Tryz.func81, Tryz.ntmps81
  go_upto_region 2 with fail
  refine (fun (k : ∀ W1, QbRel p w (.slice (some ⟨w.heap.size + 1, 0, none⟩) 2 2) (leb p.kind 1 ++ leb p.level 1) W1 → Code.wp _ _ _ _ W1) => k _ (qb_start HP.out w)) ?_
  intro W1 hR1
  have HR1 := Lib.hid hR1
  clear cK cL HG0 hR1
  have c1 : W1.cell? ⟨w.heap.size, 2, none⟩ = some (.int .u16 (p.obj : Int)) := HR1.out.2.2.cell rfl
  have e1 := u64_in p.obj (by have := HB1.out; omega)
  go_wp2_with fail
  refine (wNum_any p.obj 2 W1 (by omega) (by have := HB1.out; omega)).mono ?_
  rintro e w2 ⟨u2, rfl, ho2, hb2⟩
  obtain ⟨sp2, n2, k2, v3, w3, ⟨_, _, rfl⟩, rfl, hr3, hq3⟩ := HR1.out.num (by simp [leb_length]) (by omega) ho2 hb2
  have HA2 := Lib.hid hr3; have HR2 := Lib.hid hq3
  clear ho2 hb2 hr3 hq3 HR1 c1 e1
  have c2 : w3.cell? ⟨w.heap.size, 3, none⟩ = some (.int .u32 (p.off : Int)) := HR2.out.2.2.cell rfl
  have e2 := u64_in p.off (by have := HB2.out; omega)
  go_wp2_with (first | (at_builtin; refine wpL_val rfl (ex_appB rfl rfl rfl (HA2.out _)) ?_) | fail)
  refine (wNum_any p.off 4 w3 (by omega) (by have := HB2.out; omega)).mono ?_
  rintro e w4 ⟨u4, rfl, ho4, hb4⟩
  obtain ⟨sp4, n4, k4, v5, w5, ⟨_, _, rfl⟩, rfl, hr5, hq5⟩ := HR2.out.num (by simp [leb_length]) (by omega) ho4 hb4
  have HA3 := Lib.hid hr5; have HR3 := Lib.hid hq5
  clear ho4 hb4 hr5 hq5 HR2 HA2 c2 e2
  have c3 : w5.cell? ⟨w.heap.size, 4, none⟩ = some (.int .u64 (p.birth : Int)) := HR3.out.2.2.cell rfl
  go_wp2_with (first | (at_builtin; refine wpL_val rfl (ex_appB rfl rfl rfl (HA3.out _)) ?_) | fail)
  refine (wNum_any p.birth 8 w5 (by omega) HB3.out).mono ?_
  rintro e w6 ⟨u6, rfl, ho6, hb6⟩
  obtain ⟨sp6, n6, k6, v7, w7, ⟨_, _, rfl⟩, rfl, hr7, hq7⟩ := HR3.out.num (by simp [leb_length]) (by omega) ho6 hb6
  have HA4 := Lib.hid hr7
  have HR4 : Hid (QbRel p w (.slice sp6 n6 k6) (tagB p ++ p.hash.take 0) w7) := Lib.hid (by simpa [tagB] using hq7)
  clear ho6 hb6 hr7 hq7 HR3 HA3 c3
  go_wp2_with (first | (at_builtin; refine wpL_val rfl (ex_appB rfl rfl rfl (HA4.out _)) ?_) | fail)
  go_loopw [3, 4] (fun v i wr => ∃ k : Nat, k ≤ 32 ∧ i = .int .i64 (k : Int) ∧ QbRel p w v (tagB p ++ p.hash.take k) wr) (fun _ i _ => 32 - (intOf i).toNat)
  case atStart => exact ⟨0, by omega, rfl, HR4.out⟩
  case round =>
    clear HR4 HA4
    obtain ⟨k, hk, rfl, hR⟩ := hrel
    have HR := Lib.hid hR
    obtain ⟨sp, cap, rfl, -⟩ := OwnB.form hR.1
    have hgl := hR.2.2
    have hgs := hgl.lt
    have wk1 := IntWalk.i64_in ((k : Int) + 1) (by omega)
    clear hR
    by_cases hlt : k < 32
    · obtain ⟨x, hx⟩ : ∃ x, p.hash[k]? = some x := ⟨_, List.getElem?_eq_getElem (by have := HP.out.hash; omega)⟩
      have cx := cell_hash hgl hx
      have hz : Below wr.heap.size wr (wr.alloc (.cells #[V8 x] 5)) := (Below.refl _ _).alloc (Nat.le_refl _) _
      obtain ⟨v3, w3, hr3, ho3, hb3⟩ := ownB_app (m := [x]) (HR.out.1.below hz (Nat.le_refl _)) (by have := hz.size; omega) (by simp [tagB_length]; omega) (g := wr.heap.size) (off := 0) (c := 1) (rng_all (Blk.new wr [V8 x] 5)) 59
      obtain ⟨sp3, n3, cap3, rfl⟩ : ∃ sp n c, v3 = .slice sp n c := by
        obtain ⟨sp, c, e, _⟩ := OwnB.form ho3
        exact ⟨sp, _, c, e⟩
      have HR3 := Lib.hid hr3
      have HN := Lib.hid (show QbRel p w (.slice sp3 n3 cap3) (tagB p ++ p.hash.take (k + 1)) w3 from HR.out.next (by rw [take_oneB hx, ← List.append_assoc]; exact ho3) ((hz.mono (by omega)).trans hb3))
      clear hx hgl hr3 ho3 hb3 hz HR
      go_wp2_with (first | (at_builtin; refine wpL_val rfl (ex_appB rfl rfl rfl HR3.out) ?_) | fail)
      go_roundw
      case rel => exact ⟨k + 1, by omega, by go_num, HN.out⟩
      case measure => simp [intOf]; omega
    · have em : (k : Int) = 32 := by omega
      rw [em]
      obtain rfl : k = 32 := by omega
      clear em
      have e32 : p.hash.take 32 = p.hash := List.take_of_length_le (by have := HP.out.hash; omega)
      have HR2 : Hid (QbRel p w (.slice sp (tagB p ++ p.hash.take 32).length cap) (tagB p ++ p.hash ++ tailB (p.ats.take 0)) wr) := Lib.hid (by have := HR.out; rw [e32] at this ⊢; simpa [tailB] using this)
      clear hlt hk hgl HR e32
      go_wp2_with fail
      go_loopw [3, 5] (fun v i wr => ∃ k : Nat, k ≤ 4 ∧ i = .int .i64 (k : Int) ∧ QbRel p w v (tagB p ++ p.hash ++ tailB (p.ats.take k)) wr) (fun _ i _ => 4 - (intOf i).toNat)
      case atStart => exact ⟨0, by omega, rfl, HR2.out⟩
      case round =>
        clear HR2
        obtain ⟨k, hk, rfl, hR⟩ := hrel
        have HR := Lib.hid hR
        obtain ⟨sp, cap, e, -⟩ := OwnB.form hR.1
        have hlen := body_len HP.out hk
        have HLN := Lib.hid hlen
        rw [hlen] at e
        subst e
        have hgl := hR.2.2
        have hgs := hgl.lt
        have wk1 := IntWalk.i64_in ((k : Int) + 1) (by omega)
        clear hR hlen
        by_cases hlt : k < 4
        · obtain ⟨x, hx⟩ : ∃ x, p.ats[k]? = some x := ⟨_, List.getElem?_eq_getElem (by have := HP.out.len; omega)⟩
          have cx := cell_ats hgl HP.out.hash hx
          have hxl : x < 65536 := HP.out.ats x (List.mem_of_getElem? hx)
          have hw64 : IntKind.u64.wrap (x : Int) = (x : Int) := u64_in x (by omega)
          have HX := Lib.hid hx
          have HXL := Lib.hid hxl
          clear hx hgl hxl
          go_wp2_with fail
          refine (wNum_any x 2 wr (by omega) (by have := HXL.out; omega)).mono ?_
          rintro e w4 ⟨u, rfl, ho4, hb4⟩
          obtain ⟨sp5, n5, cap5, v5, w5, ⟨_, _, rfl⟩, rfl, hr5, hq5⟩ := HR.out.num (by rw [HLN.out]; omega) (by omega) ho4 hb4
          have HR5 := Lib.hid hr5
          have HN := Lib.hid (show QbRel p w (.slice sp5 n5 cap5) (tagB p ++ p.hash ++ tailB (p.ats.take (k + 1))) w5 by rw [val_take_one HX.out, tailB_snoc, ← List.append_assoc]; exact hq5)
          clear hr5 hq5 ho4 hb4 HR
          go_wp2_with (first | (at_builtin; refine wpL_val rfl (ex_appB rfl rfl rfl (HR5.out _)) ?_) | fail)
          go_roundw
          case rel => exact ⟨k + 1, by omega, by go_num, HN.out⟩
          case measure => simp [intOf]; omega
        · have em : (k : Int) = 4 := by omega
          rw [em]
          obtain rfl : k = 4 := by omega
          clear em
          have e4 : p.ats.take 4 = p.ats := List.take_of_length_le (by have := HP.out.len; omega)
          have hb : tagB p ++ p.hash ++ tailB (p.ats.take 4) = bodyB p := by rw [e4]; rfl
          have hR3 := HR.out
          rw [hb] at hR3
          have hbl : (bodyB p).length = 56 := bodyB_length HP.out
          obtain ⟨sp9, cap9, e9, q1, q2, q3, q4, q5⟩ := OwnB.form hR3.1
          rw [hbl] at e9
          injection e9 with e91 e92 e93
          subst e91 e93
          have hc := wFillR_any (bodyB p) sp cap 64 wr (by rw [hbl]; omega) (by omega) q1 q4 q3
          rw [hbl] at hc
          have hpad : fillOf (bodyB p) 64 = padB p := by
            unfold fillOf padB
            rw [hbl]
            rfl
          rw [hpad] at hc
          have HC := Lib.hid hc
          have HBW := Lib.hid hR3.2.1
          clear hlt hk hgl HR HLN e4 hb hbl hc hR3 q1 q2 q3 q4 q5 e92
          rw [show 48 + 2 * 4 = 56 from rfl]
          go_wp2_with (first | (go_at_call 108; refine HC.out.mono ?_; rintro e w9 ⟨v9, rfl, ho9, hb9⟩; have HO9 := Lib.hid (ho9.mono (B' := w.heap.size) HBW.out.size); have HB9 := Lib.hid (HBW.out.trans (hb9.mono HBW.out.size)); clear ho9 hb9) | fail)
          go_ret
          exact ⟨_, rfl, HO9.out, HB9.out⟩
end Go.Proofs.YtmgagalhpkieoaaGreatDoor
