/- A state that takes in a piece, over natural numbers: a form that the kernel runs fast. -/
import Derived.Test.YtoaaaonpmcebfaaDoorSum
namespace Go.Proofs.YtoaaaonpmcebfaaDoor
open Go.RowKit
namespace Fast

def rotr (x n : Nat) : Nat := (x >>> n) ||| ((x <<< (32 - n)) % 4294967296)
def S1 (x : Nat) : Nat := (rotr x 6) ^^^ (rotr x 11) ^^^ (rotr x 25)
def S0 (x : Nat) : Nat := (rotr x 2) ^^^ (rotr x 13) ^^^ (rotr x 22)
def force {α : Type} (n : Nat) (k : Nat → α) : α := match n with | 0 => k 0 | m + 1 => k (m + 1)
theorem force_eq {α : Type} (n : Nat) (k : Nat → α) : force n k = k n := by cases n <;> rfl
def rounds {α : Type} : List Nat → List Nat → Nat → Nat → Nat → Nat → Nat → Nat → Nat → Nat → (Nat → Nat → Nat → Nat → Nat → Nat → Nat → Nat → α) → α
  | [], _, a, b, c, d, e, f, g, h, K => K a b c d e f g h
  | _ :: _, [], a, b, c, d, e, f, g, h, K => K a b c d e f g h
  | k :: ks, w :: ws, a, b, c, d, e, f, g, h, K =>
    force (h + S1 e + ((e &&& f) ^^^ ((4294967295 - e) &&& g)) + k + w) fun t =>
    force ((t + (S0 a + ((a &&& b) ^^^ (a &&& c) ^^^ (b &&& c)))) % 4294967296) fun a' =>
    force ((d + t) % 4294967296) fun e' =>
    rounds ks ws a' a b c e' e f g K
def blocks (ks ws : List Nat) : Nat → Nat → Nat → Nat → Nat → Nat → Nat → Nat → Nat → List Nat
  | 0, a, b, c, d, e, f, g, h => [a, b, c, d, e, f, g, h]
  | n + 1, a, b, c, d, e, f, g, h => rounds ks ws a b c d e f g h fun a' b' c' d' e' f' g' h' =>
    force ((a + a') % 4294967296) fun a => force ((b + b') % 4294967296) fun b => force ((c + c') % 4294967296) fun c => force ((d + d') % 4294967296) fun d =>
    force ((e + e') % 4294967296) fun e => force ((f + f') % 4294967296) fun f => force ((g + g') % 4294967296) fun g => force ((h + h') % 4294967296) fun h =>
    blocks ks ws n a b c d e f g h

theorem rotr_eq (x : BitVec 32) (n : Nat) : (rot x n).toNat = rotr x.toNat n := by
  simp [rot, rotr, BitVec.toNat_or, BitVec.toNat_ushiftRight, BitVec.toNat_shiftLeft]
theorem S1_eq (x : BitVec 32) : (YtoaaaonpmcebfaaDoor.S1 x).toNat = S1 x.toNat := by
  simp only [YtoaaaonpmcebfaaDoor.S1, S1, BitVec.toNat_xor, rotr_eq]
theorem S0_eq (x : BitVec 32) : (YtoaaaonpmcebfaaDoor.S0 x).toNat = S0 x.toNat := by
  simp only [YtoaaaonpmcebfaaDoor.S0, S0, BitVec.toNat_xor, rotr_eq]
theorem ch_eq (e f g : BitVec 32) : (ch e f g).toNat = ((e.toNat &&& f.toNat) ^^^ ((4294967295 - e.toNat) &&& g.toNat)) := by
  simp [ch, BitVec.toNat_xor, BitVec.toNat_and, BitVec.toNat_not]
theorem maj_eq (a b c : BitVec 32) : (maj a b c).toNat = ((a.toNat &&& b.toNat) ^^^ (a.toNat &&& c.toNat) ^^^ (b.toNat &&& c.toNat)) := by
  simp only [maj, BitVec.toNat_xor, BitVec.toNat_and]
theorem rt_eq (s : St) (k w : BitVec 32) : (rt s k w).toNat = (s.h.toNat + S1 s.e.toNat + ((s.e.toNat &&& s.f.toNat) ^^^ ((4294967295 - s.e.toNat) &&& s.g.toNat)) + k.toNat + w.toNat) % 4294967296 := by
  simp [rt, BitVec.toNat_add, S1_eq, ch_eq]
theorem rnd_a (s : St) (k w : BitVec 32) : (rnd s k w).a.toNat = ((s.h.toNat + S1 s.e.toNat + ((s.e.toNat &&& s.f.toNat) ^^^ ((4294967295 - s.e.toNat) &&& s.g.toNat)) + k.toNat + w.toNat) + (S0 s.a.toNat + ((s.a.toNat &&& s.b.toNat) ^^^ (s.a.toNat &&& s.c.toNat) ^^^ (s.b.toNat &&& s.c.toNat)))) % 4294967296 := by
  show (rt s k w + ru s).toNat = _
  rw [BitVec.toNat_add, rt_eq]
  unfold ru
  rw [BitVec.toNat_add, S0_eq, maj_eq]
  simp
theorem rnd_e (s : St) (k w : BitVec 32) : (rnd s k w).e.toNat = (s.d.toNat + (s.h.toNat + S1 s.e.toNat + ((s.e.toNat &&& s.f.toNat) ^^^ ((4294967295 - s.e.toNat) &&& s.g.toNat)) + k.toNat + w.toNat)) % 4294967296 := by
  show (s.d + rt s k w).toNat = _
  rw [BitVec.toNat_add, rt_eq]
  simp

def bruns : St → List (BitVec 32) → List (BitVec 32) → St
  | s, k :: ks, w :: ws => bruns (rnd s k w) ks ws
  | s, _, _ => s
theorem rounds_eq {α : Type} (ks : List (BitVec 32)) : ∀ (ws : List (BitVec 32)) (s : St) (K : Nat → Nat → Nat → Nat → Nat → Nat → Nat → Nat → α),
    rounds (ks.map (·.toNat)) (ws.map (·.toNat)) s.a.toNat s.b.toNat s.c.toNat s.d.toNat s.e.toNat s.f.toNat s.g.toNat s.h.toNat K
      = K (bruns s ks ws).a.toNat (bruns s ks ws).b.toNat (bruns s ks ws).c.toNat (bruns s ks ws).d.toNat (bruns s ks ws).e.toNat (bruns s ks ws).f.toNat (bruns s ks ws).g.toNat (bruns s ks ws).h.toNat := by
  induction ks with
  | nil => intro ws s K; rfl
  | cons k ks ih =>
    intro ws s K
    cases ws with
    | nil => rfl
    | cons w ws =>
      rw [List.map_cons, List.map_cons, rounds, force_eq, force_eq, force_eq]
      have := ih ws (rnd s k w) K
      rw [rnd_a, rnd_e] at this
      exact this
theorem bruns_snoc (ks : List (BitVec 32)) : ∀ (ws : List (BitVec 32)) (s : St) (k w : BitVec 32), ks.length = ws.length → bruns s (ks ++ [k]) (ws ++ [w]) = rnd (bruns s ks ws) k w := by
  induction ks with
  | nil => intro ws s k w h; cases ws with
    | nil => rfl
    | cons x xs => simp at h
  | cons x xs ih => intro ws s k w h; cases ws with
    | nil => simp at h
    | cons y ys => exact ih ys (rnd s x y) k w (by simpa using h)
theorem runs_eq (s : St) (ws : List (BitVec 32)) (hw : ws.length = 64) (i : Nat) (hi : i ≤ 64) : runs s ws i = bruns s (KC.take i) (ws.take i) := by
  induction i with
  | zero => rfl
  | succ i ih =>
    have hk : KC.length = 64 := by decide
    rw [runs, ih (by omega), List.take_succ_eq_append_getElem (by omega), List.take_succ_eq_append_getElem (by omega), bruns_snoc _ _ _ _ _ (by simp; omega)]
    congr 1
    · rw [List.getD_eq_getElem?_getD, List.getElem?_eq_getElem (by omega)]; rfl
    · rw [List.getD_eq_getElem?_getD, List.getElem?_eq_getElem (by omega)]; rfl
theorem take_eq (s : St) (pb : List (BitVec 8)) : take s pb = plus s (bruns s KC (sched pb)) := by
  have hl : (sched pb).length = 64 := Wx_length pb 48
  rw [take, runs_eq s _ hl 64 (by omega), List.take_of_length_le (by decide), List.take_of_length_le (by rw [hl]; omega)]

def takes (pb : List (BitVec 8)) (n : Nat) (s : St) : St := Nat.rec s (fun _ t => take t pb) n
theorem takes_zero (pb : List (BitVec 8)) (s : St) : takes pb 0 s = s := rfl
theorem takes_succ (pb : List (BitVec 8)) (n : Nat) (s : St) : takes pb (n + 1) s = take (takes pb n s) pb := rfl
theorem takes_succ' (pb : List (BitVec 8)) (n : Nat) (s : St) : takes pb (n + 1) s = takes pb n (take s pb) := by
  induction n with
  | zero => rw [takes_succ, takes_zero, takes_zero]
  | succ n ih => rw [takes_succ, ih, takes_succ]
theorem takes_add (pb : List (BitVec 8)) (m n : Nat) (s : St) : takes pb (m + n) s = takes pb n (takes pb m s) := by
  induction n with
  | zero => rw [Nat.add_zero, takes_zero]
  | succ n ih => rw [Nat.add_succ, takes_succ, takes_succ, ih]
theorem plus_nat {α : Type} (F : Nat → Nat → Nat → Nat → Nat → Nat → Nat → Nat → α) (s t : St) :
    F ((s.a.toNat + t.a.toNat) % 4294967296) ((s.b.toNat + t.b.toNat) % 4294967296) ((s.c.toNat + t.c.toNat) % 4294967296) ((s.d.toNat + t.d.toNat) % 4294967296)
      ((s.e.toNat + t.e.toNat) % 4294967296) ((s.f.toNat + t.f.toNat) % 4294967296) ((s.g.toNat + t.g.toNat) % 4294967296) ((s.h.toNat + t.h.toNat) % 4294967296)
    = F (plus s t).a.toNat (plus s t).b.toNat (plus s t).c.toNat (plus s t).d.toNat (plus s t).e.toNat (plus s t).f.toNat (plus s t).g.toNat (plus s t).h.toNat := by
  simp only [plus, BitVec.toNat_add, Nat.reducePow]
theorem blocks_succ (ks ws : List (BitVec 32)) (n : Nat) (s : St) :
    blocks (ks.map (·.toNat)) (ws.map (·.toNat)) (n + 1) s.a.toNat s.b.toNat s.c.toNat s.d.toNat s.e.toNat s.f.toNat s.g.toNat s.h.toNat
      = blocks (ks.map (·.toNat)) (ws.map (·.toNat)) n (plus s (bruns s ks ws)).a.toNat (plus s (bruns s ks ws)).b.toNat (plus s (bruns s ks ws)).c.toNat (plus s (bruns s ks ws)).d.toNat
          (plus s (bruns s ks ws)).e.toNat (plus s (bruns s ks ws)).f.toNat (plus s (bruns s ks ws)).g.toNat (plus s (bruns s ks ws)).h.toNat := by
  rw [blocks, rounds_eq]
  simp only [force_eq]
  exact plus_nat (blocks (ks.map (·.toNat)) (ws.map (·.toNat)) n) s (bruns s ks ws)
theorem blocks_eq (pb : List (BitVec 8)) (n : Nat) : ∀ s : St, blocks (KC.map (·.toNat)) ((sched pb).map (·.toNat)) n s.a.toNat s.b.toNat s.c.toNat s.d.toNat s.e.toNat s.f.toNat s.g.toNat s.h.toNat = (takes pb n s).list.map (·.toNat) := by
  induction n with
  | zero => intro s; rfl
  | succ n ih => intro s; rw [blocks_succ, ← take_eq, ih, takes_succ']

end Fast
end Go.Proofs.YtoaaaonpmcebfaaDoor
