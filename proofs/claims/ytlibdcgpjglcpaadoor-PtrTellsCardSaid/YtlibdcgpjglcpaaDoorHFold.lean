/- What a hash holds behind so many bytes: plain lemmas on lists. -/
import Derived.Test.YtlibdcgpjglcpaaDoorHTake
namespace Go.Proofs.YtlibdcgpjglcpaaDoor

def H0 : St := ⟨0x6a09e667#32, 0xbb67ae85#32, 0x3c6ef372#32, 0xa54ff53a#32, 0x510e527f#32, 0x9b05688c#32, 0x1f83d9ab#32, 0x5be0cd19#32⟩
def chunk (m : List (BitVec 8)) (i : Nat) : List (BitVec 8) := (m.drop (64 * i)).take 64
def absorb : Nat → List (BitVec 8) → St
  | 0, _ => H0
  | i + 1, m => take (absorb i m) (chunk m i)

theorem chunk_append (m b : List (BitVec 8)) (i : Nat) (h : 64 * (i + 1) ≤ m.length) : chunk (m ++ b) i = chunk m i := by
  unfold chunk
  rw [List.drop_append_of_le_length (by omega), List.take_append_of_le_length (by simp; omega)]
theorem absorb_append (n : Nat) (m b : List (BitVec 8)) (h : 64 * n ≤ m.length) : absorb n (m ++ b) = absorb n m := by
  induction n with
  | zero => rfl
  | succ n ih => rw [absorb, absorb, ih (by omega), chunk_append m b n (by omega)]

/-- The buffer behind a copy of cs to its place k. -/
def laid (rest : List (BitVec 8)) (k : Nat) (cs : List (BitVec 8)) : List (BitVec 8) := rest.take k ++ (cs ++ rest.drop (k + cs.length))
theorem laid_length (rest : List (BitVec 8)) (k : Nat) (cs : List (BitVec 8)) (hr : rest.length = 64) (h : k + cs.length ≤ 64) : (laid rest k cs).length = 64 := by
  unfold laid; simp; omega

/-- What stands in a hash's block behind the bytes m. -/
structure Holds (m rest : List (BitVec 8)) : Prop where
  len : rest.length = 64
  tail : rest.take (m.length % 64) = m.drop (64 * (m.length / 64))

theorem laid_tail {m rest : List (BitVec 8)} (h : Holds m rest) (cs : List (BitVec 8)) (hc : m.length % 64 + cs.length ≤ 64) :
    (laid rest (m.length % 64) cs).take (m.length % 64 + cs.length) = (m ++ cs).drop (64 * (m.length / 64)) := by
  have h1 := h.len
  unfold laid
  rw [← List.append_assoc, List.take_append_of_le_length (by simp; omega), List.take_of_length_le (by simp; omega), h.tail, List.drop_append_of_le_length (by omega)]

theorem holds_part {m rest : List (BitVec 8)} (h : Holds m rest) (cs : List (BitVec 8)) (hc : m.length % 64 + cs.length < 64) :
    Holds (m ++ cs) (laid rest (m.length % 64) cs) ∧ absorb ((m ++ cs).length / 64) (m ++ cs) = absorb (m.length / 64) m := by
  have hl : (m ++ cs).length / 64 = m.length / 64 := by simp; omega
  have hr : (m ++ cs).length % 64 = m.length % 64 + cs.length := by simp; omega
  refine ⟨⟨laid_length _ _ _ h.len (by omega), ?_⟩, ?_⟩
  · rw [hl, hr]; exact laid_tail h cs (by omega)
  · rw [hl]; exact absorb_append _ _ _ (by omega)

theorem holds_full {m rest : List (BitVec 8)} (h : Holds m rest) (cs : List (BitVec 8)) (hc : m.length % 64 + cs.length = 64) :
    Holds (m ++ cs) (laid rest (m.length % 64) cs) ∧ absorb ((m ++ cs).length / 64) (m ++ cs) = take (absorb (m.length / 64) m) (laid rest (m.length % 64) cs) := by
  have hl : (m ++ cs).length / 64 = m.length / 64 + 1 := by simp; omega
  have hr : (m ++ cs).length % 64 = 0 := by simp; omega
  have ht := laid_tail h cs (by omega)
  have hll := laid_length rest (m.length % 64) cs h.len (by omega)
  rw [hc, List.take_of_length_le (by omega)] at ht
  refine ⟨⟨hll, ?_⟩, ?_⟩
  · rw [hl, hr, List.take_zero, List.drop_of_length_le (by simp; omega)]
  · rw [hl, absorb, absorb_append _ _ _ (by omega)]
    congr 1
    unfold chunk
    rw [← ht, List.take_of_length_le (by omega)]
end Go.Proofs.YtlibdcgpjglcpaaDoor
