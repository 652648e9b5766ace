/- Digits of unlike digests are unlike. -/
import Derived.Test.YtlibdcgpjglcpaaDoorHSum
import Derived.Stop.BytesEq
namespace Go.Proofs.YtlibdcgpjglcpaaDoor
open Go.RowKit

set_option maxRecDepth 100000 in
theorem run_eq24 (a b : List (BitVec 8)) (ha : a.length = 32) (hb : b.length = 32) (W : World) :
    (Op.equalIn 10000 25 (.agg (a.map V8).toArray) (.agg (b.map V8).toArray)).run Tryd.prog W = .ok (decide (a = b)) W := by
  have h := run_equalIn_bytes (P := Tryd.prog) W 9998 25 5 32 Tryd.underlying25 Tryd.underlying5 sizeOf5 (a.map UInt8.ofBitVec) (b.map UInt8.ofBitVec) (by simpa using ha) (by simpa using hb)
  have e : ∀ l : List (BitVec 8), (l.map UInt8.ofBitVec).map Extern.Stop.cell = l.map V8 := fun l => by
    rw [List.map_map]; rfl
  rw [e, e] at h
  rw [h]
  refine congrArg (fun b => Result.ok b W) ?_
  have hinj : ∀ (x y : List (BitVec 8)), x.map UInt8.ofBitVec = y.map UInt8.ofBitVec → x = y := by
    intro x
    induction x with
    | nil => intro y hy; cases y with
      | nil => rfl
      | cons _ _ => simp at hy
    | cons u x ih => intro y hy; cases y with
      | nil => simp at hy
      | cons v y =>
        simp only [List.map_cons, List.cons.injEq] at hy
        obtain ⟨h1, h2⟩ := hy
        have : u = v := by have := congrArg UInt8.toBitVec h1; simpa using this
        rw [this, ih y h2]
  by_cases hab : a = b
  · subst hab; simp
  · rw [decide_eq_false hab]
    rw [beq_eq_false_iff_ne]
    exact fun e => hab (hinj a b e)
end Go.Proofs.YtlibdcgpjglcpaaDoor
