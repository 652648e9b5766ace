/- Digits of unlike digests are unlike. -/
import Derived.Test.YtoaaaonpmcebfaaDoorRhex
import Derived.Stop.BytesEq
namespace Go.Proofs.YtoaaaonpmcebfaaDoor
open Go.RowKit

theorem run_eq24 (a b : List (BitVec 8)) (ha : a.length = 32) (hb : b.length = 32) (W : World) :
    (Op.equalIn 10000 24 (.agg (a.map V8).toArray) (.agg (b.map V8).toArray)).run Tryd.prog W = .ok (decide (a = b)) W := by
  have h := run_equalIn_bytes (P := Tryd.prog) W 9998 24 5 32 Tryd.underlying24 Tryd.underlying5 sizeOf5 (a.map UInt8.ofBitVec) (b.map UInt8.ofBitVec) (by simpa using ha) (by simpa using hb)
  have e : ∀ l : List (BitVec 8), (l.map UInt8.ofBitVec).map Extern.Stop.cell = l.map V8 := fun l => by
    rw [List.map_map]; rfl
  rw [e, e] at h
  rw [h]
  congr 1
  have hinj : ∀ (x y : List (BitVec 8)), x.map UInt8.ofBitVec = y.map UInt8.ofBitVec → x = y := by
    intro x
    induction x with
    | nil => intro y hy; cases y with
      | nil => rfl
      | cons _ _ => simp at hy
    | cons u x ih => intro y hy; cases y with
      | nil => simp at hy
      | cons v y =>
        simp only [List.map_cons, List.cons.injEq] at hy
        obtain ⟨h1, h2⟩ := hy
        have : u = v := by have := congrArg UInt8.toBitVec h1; simpa using this
        rw [this, ih y h2]
  by_cases hab : a = b
  · subst hab; simp
  · rw [decide_eq_false hab]
    rw [beq_eq_false_iff_ne]
    exact fun e => hab (hinj a b e)
theorem hex2_inj : ∀ x y : BitVec 8, hex2 x = hex2 y → x = y := by decide +kernel
theorem hexOf_inj : ∀ (a b : List (BitVec 8)), a.length = b.length → hexOf a = hexOf b → a = b
  | [], [], _, _ => rfl
  | [], _ :: _, h, _ => by simp at h
  | _ :: _, [], h, _ => by simp at h
  | x :: a, y :: b, h, e => by
    have e' : hex2 x ++ hexOf a = hex2 y ++ hexOf b := e
    have e2 := List.append_inj e' (by simp [hex2])
    rw [hex2_inj x y e2.1, hexOf_inj a b (by simpa using h) e2.2]
theorem bstr_inj (a b : List (BitVec 8)) (h : bstr a = bstr b) : a = b := by
  have h1 := congrArg (fun s => s.data.toList) h
  simp only [bstr] at h1
  have hinj : ∀ (x y : List (BitVec 8)), x.map (fun x => UInt8.ofNat x.toNat) = y.map (fun x => UInt8.ofNat x.toNat) → x = y := by
    intro x
    induction x with
    | nil => intro y hy; cases y with
      | nil => rfl
      | cons _ _ => simp at hy
    | cons u x ih => intro y hy; cases y with
      | nil => simp at hy
      | cons v y =>
        simp only [List.map_cons, List.cons.injEq] at hy
        obtain ⟨h1, h2⟩ := hy
        have h3 := congrArg UInt8.toNat h1
        rw [UInt8.toNat_ofNat', UInt8.toNat_ofNat', Nat.mod_eq_of_lt u.isLt, Nat.mod_eq_of_lt v.isLt] at h3
        rw [BitVec.eq_of_toNat_eq h3, ih y h2]
  exact hinj a b h1

end Go.Proofs.YtoaaaonpmcebfaaDoor
