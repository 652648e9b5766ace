/- The acts on one address, walked: turn's, Sick's, Is's; how many addresses a disk has. -/
import Derived.Test.YtjfedhaafdfibaaKa
import Derived.Test.YtjfedhaafdfibaaProg
import Derived.IntWalk
import Derived.Outline
import Derived.Deep.QuietTactic
import Derived.BigQuiet
namespace Go.Proofs.Ytjfedhaafdfibaa
open Go.RowKit

def turnE (f : Nat) (a : Ax) : Nat := if a.is = f then 0 else 5
def turnA (f t : Nat) (a : Ax) : Ax := if a.is = f then { a with is := t } else a
set_option maxRecDepth 100000 in
set_option maxHeartbeats 4000000 in
theorem turn_any (f t : Nat) (w : World) : Calls Try.prog 21 #[.int .u8 (f : Int), .int .u8 (t : Int)] w fun e w' => e = .returned (fval 28 #[.pointer (some ⟨w.heap.size, 0, none⟩), .pointer (some ⟨w.heap.size + 1, 0, none⟩)]) ∧
    Blk w' w.heap.size [.int .u8 (f : Int)] 57 ∧ Blk w' (w.heap.size + 1) [.int .u8 (t : Int)] 57 ∧ Below w.heap.size w w' := by
  have hmf : ∀ (fn : Fn) (first cap : Array Value) (w : World), (Instr.makeFunc fn first cap).run Try.prog w = .ok (.func fn first cap) w := fun _ _ _ _ => rfl
  go_enter Try.func21, Try.ntmps21
  go_wp2_with fail
  go_ret
  exact ⟨rfl, (Blk.new w [.int .u8 (f : Int)] 57).alloc _, Blk.new' _ _ _ _ _ (by simp) rfl, ((Below.refl _ _).alloc (Nat.le_refl _) _).alloc (by simp) _⟩
set_option maxRecDepth 100000 in
set_option maxHeartbeats 4000000 in
theorem turn_in (f t g h : Nat) (B i : Nat) (l : List Ax) (a : Ax) (w : World) (hi : l[i]? = some a) (hb : Blk w B (acells l) 61) (hg : Blk w g [.int .u8 (f : Int)] 57) (hh : Blk w h [.int .u8 (t : Int)] 57) :
    Calls Try.prog 28 #[.pointer (some ⟨B, i * 2, none⟩), .pointer (some ⟨g, 0, none⟩), .pointer (some ⟨h, 0, none⟩)] w fun e w' => e = .returned (.int .i64 (turnE f a : Nat)) ∧ Blk w' B (acells (l.set i (turnA f t a))) 61 ∧ Chg (fun k => k = B) w w' := by
  have c0 := hb.cell (acells_get l i a hi).1
  have f0 := hb.free (i * 2)
  have cg := hg.cell (j := 0) rfl
  have ch := hh.cell (j := 0) rfl
  have HI := Lib.hid hi; have HB := Lib.hid hb
  clear hi hb hg hh
  by_cases hf : a.is = f
  · have ht : ((a.is : Int) != (f : Int)) = false := by simp [hf]
    have HF := Lib.hid hf
    clear hf
    go_enter Try.func28, Try.ntmps28
    go_wp2_with fail
    go_quiet (fail)
    go_wp2_with fail
    go_ret
    unfold turnE turnA
    rw [if_pos HF.out, if_pos HF.out]
    refine ⟨rfl, ?_, ?_⟩
    · rw [← acells_is l i a t HI.out]
      exact (HB.out.drewN _).set _ _
    · exact (chgN _ w _).trans' (chg1 _ _ _ _)
  · have ht : ((a.is : Int) != (f : Int)) = true := by simp; omega
    have HF := Lib.hid hf
    clear hf
    go_enter Try.func28, Try.ntmps28
    go_wp2_with fail
    go_quiet (fail)
    go_wp2_with fail
    go_ret
    unfold turnE turnA
    rw [if_neg HF.out, if_neg HF.out]
    refine ⟨rfl, ?_, ?_⟩
    · rw [set_same _ _ _ HI.out]
      exact HB.out.drewN _
    · exact chgN _ _ _
set_option maxRecDepth 100000 in
set_option maxHeartbeats 4000000 in
theorem sick_in (B i : Nat) (l : List Ax) (a : Ax) (w : World) (hi : l[i]? = some a) (hb : Blk w B (acells l) 61) :
    Calls Try.prog 25 #[.pointer (some ⟨B, i * 2, none⟩)] w fun e w' => e = .returned (.int .i64 0) ∧ Blk w' B (acells (l.set i { a with sick := true })) 61 ∧ Chg (fun k => k = B) w w' := by
  have c0 := hb.cell (acells_get l i a hi).2
  have f0 := hb.free (i * 2 + 1)
  have HI := Lib.hid hi; have HB := Lib.hid hb
  clear hi hb
  go_enter Try.func25, Try.ntmps25
  go_wp2_with fail
  go_ret
  refine ⟨rfl, ?_, ?_⟩
  · rw [← acells_sick l i a true HI.out]
    exact HB.out.set _ _
  · exact chg1 _ _ _ _
set_option maxRecDepth 100000 in
set_option maxHeartbeats 4000000 in
theorem is_in (B i g : Nat) (l : List Ax) (a : Ax) (b : Bool) (w : World) (hi : l[i]? = some a) (hb : Blk w B (acells l) 61) (hg : Blk w g [.bool b] 4) :
    Calls Try.prog 27 #[.pointer (some ⟨B, i * 2, none⟩), .pointer (some ⟨g, 0, none⟩)] w fun e w' => e = .returned (.int .i64 0) ∧ Blk w' g [.bool a.sick] 4 ∧ Chg (fun k => k = g) w w' := by
  have c0 := hb.cell (acells_get l i a hi).2
  have cg := hg.cell (j := 0) rfl
  have fg := hg.free 0
  have HG := Lib.hid hg
  clear hi hb hg
  go_enter Try.func27, Try.ntmps27
  go_wp2_with fail
  go_ret
  exact ⟨rfl, HG.out.set 0 _, chg1 _ _ _ _⟩
theorem cfT (args : Array Value) (w : World) : (callFunc 28 args).run Try.prog w = .ok (.enter 28 args) w := by go_simp
theorem cfS (args : Array Value) (w : World) : (callFunc 25 args).run Try.prog w = .ok (.enter 25 args) w := by go_simp
theorem cfI (args : Array Value) (w : World) : (callFunc 27 args).run Try.prog w = .ok (.enter 27 args) w := by go_simp

set_option maxRecDepth 100000 in
set_option maxHeartbeats 4000000 in
theorem size_nil (d : Int) (w : World) : Calls Try.prog 22 #[.pointer none, .int .i64 d] w fun e w' => e = .returned (.int .i64 0) ∧ w = w' := by
  go_enter Try.func22, Try.ntmps22
  go_wp2_with fail
  go_ret
  exact ⟨rfl, rfl⟩
set_option maxRecDepth 100000 in
set_option maxHeartbeats 4000000 in
/-- No such disk. -/
theorem size_no (d : Int) (w : World) (D : Nat) (hd : d < 0 ∨ 2 ≤ d) : Calls Try.prog 22 #[.pointer (some ⟨D, 0, none⟩), .int .i64 d] w fun e w' => e = .returned (.int .i64 0) ∧ w = w' := by
  rcases hd with hd | hd
  · go_enter Try.func22, Try.ntmps22
    go_wp2_with fail
    go_ret
    exact ⟨rfl, rfl⟩
  · have hd' : ¬ d < 0 := by omega
    go_enter Try.func22, Try.ntmps22
    go_wp2_with fail
    go_ret
    exact ⟨rfl, rfl⟩
set_option maxRecDepth 100000 in
set_option maxHeartbeats 4000000 in
theorem size_any (d : Nat) (w : World) (D : Nat) (B : Nat → Nat) (sp : Sp) (h : SpAt w D B sp) (hd : d < 2) : Calls Try.prog 22 #[.pointer (some ⟨D, 0, none⟩), .int .i64 (d : Int)] w fun e w' => e = .returned (.int .i64 ((sp d).length : Nat)) ∧ w = w' := by
  have c0 := h.cell hd
  have hd0 : ¬ (d : Int) < 0 := by omega
  have hd1 : ¬ 2 ≤ (d : Int) := by omega
  clear h
  go_enter Try.func22, Try.ntmps22
  go_wp2_with fail
  go_ret
  exact ⟨rfl, rfl⟩
end Go.Proofs.Ytjfedhaafdfibaa
