/- Content: refuse, count, each, part, pieces, Leaf. -/
import Derived.Test.YthionhliokhcgaaCa
import Derived.Test.YthionhliokhcgaaCb
namespace Go.Proofs.Ythionhliokhcgaa
open Go.RowKit

attribute [local go_sem] Oper.semAt_some

def shC (D : Nat) : Value := .iface 29 (.pointer (some ⟨D, 0, none⟩))
def refN (x n : Int) : Nat := if x < 0 ∨ n < 0 ∨ 2048 < n then 26 else 0
theorem crefuse_any (D : Nat) (x n : Int) (w : World) : Calls Try.prog 13 #[shC D, .int .i64 x, .int .i64 n] w fun e w' => e = .returned (.int .i64 (refN x n : Int)) ∧ w = w' := by
  unfold shC
  by_cases h1 : x < 0
  · rw [show refN x n = 26 by unfold refN; rw [if_pos (.inl h1)]]
    go_enter Try.func13, Try.ntmps13
    go_wp2_with fail
    first | exact ⟨rfl, rfl⟩ | (go_ret; exact ⟨rfl, rfl⟩)
  · by_cases h2 : n < 0
    · rw [show refN x n = 26 by unfold refN; rw [if_pos (.inr (.inl h2))]]
      go_enter Try.func13, Try.ntmps13
      go_wp2_with fail
      first | exact ⟨rfl, rfl⟩ | (go_ret; exact ⟨rfl, rfl⟩)
    · by_cases h3 : 2048 < n
      · rw [show refN x n = 26 by unfold refN; rw [if_pos (.inr (.inr h3))]]
        go_enter Try.func13, Try.ntmps13
        go_wp2_with fail
        first | exact ⟨rfl, rfl⟩ | (go_ret; exact ⟨rfl, rfl⟩)
      · rw [show refN x n = 0 by unfold refN; rw [if_neg (by omega)]]
        go_enter Try.func13, Try.ntmps13
        go_wp2_with fail
        first | exact ⟨rfl, rfl⟩ | (go_ret; exact ⟨rfl, rfl⟩)
theorem crefuse_nil (x n : Int) (w : World) : Calls Try.prog 13 #[.nilIface, .int .i64 x, .int .i64 n] w fun e w' => e = .returned (.int .i64 2) ∧ w = w' := by
  go_enter Try.func13, Try.ntmps13
  go_wp2_with fail
  first | exact ⟨rfl, rfl⟩ | (go_ret; exact ⟨rfl, rfl⟩)
theorem ccount_any (n : Nat) (hn : n ≤ 4294967296) (w : World) : Calls Try.prog 17 #[.int .u64 (n : Int)] w fun e w' => e = .returned (.int .u64 (((n + 511) / 512 : Nat) : Int)) ∧ w = w' := by
  have h1 : IntKind.u64.wrap ((n : Int) + 512) = (n : Int) + 512 := by rw [IntKind.wrap_u64]; omega
  have h2 : IntKind.u64.wrap ((n : Int) + 512 - 1) = (n : Int) + 512 - 1 := by rw [IntKind.wrap_u64]; omega
  have h3 : ((n : Int) + 512 - 1) / 512 = (((n + 511) / 512 : Nat) : Int) := by omega
  have h0 : 0 ≤ (n : Int) + 512 - 1 := by omega
  have h4 : ((n : Int) + 512 - 1).tdiv 512 = (((n + 511) / 512 : Nat) : Int) := by rw [← h3]; exact Int.tdiv_eq_ediv_of_nonneg h0
  generalize hr : ((((n + 511) / 512 : Nat) : Nat) : Int) = r at h3 h4
  have h5 : IntKind.u64.wrap r = r := by rw [IntKind.wrap_u64]; omega
  clear hn hr
  go_enter Try.func17, Try.ntmps17
  go_wp2_with fail
  first | exact ⟨rfl, rfl⟩ | (go_ret; exact ⟨rfl, rfl⟩)
/-- A piece: its leaf's offset, the places in the leaf, what asking for the leaf answered. -/
abbrev pcC (off fr tt : Nat) (v : Value) : List Value := [.int .u32 (off : Int), .int .i64 (fr : Int), .int .i64 (tt : Int), v]
theorem c_ld {ρ : Operand → Value} {o : Oper} {x : Operand} {ty : TypeId} {b off : Nat} {cs : List Value} {d : TypeDesc} {w : World} (ho : o.op = .load ty x) (hx : ρ x = .pointer (some ⟨b, off, none⟩)) (hc : w.rangeAt b off cs) (hu : Try.prog.underlying ty = some d) (hd : d.isRow = true) (hi : (Try.prog.info? ty).map (·.size) = some cs.length) : (execOp ρ o).run Try.prog w = .ok (.value (.agg cs.toArray)) w := by
  have hr := run_loadAt_mid (P := Try.prog) w b off ty cs d hc hu hd hi
  unfold execOp
  simp only [ho, hx]
  simp only [Sem.run_bind, hr, Result.andThen_ok, Sem.run_pure]
theorem c_rng {w : World} {g : Nat} {cs : List Value} {t : TypeId} (h : Blk w g cs t) : w.rangeAt g 0 cs := h.range _ _ fun j v hv => by simpa using hv
theorem sizePc : (Try.prog.info? 56).map (·.size) = some 4 := by kernel_rfl
theorem c_ldPc {ρ : Operand → Value} {o : Oper} {x : Operand} {g off fr tt : Nat} {v : Value} {w : World} {t : TypeId} (hB : Blk w g (pcC off fr tt v) t) (ho : o.op = .load 56 x) (hx : ρ x = .pointer (some ⟨g, 0, none⟩)) :
    (execOp ρ o).run Try.prog w = .ok (.value (.agg (pcC off fr tt v).toArray)) w := c_ld ho hx (c_rng hB) Try.underlying56 rfl sizePc
theorem ceach_any (off fr tt : Nat) (v : Value) (w : World) : Calls Try.prog 18 #[.agg (pcC off fr tt v).toArray] w fun e w' => e = .returned (.bool true) ∧ w' = w.alloc (.cells (pcC off fr tt v).toArray 56) := by
  go_enter Try.func18, Try.ntmps18
  go_wp2_with fail
  first | exact ⟨rfl, rfl⟩ | (go_ret; exact ⟨rfl, rfl⟩)
theorem cpart_any (off fr tt : Nat) (v : Value) (h : fr ≤ tt ∧ tt ≤ 512) (w : World) : Calls Try.prog 15 #[.agg (pcC off fr tt v).toArray] w fun e w' => e = .returned (.bool (decide (tt - fr < 512))) ∧ w' = w.alloc (.cells (pcC off fr tt v).toArray 56) := by
  have e1 : decide (tt - fr < 512) = decide ((tt : Int) - (fr : Int) < 512) := by rw [decide_eq_decide]; omega
  have h1 : IntKind.i64.wrap ((tt : Int) - (fr : Int)) = (tt : Int) - (fr : Int) := by rw [IntKind.wrap_i64]; omega
  rw [e1]
  have g1 : (tt : Int) ≤ 512 := by omega
  have g2 : (fr : Int) ≤ 512 := by omega
  have g3 : (0 : Int) ≤ (tt : Int) := by omega
  have g4 : (0 : Int) ≤ (fr : Int) := by omega
  clear h e1
  go_enter Try.func15, Try.ntmps15
  go_wp2_with fail
  first | exact ⟨rfl, rfl⟩ | (go_ret; exact ⟨rfl, rfl⟩)
theorem cpieces_any (D : Nat) (fr tt : Nat) (wf : Nat) (w : World) : Calls Try.prog 14 #[shC D, .int .u64 (fr : Int), .int .u64 (tt : Int), .func (.func wf) #[] #[]] w fun e w' =>
    e = .returned (.func (.func 19) #[] #[.pointer (some ⟨w.heap.size + 1, 0, none⟩), .pointer (some ⟨w.heap.size + 1 + 1, 0, none⟩), .pointer (some ⟨w.heap.size + 1 + 1 + 1, 0, none⟩), .pointer (some ⟨w.heap.size, 0, none⟩)]) ∧
    w' = (((w.alloc (.cells #[shC D] 49)).alloc (.cells #[.int .u64 (fr : Int)] 23)).alloc (.cells #[.int .u64 (tt : Int)] 23)).alloc (.cells #[.func (.func wf) #[] #[]] 54) := by
  unfold shC
  go_enter Try.func14, Try.ntmps14
  go_wp2_with fail
  first | exact ⟨rfl, rfl⟩ | (go_ret; exact ⟨rfl, rfl⟩)
end Go.Proofs.Ythionhliokhcgaa
