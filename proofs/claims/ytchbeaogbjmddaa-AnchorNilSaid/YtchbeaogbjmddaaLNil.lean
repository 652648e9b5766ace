/- AnchorNil: the law, walked. -/
import Derived.Test.YtchbeaogbjmddaaWk
namespace Go.Proofs.Ytchbeaogbjmddaa
open Go.RowKit

theorem ex_build28z {ρ : Operand → Value} {o : Oper} {w : World} (ho : o.op = .build 28 #[]) : (execOp ρ o).run Try.prog w = .ok (.value (.agg (zero64.map V8).toArray)) w := by
  have hr : (Instr.build 28 #[]).run Try.prog w = .ok (.agg (zero64.map V8).toArray) w := by kernel_rfl
  unfold execOp
  simp only [ho]
  rw [show (Array.map (fun x : Nat × Operand => (x.1, ρ x.2)) #[]) = #[] by simp]
  simp only [Sem.run_bind, hr, Result.andThen_ok, Sem.run_pure]
theorem ex_build29g {ρ : Operand → Value} {o : Oper} {x : Operand} {n : Nat} {w : World} (ho : o.op = .build 29 #[(0, x)]) (hx : ρ x = .int .u64 (n : Int)) : (execOp ρ o).run Try.prog w = .ok (.value (.agg (acells (gen1 n)).toArray)) w := by
  have hr : (Instr.build 29 #[(0, .int .u64 (n : Int))]).run Try.prog w = .ok (.agg (acells (gen1 n)).toArray) w := run_build w 29 _ _ (by rfl)
  unfold execOp
  simp only [ho]
  rw [show (Array.map (fun x : Nat × Operand => (x.1, ρ x.2)) #[(0, x)]) = #[(0, .int .u64 (n : Int))] by simp [hx]]
  simp only [Sem.run_bind, hr, Result.andThen_ok, Sem.run_pure]
theorem box27 (w : World) (a : An) : Blk (w.alloc (.cells (acells a).toArray 27)) w.heap.size (acells a) 27 ∧ Below w.heap.size w (w.alloc (.cells (acells a).toArray 27)) := ⟨Blk.new _ _ _, (Below.refl _ _).alloc (Nat.le_refl _) _⟩
set_option maxRecDepth 100000 in
set_option maxHeartbeats 4000000 in
theorem nil_walk (a : An) (w : World) : Calls Try.prog 5 #[.agg (acells a).toArray] w fun e w' => e = .returned (.bool true) ∧ Below w.heap.size w w' := by
  obtain ⟨h1, h2⟩ := box27 w a
  have HG := Lib.hid h1
  have HB := Lib.hid h2
  clear h1 h2
  go_enter Try.func5, Try.ntmps5
  go_wp2_with (first | (go_at_call 12; refine (new_nil _).mono ?_; rintro e w' ⟨rfl, rfl⟩) | fail)
  refine (load_nil _).mono ?_
  rw [show tkA zero64 = zeroA from tkA_zero]
  rintro e w3 ⟨rfl, hb3⟩
  have HG3 := Lib.hid (HG.out.below hb3 HG.out.lt)
  have HB3 := Lib.hid (HB.out.trans (hb3.mono HB.out.size))
  clear hb3 HG HB
  go_wp2_with (first | (refine wpL_valG (by rfl) (ex_build29z rfl) ?_) | (refine wpL_valG (by rfl) (ex_eq29 (a := zeroA) rfl rfl rfl zeroA_ok) ?_) | fail)
  refine (bytes_nil _).mono ?_
  rintro e w4 ⟨rfl, hb4⟩
  have hg4 := HG3.out.below hb4 HG3.out.lt
  have HG4 := Lib.hid hg4
  have HB4 := Lib.hid (HB3.out.trans (hb4.mono HB3.out.size))
  have c0 : w4.cell? ⟨w.heap.size, 0, none⟩ = some (.int .u64 (a.gen : Int)) := hg4.cell rfl
  clear hb4 hg4 HG3 HB3
  go_wp2_with (first | (refine wpL_valG (by rfl) (ex_build28z rfl) ?_) | (refine wpL_valG (by rfl) (ex_eq28 (a := zero64) rfl rfl rfl rfl) ?_) | (refine wpL_valG (by rfl) (ex_build29g (n := a.gen) rfl rfl) ?_) | fail)
  refine (store_nil (gen1 a.gen) w4).mono ?_
  rintro e w5 ⟨rfl, hb5⟩
  have HB5 := Lib.hid (HB4.out.trans (hb5.mono HB4.out.size))
  clear hb5 HG4 HB4 c0
  go_wp2_with fail
  refine (wakes_any w5).mono ?_
  rintro e w6 ⟨rfl, hb6⟩
  have HB6 := Lib.hid (HB5.out.trans (hb6.mono HB5.out.size))
  clear hb6 HB5
  go_wp2_with fail
  go_ret
  exact ⟨rfl, HB6.out⟩
end Go.Proofs.Ytchbeaogbjmddaa
