/- Whether a block fits a pointer: Fits. -/
import Derived.Test.YtlibdcgpjglcpaaDoorPs
namespace Go.Proofs.YtlibdcgpjglcpaaDoor
open Go.RowKit

theorem ex_eqi {ρ : Operand → Value} {o : Oper} {x y : Operand} {k : IntKind} {a b : Int} {w : World} {ty : TypeId} (hu : Tryd.prog.underlying ty = some (.int k)) (ho : o.op = .binOp .eql ty x y ty) (hx : ρ x = .int k a) (hy : ρ y = .int k b) : (execOp ρ o).run Tryd.prog w = .ok (.value (.bool (decide (a = b)))) w := by
  have h := run_equalIn_int (P := Tryd.prog) w 9999 ty k k a b hu
  unfold execOp
  simp only [ho]
  go_simp
  by_cases h : a = b <;> simp [h]
theorem ex_nei {ρ : Operand → Value} {o : Oper} {x y : Operand} {k : IntKind} {a b : Int} {w : World} {ty : TypeId} (hu : Tryd.prog.underlying ty = some (.int k)) (ho : o.op = .binOp .neq ty x y ty) (hx : ρ x = .int k a) (hy : ρ y = .int k b) : (execOp ρ o).run Tryd.prog w = .ok (.value (.bool (!decide (a = b)))) w := by
  have h := run_equalIn_int (P := Tryd.prog) w 9999 ty k k a b hu
  unfold execOp
  simp only [ho]
  go_simp
  by_cases h : a = b <;> simp [h]
def fitsP (p : Pt) (bs : Bs) : Bool := decide (bs.length = 512) && decide (digest (tagB p ++ bs) = p.hash)
theorem fitsP_eq (p : Pt) (bs : Bs) (h : bs.length = 512) : eqP (sealP p bs) p = fitsP p bs := by
  rw [Bool.eq_iff_iff]
  simp [eqP, sealP, fitsP, h]
  exact ⟨of_decide_eq_true, decide_eq_true⟩
def FtS (p : Pt) (w : World) (sp : Option Addr) (bs : Bs) (X : World) : Prop := Blk X w.heap.size (pcells p) 28 ∧ SrcA X sp bs ∧ Tab X ∧ Below w.heap.size w X
theorem FtS.grown {p : Pt} {w X Y : World} {sp : Option Addr} {bs : Bs} (h : FtS p w sp bs X) (hb : Below X.heap.size X Y) : FtS p w sp bs Y :=
  ⟨h.1.below hb h.1.lt, h.2.1.grown hb, h.2.2.1.below hb (Nat.le_refl _), h.2.2.2.trans (hb.mono h.2.2.2.size)⟩
theorem FtS.drew {p : Pt} {w X : World} {sp : Option Addr} {bs : Bs} (h : FtS p w sp bs X) : FtS p w sp bs X.drew := ⟨h.1, h.2.1, h.2.2.1, h.2.2.2.drew⟩
theorem fts_start {p : Pt} {w : World} {sp : Option Addr} {bs : Bs} (hS : SrcA w sp bs) (hT : Tab w) : FtS p w sp bs (w.alloc (.cells (pcells p).toArray 28)) :=
  ⟨Blk.new _ _ _, hS.grown ((Below.refl _ _).alloc (Nat.le_refl _) _), hT.alloc _, (Below.refl _ _).alloc (Nat.le_refl _) _⟩
set_option maxRecDepth 100000 in
set_option maxHeartbeats 4000000 in
theorem fits_any (p : Pt) (hp : p.OK) (bs : Bs) (sp : Option Addr) (cap : Nat) (w : World) (hl : bs.length ≤ 100000) (hc : bs.length ≤ cap) (hc2 : cap ≤ maxLen) (hS : SrcA w sp bs) (hT : Tab w) :
    Calls Tryd.prog 21 #[.agg (pcells p).toArray, .slice sp bs.length cap] w fun e w' => e = .returned (.bool (fitsP p bs)) ∧ Below w.heap.size w w' := by
  have HP := Lib.hid hp
  have HSP := Lib.hid (size_pc hp)
  have HW : Hid (FtS p w sp bs (w.alloc (.cells (pcells p).toArray 28))) := Lib.hid (fts_start hS hT)
  obtain ⟨L, hL⟩ : ∃ L, bs.length = L := ⟨_, rfl⟩
  have HL := Lib.hid hL
  have HC : Hid (L ≤ cap) := Lib.hid (by omega)
  have HC2 := Lib.hid hc2
  have HLL : Hid (L ≤ 100000) := Lib.hid (by omega)
  rw [hL]
  obtain ⟨f, hf⟩ : ∃ f, fitsP p bs = f := ⟨_, rfl⟩
  have HF := Lib.hid hf
  rw [hf]
  clear hp hS hT hc hc2 hl hL hf
  go_enter Tryd.func21, Tryd.ntmps21
  go_upto_region 1 with fail
  generalize (w.alloc (.cells (pcells p).toArray 28)) = W at HW ⊢
  by_cases h5 : L = 512
  · have ih : (L : Int) = 512 := by omega
    have hd : decide ((L : Int) = 512) = true := decide_eq_true ih
    have HD := Lib.hid hd
    have hsl := seal_any p HP.out bs sp cap W.drew (by rw [HL.out]; exact HLL.out) (by rw [HL.out]; exact HC.out) HC2.out HW.out.drew.2.1 HW.out.drew.2.2.1
    rw [HL.out] at hsl
    have HSL := Lib.hid hsl
    have hfq : f = eqP (sealP p bs) p := by rw [fitsP_eq p bs (by rw [HL.out]; exact h5)]; exact HF.out.symm
    have HFQ := Lib.hid hfq
    clear hd hsl hfq
    refine wp_region_sched (.take 0 (.take 1 (.take 2 (.take 3 (.take 4 (.take 5 (.take 7 (.step 6 (.take 8 (.take 9 (.take 10 (.nil)))))))))))) (by kernel_rfl) (by kernel_rfl) (fun d _ _ _ _ h => by cases d <;> exact h) (FtS p w sp bs) HW.out.drew ?_
    refine wpG_take _ (.slice sp L cap) rfl (by rfl) (fun X hX => by first | rfl | go_simp) ?_
    (try simp only [Act.put, List.setIfInBounds_toArray, List.set_cons_zero, List.set_cons_succ])
    refine wpG_take _ (.int .i64 (L : Int)) rfl (by rfl) (fun X hX => by first | rfl | go_simp) ?_
    (try simp only [Act.put, List.setIfInBounds_toArray, List.set_cons_zero, List.set_cons_succ])
    refine wpG_take _ (.bool true) rfl (by rfl) (fun X hX => by rw [← HD.out]; exact ex_eqi Tryd.underlying3 rfl rfl rfl) ?_
    (try simp only [Act.put, List.setIfInBounds_toArray, List.set_cons_zero, List.set_cons_succ])
    refine wpG_take _ (.bool true) rfl (by rfl) (fun X hX => by first | rfl | go_simp) ?_
    (try simp only [Act.put, List.setIfInBounds_toArray, List.set_cons_zero, List.set_cons_succ])
    refine wpG_take _ (.agg (pcells p).toArray) rfl (by rfl) (fun X hX => ex_ld (ty := 28) (cs := pcells p) rfl rfl (rng_all hX.1) Tryd.underlying28 rfl (by rw [sizeP, pcells_length HP.out])) ?_
    (try simp only [Act.put, List.setIfInBounds_toArray, List.set_cons_zero, List.set_cons_succ])
    refine wpG_take _ (.slice sp L cap) rfl (by rfl) (fun X hX => by first | rfl | go_simp) ?_
    (try simp only [Act.put, List.setIfInBounds_toArray, List.set_cons_zero, List.set_cons_succ])
    refine wpG_take _ (.agg (pcells p).toArray) rfl (by rfl) (fun X hX => ex_ld (ty := 28) (cs := pcells p) rfl rfl (rng_all hX.1) Tryd.underlying28 rfl (by rw [sizeP, pcells_length HP.out])) ?_
    (try simp only [Act.put, List.setIfInBounds_toArray, List.set_cons_zero, List.set_cons_succ])
    refine wpG_call _ rfl (by rfl) 20 #[.agg (pcells p).toArray, .slice sp L cap] (fun _ => by go_simp) (fun u w' => u = .agg (pcells (sealP p bs)).toArray) (HSL.out.mono fun e w' ⟨e1, e2⟩ => ⟨_, e1, HW.out.drew.grown e2, rfl⟩) ?_
    rintro u w3 hs3 rfl
    refine ⟨_, fun _ h => h, hs3, ?_⟩
    (try simp only [Act.put, List.setIfInBounds_toArray, List.set_cons_zero, List.set_cons_succ])
    refine wpG_take _ (.bool f) rfl (by rfl) (fun X hX => by rw [HFQ.out]; exact ex_eqP rfl rfl rfl (sealP_ok HP.out bs) HP.out) ?_
    (try simp only [Act.put, List.setIfInBounds_toArray, List.set_cons_zero, List.set_cons_succ])
    refine wpG_take _ (.bool f) rfl (by rfl) (fun X hX => by first | rfl | go_simp) ?_
    (try simp only [Act.put, List.setIfInBounds_toArray, List.set_cons_zero, List.set_cons_succ])
    refine wpG_take _ (.bool f) rfl (by rfl) (fun X hX => by first | rfl | go_simp) ?_
    (try simp only [Act.put, List.setIfInBounds_toArray, List.set_cons_zero, List.set_cons_succ])
    refine wpG_nil ?_
    have HB := Lib.hid hs3.2.2.2
    clear hs3
    go_wp2_with fail
    go_ret
    exact ⟨rfl, HB.out⟩
  · have ih : ¬ (L : Int) = 512 := by omega
    have hd : decide ((L : Int) = 512) = false := decide_eq_false ih
    have hf : f = false := by rw [← HF.out]; unfold fitsP; rw [decide_eq_false (by rw [HL.out]; exact h5)]; rfl
    have HD := Lib.hid hd
    subst hf
    clear hd
    refine wp_region_sched (.take 0 (.take 1 (.take 2 (.take 3 (.take 4 (.take 5 (.take 7 (.step 6 (.take 8 (.take 9 (.take 10 (.nil)))))))))))) (by kernel_rfl) (by kernel_rfl) (fun d _ _ _ _ h => by cases d <;> exact h) (FtS p w sp bs) HW.out.drew ?_
    refine wpG_take _ (.slice sp L cap) rfl (by rfl) (fun X hX => by first | rfl | go_simp) ?_
    (try simp only [Act.put, List.setIfInBounds_toArray, List.set_cons_zero, List.set_cons_succ])
    refine wpG_take _ (.int .i64 (L : Int)) rfl (by rfl) (fun X hX => by first | rfl | go_simp) ?_
    (try simp only [Act.put, List.setIfInBounds_toArray, List.set_cons_zero, List.set_cons_succ])
    refine wpG_take _ (.bool false) rfl (by rfl) (fun X hX => by rw [← HD.out]; exact ex_eqi Tryd.underlying3 rfl rfl rfl) ?_
    (try simp only [Act.put, List.setIfInBounds_toArray, List.set_cons_zero, List.set_cons_succ])
    refine wpG_take _ (.bool false) rfl (by rfl) (fun X hX => by first | rfl | go_simp) ?_
    (try simp only [Act.put, List.setIfInBounds_toArray, List.set_cons_zero, List.set_cons_succ])
    refine wpG_pass _ rfl (by rfl) ?_
    (try simp only [Act.put, List.setIfInBounds_toArray, List.set_cons_zero, List.set_cons_succ])
    refine wpG_pass _ rfl (by rfl) ?_
    (try simp only [Act.put, List.setIfInBounds_toArray, List.set_cons_zero, List.set_cons_succ])
    refine wpG_pass _ rfl (by rfl) ?_
    (try simp only [Act.put, List.setIfInBounds_toArray, List.set_cons_zero, List.set_cons_succ])
    refine wpG_skip _ rfl (by rfl) HW.out.drew ?_
    (try simp only [Act.put, List.setIfInBounds_toArray, List.set_cons_zero, List.set_cons_succ])
    refine wpG_pass _ rfl (by rfl) ?_
    (try simp only [Act.put, List.setIfInBounds_toArray, List.set_cons_zero, List.set_cons_succ])
    refine wpG_take _ (.bool false) rfl (by rfl) (fun X hX => by first | rfl | go_simp) ?_
    (try simp only [Act.put, List.setIfInBounds_toArray, List.set_cons_zero, List.set_cons_succ])
    refine wpG_take _ (.bool false) rfl (by rfl) (fun X hX => by first | rfl | go_simp) ?_
    (try simp only [Act.put, List.setIfInBounds_toArray, List.set_cons_zero, List.set_cons_succ])
    refine wpG_nil ?_
    have HB := Lib.hid HW.out.drew.2.2.2
    clear HW
    go_wp2_with fail
    go_ret
    exact ⟨rfl, HB.out⟩
end Go.Proofs.YtlibdcgpjglcpaaDoor
