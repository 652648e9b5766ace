/- Do both disks tell the same? -/
import Derived.Test.YtneemllgimeacaaSm
namespace Go.Proofs.Ytneemllgimeacaa
open Go.RowKit

theorem ex_ld4 {ρ : Operand → Value} {o : Oper} {x : Operand} {ad : Addr} {v : Value} {w : World} (ho : o.op = .load 4 x) (hx : ρ x = .pointer (some ad)) (hc : w.cell? ad = some v) : (execOp ρ o).run Try.prog w = .ok (.value v) w := by
  unfold execOp
  simp only [ho]
  go_simp
theorem ex_neB {ρ : Operand → Value} {o : Oper} {x y : Operand} {b : Bool} {w : World} (ho : o.op = .binOp .neq 4 x y 4) (hx : ρ x = .bool b) (hy : ρ y = .bool b) : (execOp ρ o).run Try.prog w = .ok (.value (.bool false)) w := by
  unfold execOp
  simp only [ho]
  go_simp
theorem ex_neI {ρ : Operand → Value} {o : Oper} {x y : Operand} {z : Int} {w : World} (ho : o.op = .binOp .neq 3 x y 3) (hx : ρ x = .int .i64 z) (hy : ρ y = .int .i64 z) : (execOp ρ o).run Try.prog w = .ok (.value (.bool false)) w := by
  unfold execOp
  simp only [ho]
  go_simp
theorem ex_len37 {ρ : Operand → Value} {o : Oper} {x : Operand} {sp : Option Addr} {n cap : Nat} {w : World} (ho : o.op = .call { callee := .builtin .len, args := #[x], argTypes := #[37] }) (hx : ρ x = .slice sp n cap) : (execOp ρ o).run Try.prog w = .ok (.value (.int .i64 (n : Int))) w := by
  unfold execOp
  simp only [ho]
  go_simp
theorem wrap16 {z : Int} (h : 0 ≤ z ∧ z < 65536) : IntKind.u16.wrap z = z := by
  unfold IntKind.wrap
  simp [IntKind.signed, IntKind.bits]
  omega
def AkRel (w : World) (n : Nat) (i : Value) (wr : World) : Prop := ∃ k : Nat, k ≤ n + 2 ∧ i = .int .i64 (k : Int) ∧ Below w.heap.size w wr
set_option maxRecDepth 100000 in
set_option maxHeartbeats 4000000 in
theorem alike_any (D Q R q : Nat) (S T : Nat → Prop) (s : Dsk) (t : Rsk) (hsim : Sim s t) (w : World) (h : DkAt w D Q S s) (hr : RkAt w R q T t) (hs : Small t) (hn : t.n ≤ 20) :
    Calls Try.prog 15 #[.pointer (some ⟨D, 0, none⟩), .pointer (some ⟨R, 0, none⟩)] w fun e w' => e = .returned (.bool true) ∧ Below w.heap.size w w' := by
  have HSIM := Lib.hid hsim
  have HD := Lib.hid h
  have HR := Lib.hid hr
  have HS := Lib.hid hs
  obtain ⟨vm, vc, vb, vs, va, hin⟩ := hr
  obtain ⟨c0, -, -, c3, -, -, c6, -, -⟩ := hin.c
  obtain ⟨sp3, cap3, rfl⟩ := own_slice hin.oc
  rw [hsim.n] at c0
  rw [hsim.dead] at c6
  rw [hsim.cache] at c3
  rw [hsim.n] at hn
  have hTl := hin.blk.lt
  clear hsim h hs hin
  go_enter Try.func15, Try.ntmps15
  go_wp2_with fail
  refine wp_region_sched (.take 0 (.take 2 (.take 3 (.take 4 (.take 5 (.step 1 (.take 6 (.take 7 (.take 8 (.take 10 (.take 11 (.take 12 (.take 13 (.step 9 (.take 14 (.take 15 (.take 16 (.take 17 (.take 19 (.take 20 (.take 21 (.take 22 (.take 23 (.step 18 (.take 24 (.take 25 (.nil))))))))))))))))))))))))))) (by kernel_rfl) (by kernel_rfl) (fun d _ _ _ _ h => by cases d <;> exact h) (fun X => X = w.drew) rfl ?_
  refine wpG_take _ (.pointer (some ⟨D, 0, none⟩)) rfl (by rfl) (fun X hX => by rfl) ?_
  (try simp only [Act.put, List.setIfInBounds_toArray, List.set_cons_zero, List.set_cons_succ])
  refine wpG_take _ (.pointer (some ⟨R, 0, none⟩)) rfl (by rfl) (fun X hX => by rfl) ?_
  (try simp only [Act.put, List.setIfInBounds_toArray, List.set_cons_zero, List.set_cons_succ])
  refine wpG_take _ (.pointer (some ⟨R, 0, none⟩)) rfl (by rfl) (fun X hX => ex_nc rfl rfl) ?_
  (try simp only [Act.put, List.setIfInBounds_toArray, List.set_cons_zero, List.set_cons_succ])
  refine wpG_take _ (.pointer (some ⟨R, 6, none⟩)) rfl (by rfl) (fun X hX => ex_fa40 (by omega) rfl rfl) ?_
  (try simp only [Act.put, List.setIfInBounds_toArray, List.set_cons_zero, List.set_cons_succ])
  refine wpG_take _ (.bool s.dead) rfl (by rfl) (fun X hX => ex_ld4 rfl rfl (by rw [hX]; exact c6)) ?_
  (try simp only [Act.put, List.setIfInBounds_toArray, List.set_cons_zero, List.set_cons_succ])
  refine wpG_call _ rfl (by rfl) 30 #[.pointer (some ⟨D, 0, none⟩)] (fun _ => by go_simp) (fun u w' => u = .bool s.dead) ((dead_any D Q S s w.drew (HD.out.chg (F := fun _ => False) ((Chg.refl _ w).drew) (fun _ _ h => h))).mono fun e w' ⟨h1, h2⟩ => ⟨_, h1, h2.symm, rfl⟩) ?_
  rintro u w1 hw1 rfl
  refine ⟨_, fun _ h => h, hw1, ?_⟩
  subst hw1
  (try simp only [Act.put, List.setIfInBounds_toArray, List.set_cons_zero, List.set_cons_succ])
  refine wpG_take _ (.bool false) rfl (by rfl) (fun X hX => ex_neB rfl rfl rfl) ?_
  (try simp only [Act.put, List.setIfInBounds_toArray, List.set_cons_zero, List.set_cons_succ])
  refine wpG_take _ (.bool false) rfl (by rfl) (fun X hX => by rfl) ?_
  (try simp only [Act.put, List.setIfInBounds_toArray, List.set_cons_zero, List.set_cons_succ])
  refine wpG_take _ (.pointer (some ⟨D, 0, none⟩)) rfl (by rfl) (fun X hX => by rfl) ?_
  (try simp only [Act.put, List.setIfInBounds_toArray, List.set_cons_zero, List.set_cons_succ])
  refine wpG_take _ (.pointer (some ⟨R, 0, none⟩)) rfl (by rfl) (fun X hX => by rfl) ?_
  (try simp only [Act.put, List.setIfInBounds_toArray, List.set_cons_zero, List.set_cons_succ])
  refine wpG_take _ (.pointer (some ⟨R, 0, none⟩)) rfl (by rfl) (fun X hX => ex_nc rfl rfl) ?_
  (try simp only [Act.put, List.setIfInBounds_toArray, List.set_cons_zero, List.set_cons_succ])
  refine wpG_take _ (.pointer (some ⟨R, 0, none⟩)) rfl (by rfl) (fun X hX => ex_fa40 (by omega) rfl rfl) ?_
  (try simp only [Act.put, List.setIfInBounds_toArray, List.set_cons_zero, List.set_cons_succ])
  refine wpG_take _ (.int .i64 (s.n : Int)) rfl (by rfl) (fun X hX => ex_ld3 rfl rfl (by rw [hX]; exact c0)) ?_
  (try simp only [Act.put, List.setIfInBounds_toArray, List.set_cons_zero, List.set_cons_succ])
  refine wpG_call _ rfl (by rfl) 31 #[.pointer (some ⟨D, 0, none⟩)] (fun _ => by go_simp) (fun u w' => u = .int .i64 (s.n : Int)) ((blocks_any D Q S s w.drew (HD.out.chg (F := fun _ => False) ((Chg.refl _ w).drew) (fun _ _ h => h))).mono fun e w' ⟨h1, h2⟩ => ⟨_, h1, h2.symm, rfl⟩) ?_
  rintro u w1 hw1 rfl
  refine ⟨_, fun _ h => h, hw1, ?_⟩
  subst hw1
  (try simp only [Act.put, List.setIfInBounds_toArray, List.set_cons_zero, List.set_cons_succ])
  refine wpG_take _ (.bool false) rfl (by rfl) (fun X hX => ex_neI rfl rfl rfl) ?_
  (try simp only [Act.put, List.setIfInBounds_toArray, List.set_cons_zero, List.set_cons_succ])
  refine wpG_take _ (.bool false) rfl (by rfl) (fun X hX => by rfl) ?_
  (try simp only [Act.put, List.setIfInBounds_toArray, List.set_cons_zero, List.set_cons_succ])
  refine wpG_take _ (.bool false) rfl (by rfl) (fun X hX => by rfl) ?_
  (try simp only [Act.put, List.setIfInBounds_toArray, List.set_cons_zero, List.set_cons_succ])
  refine wpG_take _ (.pointer (some ⟨D, 0, none⟩)) rfl (by rfl) (fun X hX => by rfl) ?_
  (try simp only [Act.put, List.setIfInBounds_toArray, List.set_cons_zero, List.set_cons_succ])
  refine wpG_take _ (.pointer (some ⟨R, 0, none⟩)) rfl (by rfl) (fun X hX => by rfl) ?_
  (try simp only [Act.put, List.setIfInBounds_toArray, List.set_cons_zero, List.set_cons_succ])
  refine wpG_take _ (.pointer (some ⟨R, 0, none⟩)) rfl (by rfl) (fun X hX => ex_nc rfl rfl) ?_
  (try simp only [Act.put, List.setIfInBounds_toArray, List.set_cons_zero, List.set_cons_succ])
  refine wpG_take _ (.pointer (some ⟨R, 3, none⟩)) rfl (by rfl) (fun X hX => ex_fa40 (by omega) rfl rfl) ?_
  (try simp only [Act.put, List.setIfInBounds_toArray, List.set_cons_zero, List.set_cons_succ])
  refine wpG_take _ (.slice sp3 s.cache.length cap3) rfl (by rfl) (fun X hX => ex_ld37 rfl rfl (by rw [hX]; exact c3)) ?_
  (try simp only [Act.put, List.setIfInBounds_toArray, List.set_cons_zero, List.set_cons_succ])
  refine wpG_take _ (.int .i64 (s.cache.length : Int)) rfl (by rfl) (fun X hX => ex_len37 rfl rfl) ?_
  (try simp only [Act.put, List.setIfInBounds_toArray, List.set_cons_zero, List.set_cons_succ])
  refine wpG_call _ rfl (by rfl) 32 #[.pointer (some ⟨D, 0, none⟩)] (fun _ => by go_simp) (fun u w' => u = .int .i64 (s.cache.length : Int)) ((cached_any D Q S s w.drew (HD.out.chg (F := fun _ => False) ((Chg.refl _ w).drew) (fun _ _ h => h))).mono fun e w' ⟨h1, h2⟩ => ⟨_, h1, h2.symm, rfl⟩) ?_
  rintro u w1 hw1 rfl
  refine ⟨_, fun _ h => h, hw1, ?_⟩
  subst hw1
  (try simp only [Act.put, List.setIfInBounds_toArray, List.set_cons_zero, List.set_cons_succ])
  refine wpG_take _ (.bool false) rfl (by rfl) (fun X hX => ex_neI rfl rfl rfl) ?_
  (try simp only [Act.put, List.setIfInBounds_toArray, List.set_cons_zero, List.set_cons_succ])
  refine wpG_take _ (.bool false) rfl (by rfl) (fun X hX => by rfl) ?_
  (try simp only [Act.put, List.setIfInBounds_toArray, List.set_cons_zero, List.set_cons_succ])
  refine wpG_nil ?_
  go_wp2_with fail
  have HRel := Lib.hid (show AkRel w s.n (.int .i64 0) w.drew from ⟨0, Nat.zero_le _, rfl, (Below.refl _ _).drew⟩)
  go_loopw [5] (fun i wr => AkRel w s.n i wr) (fun i _ => s.n + 2 - (intOf i).toNat)
  case atStart => exact HRel.out
  case round =>
    clear HRel
    obtain ⟨k, hk, rfl, hb⟩ := hrel
    have HB := Lib.hid hb
    have e0 : wr.cell? ⟨R, 0, none⟩ = some (.int .i64 (s.n : Int)) := (hb.cell (p := ⟨R, 0, none⟩) hTl).trans c0
    have hw1 := IntWalk.i64_in ((k : Int) + 1) (by omega)
    have hw2 := IntWalk.i64_in ((s.n : Int) + 2) (by omega)
    have hw3 : IntKind.u16.wrap (k : Int) = (k : Int) := wrap16 (by omega)
    clear hb c0 c3 c6
    by_cases hlt : k < s.n + 2
    · have hlti : (k : Int) < (s.n : Int) + 2 := by omega
      go_wp2_with fail
      refine (look_any D Q S s k (by omega) wr (HD.out.chg (F := fun _ => False) (Chg.of_below (HB.out)) (fun _ _ h => h)) (by rw [← HSIM.out.cache]; exact HS.out.c)).mono ?_
      rintro e w2 ⟨v, rfl, htold, hb2⟩
      have HB2 := Lib.hid hb2
      have HT := Lib.hid htold
      clear hb2 htold
      go_wp2_with fail
      have hb12 : Below w.heap.size w w2 := HB.out.trans (HB2.out.mono HB.out.size)
      have HB12 := Lib.hid hb12
      refine (rlook_any R q T t k (by omega) w2 (HR.out.chg (F := fun _ => False) (Chg.of_below hb12) (fun _ _ h => h)) HS.out).mono ?_
      rw [HSIM.out.looks k]
      rintro e w3 ⟨rfl, hb3⟩
      have HB3 := Lib.hid hb3
      clear hb3 hb12
      obtain ⟨lk, hlk⟩ : ∃ lk, look s k = lk := ⟨_, rfl⟩
      rw [hlk] at HT ⊢
      clear hlk
      have hcv : ∃ l : Bs, (lk.getD []) = l ∧ (convert 42 9 v).run Try.prog w3 = .ok (.string (bstr l)) w3 := by
        cases lk with
        | none =>
          have e : v = .slice none 0 0 := HT.out
          subst e
          exact ⟨[], rfl, conv_str (l := []) (cap := 0) (SrcA.nil _ _)⟩
        | some b =>
          obtain ⟨g, rfl, hbl, hblk, _⟩ := HT.out
          have hx := conv_str (l := b) (cap := 512) (hblk.below HB3.out hblk.lt).srcB
          rw [hbl] at hx
          exact ⟨b, rfl, hx⟩
      obtain ⟨l, hl, hcv⟩ := hcv
      rw [hl]
      generalize lk.isSome = bs at *
      go_wp2_with fail
      go_roundw
      case rel => exact ⟨k + 1, by omega, by go_num, HB12.out.trans (HB3.out.mono HB12.out.size)⟩
      case measure => simp [intOf]; omega
    · have hlti : ¬ (k : Int) < (s.n : Int) + 2 := by omega
      go_wp2_with fail
      go_ret
      exact ⟨rfl, HB.out⟩
end Go.Proofs.Ytneemllgimeacaa
