/- Content: wakes. -/
import Derived.Test.YthionhliokhcgaaCr
namespace Go.Proofs.Ythionhliokhcgaa
open Go.RowKit Go.Shelf

attribute [local go_sem] Oper.semAt_some

section
variable {ρ : Operand → Value} {o : Oper} {x y lo : Operand} {w : World}
theorem c_cvS {sp : Option Addr} {n cap : Nat} {l : B8} (hn : l.length = n) (hS : SrcA w sp l) (ho : o.op = .convert 24 9 x) (hx : ρ x = .slice sp n cap) : (execOp ρ o).run Try.prog w = .ok (.value (.string (bstr l))) w := by
  subst hn
  have h := conv_str (cap := cap) hS
  unfold execOp
  simp only [ho, hx, Sem.run_bind, h, Result.andThen_ok, Sem.run_pure]
theorem c_slC {g n cap k : Nat} (ho : o.op = .slice 24 x (some (.const (.int .i64 (k : Int)))) none none) (hx : ρ x = .slice (some ⟨g, 0, none⟩) n cap) (hk : k < n) (hn : n ≤ cap) (hlo : ρ (.const (.int .i64 (k : Int))) = .int .i64 (k : Int)) : (execOp ρ o).run Try.prog w = .ok (.value (.slice (some ⟨g, k, none⟩) (n - k) (cap - k))) w := by
  have e1 : ¬ cap = k := by omega
  have e2 : ¬ (n : Int) < (k : Int) := by omega
  have e3 : ¬ n < k := by omega
  unfold execOp
  simp only [ho]
  go_simp
theorem c_slT {g n cap k : Nat} (ho : o.op = .slice 24 x none (some (.const (.int .i64 (k : Int)))) none) (hx : ρ x = .slice (some ⟨g, 0, none⟩) n cap) (hk : k ≤ n) (hn : n ≤ cap) (hlo : ρ (.const (.int .i64 (k : Int))) = .int .i64 (k : Int)) : (execOp ρ o).run Try.prog w = .ok (.value (.slice (some ⟨g, 0, none⟩) k cap)) w := by
  have e2 : ¬ (cap : Int) < (k : Int) := by omega
  have e3 : ¬ cap < k := by omega
  unfold execOp
  simp only [ho]
  go_simp
theorem c_neS {a : ByteArray} {k : TypeId} (ho : o.op = .binOp .neq 9 x y k) (hx : ρ x = .string a) (hy : ρ y = .string a) : (execOp ρ o).run Try.prog w = .ok (.value (.bool false)) w := by
  unfold execOp
  simp only [ho]
  simp [go_sem, hx, hy]
theorem c_eqS {a : ByteArray} {k : TypeId} (ho : o.op = .binOp .eql 9 x y k) (hx : ρ x = .string a) (hy : ρ y = .string a) : (execOp ρ o).run Try.prog w = .ok (.value (.bool true)) w := by
  unfold execOp
  simp only [ho]
  simp [go_sem, hx, hy]
end
theorem kt0_510 : some (V8 (kt0.getD 510 0)) = some (.int .u8 97) := by kernel_rfl
theorem kt0_511 : some (V8 (kt0.getD 511 0)) = some (.int .u8 0) := by kernel_rfl
theorem ranQ_short (wt : Nat → Nat → Bool) (fr te n : Nat) (er : Bool) (h : n < 100) : (ranQ wt fr te n er).length + 100 < 1000000 := by
  unfold ranQ
  split
  · have := askU_len wt fr te (n + 1); omega
  · have := askU_len wt fr te n; omega
theorem ranQ_short2 (wt wt' : Nat → Nat → Bool) (fr te n fr' te' n' : Nat) (er er' : Bool) (h : n < 100) (h' : n' < 100) : (ranQ wt fr te n er).length + (ranQ wt' fr' te' n' er').length + 100 < 1000000 := by
  have h1 : (ranQ wt fr te n er).length ≤ n + 1 := by
    unfold ranQ
    split
    · exact askU_len wt fr te (n + 1)
    · have := askU_len wt fr te n; omega
  have h2 : (ranQ wt' fr' te' n' er').length ≤ n' + 1 := by
    unfold ranQ
    split
    · exact askU_len wt' fr' te' (n' + 1)
    · have := askU_len wt' fr' te' n'; omega
  omega
theorem c_iaB {ρ : Operand → Value} {o : Oper} {x y : Operand} {w : World} {g n cap k : Nat} (ho : o.op = .indexAddr 24 x y) (hx : ρ x = .slice (some ⟨g, 0, none⟩) n cap) (hy : ρ y = .int .i64 (k : Int)) (hk : k < n ∧ n ≤ cap) :
    (execOp ρ o).run Try.prog w = .ok (.value (.pointer (some ⟨g, k, none⟩))) w := by
  have h1 : ¬ n ≤ k := by omega
  unfold execOp
  simp only [ho]
  go_simp
theorem c_ldU8 {ρ : Operand → Value} {o : Oper} {x : Operand} {w : World} {ad : Addr} {z : Int} (ho : o.op = .load 5 x) (hx : ρ x = .pointer (some ad)) (hc : w.cell? ad = some (.int .u8 z)) : (execOp ρ o).run Try.prog w = .ok (.value (.int .u8 z)) w := by
  unfold execOp; simp only [ho]; go_simp
theorem srcA_part {w : World} {g : Nat} {l : B8} (h : SrcA w (some ⟨g, 0, none⟩) l) (a k : Nat) : SrcA w (some ⟨g, a, none⟩) ((l.drop a).take k) := fun h0 => by
  have hl : 0 < l.length := by
    rw [List.length_take, List.length_drop] at h0; omega
  obtain ⟨g', o', e, hg, hc⟩ := h hl
  cases e
  refine ⟨g, a, rfl, hg, fun j hj => ?_⟩
  rw [List.length_take, List.length_drop] at hj
  have := hc (a + j) (by omega)
  rw [Nat.zero_add] at this
  rw [this, List.getD_eq_getElem?_getD, List.getD_eq_getElem?_getD, List.getElem?_take, if_pos (by omega), List.getElem?_drop]
theorem wp_join {c : Code} {Q : Exit → Act → World → Prop} {a : Act} {w : World} (h : ∃ A W, c.wp Try.prog (fun e a w => e = .normal ∧ a = A ∧ w = W) a w ∧ Q .normal A W) : c.wp Try.prog Q a w := by
  obtain ⟨A, W, h1, h2⟩ := h
  exact Code.wp_mono (fun e a w ⟨e1, e2, e3⟩ => by subst e1 e2 e3; exact h2) h1
theorem cell_new (w : World) (cs : Array Value) (t : TypeId) (fr : Nat × Nat) (j : Nat) (v : Value) (h : cs[j]? = some v) : (w.alloc (.cells cs t fr)).cell? ⟨w.heap.size, j, none⟩ = some v := by
  have hg : (w.alloc (.cells cs t fr)).heap[w.heap.size]? = some (.cells cs t fr) := heap_alloc_new w _
  unfold World.cell?
  simp only [hg]
  exact h
set_option maxRecDepth 100000 in
set_option maxHeartbeats 16000000 in
theorem cwakes_any (w : World) : Calls Try.prog 7 #[] w fun e w' => e = .returned (.bool true) ∧ Below w.heap.size w w' := by
  generalize hPost : (fun (e : Ending) (w' : World) => e = .returned (.bool true) ∧ Below w.heap.size w w') = Post
  have HP : Hid (∀ w', Below w.heap.size w w' → Post (.returned (.bool true)) w') := Lib.hid fun w' h => by rw [← hPost]; exact ⟨rfl, h⟩
  clear hPost
  have hsh := shW_new w w.heap.size (Nat.le_refl _)
  obtain ⟨Z, hZ⟩ : ∃ Z, zsh.toArray = Z := ⟨_, rfl⟩
  rw [hZ] at hsh
  have HZ := Lib.hid hZ; have HSH := Lib.hid hsh
  clear hZ hsh
  go_enter Try.func7, Try.ntmps7
  go_upto_region 1 with fail
  refine wp_region_list ?_
  refine wpList_build' rfl 33 #[] rfl Z (by simp only [List.map_toArray, List.map_nil]; rw [← HZ.out]; exact built_sh) ?_
  go_upto_region 2 with fail
  have hb1 : Below w.heap.size w (w.alloc (.cells Z 33)) := (Below.refl _ _).alloc (Nat.le_refl _) _
  obtain ⟨D, hD⟩ : ∃ D, w.heap.size = D := ⟨_, rfl⟩
  obtain ⟨W1, hW1⟩ : ∃ W, w.alloc (.cells Z 33) = W := ⟨_, rfl⟩
  have hD1 : D < W1.heap.size := by rw [← hW1, ← hD]; simp
  rw [hW1] at hb1 HSH ⊢
  rw [hD] at HSH hb1 HP ⊢
  have HB1 := Lib.hid hb1; have HD1 := Lib.hid hD1; have HDD := Lib.hid hD
  clear hW1 hD hb1 hD1
  have kc := fun (w : World) (C : Array Value) (n c : Nat) => Lib.run_convert_bytes_const (P := Try.prog) w 24 5 C n c Try.underlying24 Try.underlying5
  have hW2 : ∀ W2, W2 = W1.alloc (.cells #[.int .u8 97, .int .u8 98, .int .u8 99, .int .u8 100] 5 (4, 5)) → Below W1.heap.size W1 W2 ∧ SrcW W2 D (.slice none 0 0) W2 (some ⟨W1.heap.size, 0, none⟩) abcd := fun W2 h => by
    subst h
    refine ⟨(Below.refl _ _).alloc (Nat.le_refl _) _, fun _ => ⟨W1.heap.size, 0, rfl, by simp, by have := HD1.out; omega, (fun e => by cases e), fun j hj => ?_⟩⟩
    have hj4 : j < 4 := hj
    have : j = 0 ∨ j = 1 ∨ j = 2 ∨ j = 3 := by omega
    rw [Nat.zero_add]
    rcases this with rfl | rfl | rfl | rfl <;> exact cell_new _ _ _ _ _ _ rfl
  have HW2 := Lib.hid hW2
  clear hW2
  go_wp2_with fail
  obtain ⟨W2, hW2⟩ : ∃ W2, W1.alloc (.cells #[.int .u8 97, .int .u8 98, .int .u8 99, .int .u8 100] 5 (4, 5)) = W2 := ⟨_, rfl⟩
  obtain ⟨hb2, hsrc⟩ := HW2.out W2 hW2.symm
  rw [hW2]
  clear hW2 HW2 kc
  have hsh2 := HSH.out.below hb2
  have hD2 : D ≤ W2.heap.size := by have := HD1.out; have := hb2.size; omega
  have hcall : Calls Try.prog 8 #[.iface 29 (.pointer (some ⟨D, 0, none⟩)), .int .u32 0, .int .i64 510, .slice (some ⟨W1.heap.size, 0, none⟩) 4 4] W2 (CWrPost W2 D D (List.replicate 64 (.slice none 0 0)) km0 0 (.slice none 0 0) [] 0 510 abcd) :=
    cwrite_any hsh2 km0_le hD2 (by simp) 0 510 abcd _ 4 (by omega) (by decide) (by decide) (by decide) (by decide) (by unfold maxLen; omega) hsrc
  refine hcall.mono ?_
  rintro e W3 ⟨n, er, v, z, hran, ⟨av3, hsh3, hm3⟩, rfl, hres⟩
  obtain rfl : er = false := hran.no_bad (fun _ _ => bad0 _)
  obtain rfl : n = 2 := hran.count (k := 2) (by decide) (fun j hj => by
    have : j = 0 ∨ j = 1 := by omega
    rcases this with rfl | rfl <;> decide)
  rw [if_neg (by simp)] at hres
  rw [if_neg (by simp)]
  obtain ⟨rfl, hch⟩ := hres
  have hk : wrU km0 abcd 510 (510 + abcd.length) 2 = kcs := k_wr
  rw [hk] at hch
  obtain ⟨sp, cap, rfl, hcap, hrd⟩ := hch.rd
  obtain ⟨g, rfl, hrd, ⟨lg, hbg⟩⟩ := hrd (by decide)
  obtain ⟨s0, c0, r00, r01, ro0⟩ := hrd.at_ 0 (0, kb0) rfl
  obtain ⟨s1, c1, r10, r11, ro1⟩ := hrd.at_ 1 (1, kb1) rfl
  obtain ⟨sp0, q0, e0, hc0, -, hs0⟩ := c_owns_form ro0
  obtain ⟨g0, rfl, -, -⟩ := hs0 (by rw [kb0_len]; omega)
  obtain ⟨sp1, q1, e1, hc1, -, hs1⟩ := c_owns_form ro1
  obtain ⟨g1, rfl, -, -⟩ := hs1 (by rw [kb1_len]; omega)
  cases e0
  cases e1
  have hsa0 := srcA_part (OwnB.form ro0 |> fun ⟨_, _, e, _, _, h, _⟩ => by cases e; exact h) 509 3
  have hsa1 := srcA_part (OwnB.form ro1 |> fun ⟨_, _, e, _, _, h, _⟩ => by cases e; exact h) 0 3
  have k0 : (kb0.drop 509).take 3 = [0, 97, 98] := by kernel_rfl
  have k1 : (kb1.drop 0).take 3 = [99, 100, 0] := by kernel_rfl
  rw [k0] at hsa0
  rw [k1] at hsa1
  rw [kb0_len] at r01 ro0 hc0
  rw [kb1_len] at r11 ro1 hc1
  have HA0 := Lib.hid hsa0; have HA1 := Lib.hid hsa1; have HO0 := Lib.hid ro0; have HO1 := Lib.hid ro1; have HC0 := Lib.hid hc0; have HC1 := Lib.hid hc1; have HSH3 := Lib.hid hsh3; have HM3 := Lib.hid hm3; have HBG := Lib.hid hbg; have HRD := Lib.hid hrd
  have HV3 : Hid (∀ k, av3.ownBlock = some k → D ≤ k) := Lib.hid (fun k hk => by
    rcases hm3.own k hk with e | e
    · cases e
    · omega)
  have HB3 : Hid (Below D w W3) := Lib.hid (by
    have h1 : Below D w W2 := HB1.out.trans (hb2.mono (Nat.le_of_lt HD1.out))
    have h2 : Below D W2 W3 := hm3.chg.below (fun k hk => by
      rcases hk with e | e
      · omega
      · cases e) hD2
    exact h1.trans (h2.mono (by have := HD1.out; omega)))
  clear hsa0 hsa1 ro0 ro1 hc0 hc1 hsh3 hm3 hbg hrd hs0 hs1 k0 k1 hch hk hcall hsh2 hran hD2 hsrc hb2 HSH HB1
  have d0 : W3.cell? ⟨g, 0, none⟩ = some (.int .u32 0) := r00
  have d1 : W3.cell? ⟨g, 1, none⟩ = some (.slice (some ⟨g0, 0, none⟩) 512 c0) := r01
  have d2 : W3.cell? ⟨g, 2, none⟩ = some (.int .u32 1) := r10
  have d3 : W3.cell? ⟨g, 3, none⟩ = some (.slice (some ⟨g1, 0, none⟩) 512 c1) := r11
  have hz : ((max 0 (510 + abcd.length) : Nat) : Int) = 514 := rfl
  have hlk : kcs.length = 2 := rfl
  rw [hz, hlk]
  rw [hlk] at hcap
  clear r00 r01 r10 r11 hz hlk
  go_upto_region 3 with fail
  refine wp_region_list ?_
  refine c_valG (w' := W3) (v := .int .i64 0) (by rfl) (by first | rfl | (unfold execOp; go_simp)) ?_
  (try simp only [Act.put, List.setIfInBounds_toArray, List.set_cons_zero, List.set_cons_succ])
  refine c_valG (w' := W3) (v := .bool false) (by rfl) (by first | rfl | (unfold execOp; go_simp)) ?_
  (try simp only [Act.put, List.setIfInBounds_toArray, List.set_cons_zero, List.set_cons_succ])
  refine c_valG (w' := W3) (v := .bool false) (by rfl) (by first | rfl | (unfold execOp; go_simp)) ?_
  (try simp only [Act.put, List.setIfInBounds_toArray, List.set_cons_zero, List.set_cons_succ])
  refine c_valG (w' := W3) (v := .int .u32 514) (by rfl) (by first | rfl | (unfold execOp; go_simp)) ?_
  (try simp only [Act.put, List.setIfInBounds_toArray, List.set_cons_zero, List.set_cons_succ])
  refine c_valG (w' := W3) (v := .bool false) (by rfl) (by first | rfl | (unfold execOp; go_simp)) ?_
  (try simp only [Act.put, List.setIfInBounds_toArray, List.set_cons_zero, List.set_cons_succ])
  refine c_valG (w' := W3) (v := .bool false) (by rfl) (by first | rfl | (unfold execOp; go_simp)) ?_
  (try simp only [Act.put, List.setIfInBounds_toArray, List.set_cons_zero, List.set_cons_succ])
  refine c_valG (w' := W3) (v := .bool false) (by rfl) (by first | rfl | (unfold execOp; go_simp)) ?_
  (try simp only [Act.put, List.setIfInBounds_toArray, List.set_cons_zero, List.set_cons_succ])
  refine c_valG (w' := W3) (v := .slice (some ⟨g, 0, none⟩) 2 cap) (by rfl) (by first | rfl | (unfold execOp; go_simp)) ?_
  (try simp only [Act.put, List.setIfInBounds_toArray, List.set_cons_zero, List.set_cons_succ])
  refine c_valG (w' := W3) (v := .int .i64 2) (by rfl) (by first | rfl | (unfold execOp; go_simp)) ?_
  (try simp only [Act.put, List.setIfInBounds_toArray, List.set_cons_zero, List.set_cons_succ])
  refine c_valG (w' := W3) (v := .bool false) (by rfl) (by first | rfl | (unfold execOp; go_simp)) ?_
  (try simp only [Act.put, List.setIfInBounds_toArray, List.set_cons_zero, List.set_cons_succ])
  refine c_valG (w' := W3) (v := .bool false) (by rfl) (by first | rfl | (unfold execOp; go_simp)) ?_
  (try simp only [Act.put, List.setIfInBounds_toArray, List.set_cons_zero, List.set_cons_succ])
  refine c_valG (w' := W3) (v := .bool false) (by rfl) (by first | rfl | (unfold execOp; go_simp)) ?_
  (try simp only [Act.put, List.setIfInBounds_toArray, List.set_cons_zero, List.set_cons_succ])
  refine c_valG (w' := W3) (v := .slice (some ⟨g, 0, none⟩) 2 cap) (by rfl) (by first | rfl | (unfold execOp; go_simp)) ?_
  (try simp only [Act.put, List.setIfInBounds_toArray, List.set_cons_zero, List.set_cons_succ])
  refine c_valG (w' := W3) (v := .pointer (some ⟨g, 2, none⟩)) (by rfl) (c_iaH (k := 1) (n := 2) (cap := cap) rfl rfl rfl ⟨by omega, by omega⟩) ?_
  (try simp only [Act.put, List.setIfInBounds_toArray, List.set_cons_zero, List.set_cons_succ])
  refine c_valG (w' := W3) (v := .pointer (some ⟨g, 2, none⟩)) (by rfl) (c_faH (a := 2) (j := 0) (.inl rfl) rfl rfl) ?_
  (try simp only [Act.put, List.setIfInBounds_toArray, List.set_cons_zero, List.set_cons_succ])
  refine c_valG (w' := W3) (v := .int .u32 1) (by rfl) (c_ldU rfl rfl d2) ?_
  (try simp only [Act.put, List.setIfInBounds_toArray, List.set_cons_zero, List.set_cons_succ])
  refine c_valG (w' := W3) (v := .bool false) (by rfl) (by first | rfl | (unfold execOp; go_simp)) ?_
  (try simp only [Act.put, List.setIfInBounds_toArray, List.set_cons_zero, List.set_cons_succ])
  refine c_valG (w' := W3) (v := .bool false) (by rfl) (by first | rfl | (unfold execOp; go_simp)) ?_
  (try simp only [Act.put, List.setIfInBounds_toArray, List.set_cons_zero, List.set_cons_succ])
  refine c_valG (w' := W3) (v := .bool false) (by rfl) (by first | rfl | (unfold execOp; go_simp)) ?_
  (try simp only [Act.put, List.setIfInBounds_toArray, List.set_cons_zero, List.set_cons_succ])
  refine c_valG (w' := W3) (v := .slice (some ⟨g, 0, none⟩) 2 cap) (by rfl) (by first | rfl | (unfold execOp; go_simp)) ?_
  (try simp only [Act.put, List.setIfInBounds_toArray, List.set_cons_zero, List.set_cons_succ])
  refine c_valG (w' := W3) (v := .pointer (some ⟨g, 0, none⟩)) (by rfl) (c_iaH (k := 0) (n := 2) (cap := cap) rfl rfl rfl ⟨by omega, by omega⟩) ?_
  (try simp only [Act.put, List.setIfInBounds_toArray, List.set_cons_zero, List.set_cons_succ])
  refine c_valG (w' := W3) (v := .pointer (some ⟨g, 1, none⟩)) (by rfl) (c_faH (a := 0) (j := 1) (.inr rfl) rfl rfl) ?_
  (try simp only [Act.put, List.setIfInBounds_toArray, List.set_cons_zero, List.set_cons_succ])
  refine c_valG (w' := W3) (v := .slice (some ⟨g0, 0, none⟩) 512 c0) (by rfl) (c_ldB rfl rfl d1) ?_
  (try simp only [Act.put, List.setIfInBounds_toArray, List.set_cons_zero, List.set_cons_succ])
  refine c_valG (w' := W3) (v := .slice (some ⟨g0, 509, none⟩) 3 (c0 - 509)) (by rfl) (c_slC (k := 509) rfl rfl (by omega) HC0.out rfl) ?_
  (try simp only [Act.put, List.setIfInBounds_toArray, List.set_cons_zero, List.set_cons_succ])
  refine c_valG (w' := W3) (v := .string (bstr [0, 97, 98])) (by rfl) (c_cvS (l := [0, 97, 98]) rfl HA0.out rfl rfl) ?_
  (try simp only [Act.put, List.setIfInBounds_toArray, List.set_cons_zero, List.set_cons_succ])
  refine c_valG (w' := W3) (v := .bool false) (by rfl) (c_neS (a := bstr [0, 97, 98]) rfl rfl rfl) ?_
  (try simp only [Act.put, List.setIfInBounds_toArray, List.set_cons_zero, List.set_cons_succ])
  refine c_valG (w' := W3) (v := .bool false) (by rfl) (by first | rfl | (unfold execOp; go_simp)) ?_
  (try simp only [Act.put, List.setIfInBounds_toArray, List.set_cons_zero, List.set_cons_succ])
  refine c_valG (w' := W3) (v := .bool false) (by rfl) (by first | rfl | (unfold execOp; go_simp)) ?_
  (try simp only [Act.put, List.setIfInBounds_toArray, List.set_cons_zero, List.set_cons_succ])
  refine c_valG (w' := W3) (v := .slice (some ⟨g, 0, none⟩) 2 cap) (by rfl) (by first | rfl | (unfold execOp; go_simp)) ?_
  (try simp only [Act.put, List.setIfInBounds_toArray, List.set_cons_zero, List.set_cons_succ])
  refine c_valG (w' := W3) (v := .pointer (some ⟨g, 2, none⟩)) (by rfl) (c_iaH (k := 1) (n := 2) (cap := cap) rfl rfl rfl ⟨by omega, by omega⟩) ?_
  (try simp only [Act.put, List.setIfInBounds_toArray, List.set_cons_zero, List.set_cons_succ])
  refine c_valG (w' := W3) (v := .pointer (some ⟨g, 3, none⟩)) (by rfl) (c_faH (a := 2) (j := 1) (.inr rfl) rfl rfl) ?_
  (try simp only [Act.put, List.setIfInBounds_toArray, List.set_cons_zero, List.set_cons_succ])
  refine c_valG (w' := W3) (v := .slice (some ⟨g1, 0, none⟩) 512 c1) (by rfl) (c_ldB rfl rfl d3) ?_
  (try simp only [Act.put, List.setIfInBounds_toArray, List.set_cons_zero, List.set_cons_succ])
  refine c_valG (w' := W3) (v := .slice (some ⟨g1, 0, none⟩) 3 c1) (by rfl) (c_slT (k := 3) rfl rfl (by omega) HC1.out rfl) ?_
  (try simp only [Act.put, List.setIfInBounds_toArray, List.set_cons_zero, List.set_cons_succ])
  refine c_valG (w' := W3) (v := .string (bstr [99, 100, 0])) (by rfl) (c_cvS (l := [99, 100, 0]) rfl HA1.out rfl rfl) ?_
  (try simp only [Act.put, List.setIfInBounds_toArray, List.set_cons_zero, List.set_cons_succ])
  refine c_valG (w' := W3) (v := .bool false) (by rfl) (c_neS (a := bstr [99, 100, 0]) rfl rfl rfl) ?_
  (try simp only [Act.put, List.setIfInBounds_toArray, List.set_cons_zero, List.set_cons_succ])
  refine c_valG (w' := W3) (v := .bool false) (by rfl) (by first | rfl | (unfold execOp; go_simp)) ?_
  (try simp only [Act.put, List.setIfInBounds_toArray, List.set_cons_zero, List.set_cons_succ])
  go_upto_region 5 with fail
  have h4 := HSH3.out.setRow ((Below.refl W3.heap.size W3).drew) (k := 0) (by omega) (v := .slice (some ⟨g0, 0, none⟩) 512 c0) (l := kb0) HO0.out
  obtain ⟨h4s, h4c, ⟨_, h4a⟩, h4f⟩ := h4
  have ho1 : OwnB (W3.drew.setCell ⟨D, 0, none⟩ (.slice (some ⟨g0, 0, none⟩) 512 c0)) 0 (.slice (some ⟨g1, 0, none⟩) 512 c1) kb1 := c_owns_chg HO1.out h4c (fun k hk e => by have e : k = D := e; subst e; exact c_own_ne HO1.out HSH3.out.d (by decide) hk)
  have h5 := h4s.setRow (Below.refl _ _) (k := 1) (by omega) (v := .slice (some ⟨g1, 0, none⟩) 512 c1) (l := kb1) ho1
  obtain ⟨h5s, h5c, ⟨_, h5a⟩, h5f⟩ := h5
  have hgD : ¬ g = D := fun e => by subst e; exact absurd (HBG.out.same HSH3.out.d) (by decide)
  have hcell : ∀ j u, W3.cell? ⟨g, j, none⟩ = some u → (W3.drew.setCell ⟨D, 0, none⟩ (.slice (some ⟨g0, 0, none⟩) 512 c0)).cell? ⟨g, j, none⟩ = some u ∧ ((W3.drew.setCell ⟨D, 0, none⟩ (.slice (some ⟨g0, 0, none⟩) 512 c0)).setCell ⟨D, 1, none⟩ (.slice (some ⟨g1, 0, none⟩) 512 c1)).cell? ⟨g, j, none⟩ = some u := fun j u h => by
    have h1 : (W3.drew.setCell ⟨D, 0, none⟩ (.slice (some ⟨g0, 0, none⟩) 512 c0)).cell? ⟨g, j, none⟩ = some u := (World.cell?_of_block (w := W3) (a := ⟨g, j, none⟩) (h4c.block g HBG.out.lt hgD)).trans h
    exact ⟨h1, (World.cell?_of_block (w := W3.drew.setCell ⟨D, 0, none⟩ (.slice (some ⟨g0, 0, none⟩) 512 c0)) (a := ⟨g, j, none⟩) (h5c.block g (Nat.lt_of_lt_of_le HBG.out.lt h4c.size) hgD)).trans h1⟩
  have HX1 := Lib.hid (And.intro (hcell 1 _ d1).1 (hcell 3 _ d3).1)
  have HX2 := Lib.hid (And.intro (hcell 1 _ d1).2 (hcell 3 _ d3).2)
  have HC4 := Lib.hid h4a; have HF4 := Lib.hid h4f; have HC5 := Lib.hid h5a; have HF5 := Lib.hid h5f; have HS5 := Lib.hid h5s
  have HB5 : Hid (Below D w ((W3.drew.setCell ⟨D, 0, none⟩ (.slice (some ⟨g0, 0, none⟩) 512 c0)).setCell ⟨D, 1, none⟩ (.slice (some ⟨g1, 0, none⟩) 512 c1))) := Lib.hid (by
    have h1 : Below D W3 ((W3.drew.setCell ⟨D, 0, none⟩ (.slice (some ⟨g0, 0, none⟩) 512 c0)).setCell ⟨D, 1, none⟩ (.slice (some ⟨g1, 0, none⟩) 512 c1)) := (h4c.trans' h5c).below (fun k e => by have e : k = D := e; omega) (Nat.le_of_lt HSH3.out.d.lt)
    exact HB3.out.trans (h1.mono (by have := HDD.out; omega)))
  clear h4s h4c h4a h4f ho1 h5s h5c h5a h5f hcell
  refine wp_join ?_
  apply Exists.intro
  apply Exists.intro
  constructor
  · refine wp_region_sched (.take 0 (.take 1 (.take 2 (.take 3 (.take 4 (.take 5 (.take 6 (.take 7 (.take 8 (.take 9 (.take 10 (.take 11 (.take 12 (.take 14 (.take 15 (.step 13 (.take 16 (.step 17 (.nil))))))))))))))))))) (by kernel_rfl) (by kernel_rfl) (fun d _ _ _ _ h => by cases h.1) (fun X => X.cell? ⟨g, 1, none⟩ = some (.slice (some ⟨g0, 0, none⟩) 512 c0) ∧ X.cell? ⟨g, 3, none⟩ = some (.slice (some ⟨g1, 0, none⟩) 512 c1)) ⟨d1, d3⟩ ?_
    refine wpG_take _ (.pointer (some ⟨D, 0, none⟩)) rfl (by rfl) (fun X hX => by first | rfl | go_simp) ?_
    (try simp only [Act.put, List.setIfInBounds_toArray, List.set_cons_zero, List.set_cons_succ])
    refine wpG_take _ (.pointer (some ⟨D, 0, none⟩)) rfl (by rfl) (fun X hX => by first | rfl | go_simp) ?_
    (try simp only [Act.put, List.setIfInBounds_toArray, List.set_cons_zero, List.set_cons_succ])
    refine wpG_take _ (.slice (some ⟨g, 0, none⟩) 2 cap) rfl (by rfl) (fun X hX => by first | rfl | go_simp) ?_
    (try simp only [Act.put, List.setIfInBounds_toArray, List.set_cons_zero, List.set_cons_succ])
    refine wpG_take _ (.pointer (some ⟨g, 0, none⟩)) rfl (by rfl) (fun X hX => c_iaH (k := 0) (n := 2) (cap := cap) rfl rfl rfl ⟨by omega, by omega⟩) ?_
    (try simp only [Act.put, List.setIfInBounds_toArray, List.set_cons_zero, List.set_cons_succ])
    refine wpG_take _ (.pointer (some ⟨g, 1, none⟩)) rfl (by rfl) (fun X hX => c_faH (a := 0) (j := 1) (.inr rfl) rfl rfl) ?_
    (try simp only [Act.put, List.setIfInBounds_toArray, List.set_cons_zero, List.set_cons_succ])
    refine wpG_take _ (.slice (some ⟨g0, 0, none⟩) 512 c0) rfl (by rfl) (fun X hX => c_ldB rfl rfl hX.1) ?_
    (try simp only [Act.put, List.setIfInBounds_toArray, List.set_cons_zero, List.set_cons_succ])
    refine wpG_take _ (.slice (some ⟨g, 0, none⟩) 2 cap) rfl (by rfl) (fun X hX => by first | rfl | go_simp) ?_
    (try simp only [Act.put, List.setIfInBounds_toArray, List.set_cons_zero, List.set_cons_succ])
    refine wpG_take _ (.pointer (some ⟨g, 2, none⟩)) rfl (by rfl) (fun X hX => c_iaH (k := 1) (n := 2) (cap := cap) rfl rfl rfl ⟨by omega, by omega⟩) ?_
    (try simp only [Act.put, List.setIfInBounds_toArray, List.set_cons_zero, List.set_cons_succ])
    refine wpG_take _ (.pointer (some ⟨g, 3, none⟩)) rfl (by rfl) (fun X hX => c_faH (a := 2) (j := 1) (.inr rfl) rfl rfl) ?_
    (try simp only [Act.put, List.setIfInBounds_toArray, List.set_cons_zero, List.set_cons_succ])
    refine wpG_take _ (.slice (some ⟨g1, 0, none⟩) 512 c1) rfl (by rfl) (fun X hX => c_ldB rfl rfl hX.2) ?_
    (try simp only [Act.put, List.setIfInBounds_toArray, List.set_cons_zero, List.set_cons_succ])
    refine wpG_take _ (.pointer (some ⟨D, 0, none⟩)) rfl (by rfl) (fun X hX => c_nc rfl rfl) ?_
    (try simp only [Act.put, List.setIfInBounds_toArray, List.set_cons_zero, List.set_cons_succ])
    refine wpG_take _ (.pointer (some ⟨D, 0, none⟩)) rfl (by rfl) (fun X hX => c_faS0 rfl rfl) ?_
    (try simp only [Act.put, List.setIfInBounds_toArray, List.set_cons_zero, List.set_cons_succ])
    refine wpG_take _ (.pointer (some ⟨D, 0, none⟩)) rfl (by rfl) (fun X hX => c_iaR (k := 0) (kd := .i64) rfl rfl rfl (by omega)) ?_
    (try simp only [Act.put, List.setIfInBounds_toArray, List.set_cons_zero, List.set_cons_succ])
    refine wpG_take _ (.pointer (some ⟨D, 0, none⟩)) rfl (by rfl) (fun X hX => c_nc rfl rfl) ?_
    (try simp only [Act.put, List.setIfInBounds_toArray, List.set_cons_zero, List.set_cons_succ])
    refine wpG_take _ (.pointer (some ⟨D, 0, none⟩)) rfl (by rfl) (fun X hX => c_faS0 rfl rfl) ?_
    (try simp only [Act.put, List.setIfInBounds_toArray, List.set_cons_zero, List.set_cons_succ])
    refine cG_st _ rfl (by rfl) _ (c_stB rfl rfl rfl HC4.out HF4.out) (fun X => X.cell? ⟨g, 1, none⟩ = some (.slice (some ⟨g0, 0, none⟩) 512 c0) ∧ X.cell? ⟨g, 3, none⟩ = some (.slice (some ⟨g1, 0, none⟩) 512 c1)) HX1.out (fun _ h => h) ?_
    (try simp only [Act.put, List.setIfInBounds_toArray, List.set_cons_zero, List.set_cons_succ])
    refine wpG_take _ (.pointer (some ⟨D, 1, none⟩)) rfl (by rfl) (fun X hX => c_iaR (k := 1) (kd := .i64) rfl rfl rfl (by omega)) ?_
    (try simp only [Act.put, List.setIfInBounds_toArray, List.set_cons_zero, List.set_cons_succ])
    refine cG_st _ rfl (by rfl) _ (c_stB rfl rfl rfl HC5.out HF5.out) (fun X => X.cell? ⟨g, 1, none⟩ = some (.slice (some ⟨g0, 0, none⟩) 512 c0) ∧ X.cell? ⟨g, 3, none⟩ = some (.slice (some ⟨g1, 0, none⟩) 512 c1)) HX2.out (fun _ h => h) ?_
    refine wpG_nil ?_
    exact ⟨rfl, rfl, rfl⟩
  obtain ⟨W5, hW5⟩ : ∃ W, (W3.drew.setCell ⟨D, 0, none⟩ (.slice (some ⟨g0, 0, none⟩) 512 c0)).setCell ⟨D, 1, none⟩ (.slice (some ⟨g1, 0, none⟩) 512 c1) = W := ⟨_, rfl⟩
  rw [hW5] at HS5 HB5
  (try simp only [Act.put])
  rw [hW5]
  clear hW5 HX1 HX2 HC4 HF4 HC5 HF5 d0 d1 d2 d3 HA0 HA1 HO0 HO1 HSH3 HM3 HBG HRD HB3
  go_upto_region 6 with fail
  go_wp2_with fail
  have hD5 : D ≤ W5.heap.size := by have := HB5.out.size; have := HDD.out; omega
  have hcall6 : Calls Try.prog 11 #[.iface 29 (.pointer (some ⟨D, 0, none⟩)), .int .u32 514, .int .i64 509, .int .i64 9] W5 _ :=
    cread_any HS5.out km2_le hD5 (by rw [List.nil_append]; exact ranQ_short _ _ _ _ _ (by decide)) 514 509 9 (by decide) (by decide) (by decide)
  refine hcall6.mono ?_
  rintro e W6 ⟨n, er, v, hran, ⟨av6, hsh6, hm6⟩, rfl, hres⟩
  obtain rfl : er = false := hran.no_bad (fun _ _ => bad0 _)
  obtain rfl : n = 2 := hran.count (k := 2) (by decide) (fun j hj => by
    have : j = 0 ∨ j = 1 := by omega
    rcases this with rfl | rfl <;> decide)
  rw [if_neg (by simp)] at hres
  rw [if_neg (by simp)]
  have hk6 : rng ((km0.set 0 kb0).set 1 kb1) (rdFr 514 509) (rdTe 514 509 9) = [0, 97, 98, 99, 100] := k_rd
  rw [hk6] at hres
  obtain ⟨sp6, q6, rfl, hq6, -, -⟩ := c_owns_form hres
  have hD6 : D ≤ W6.heap.size := Nat.le_trans hD5 hm6.chg.size
  have HB6 : Hid (Below D w W6) := Lib.hid (by
    have h2 : Below D W5 W6 := hm6.chg.below (fun k hk => by
      rcases hk with e | e
      · omega
      · exact HV3.out k e) hD5
    exact HB5.out.trans (h2.mono (by have := HDD.out; omega)))
  have HR6 := Lib.hid hres; have HS6 := Lib.hid hsh6; have HM6 := Lib.hid hm6
  clear hres hsh6 hk6 hran HS5 HB5 hm6 hcall6
  go_upto_region 7 with fail
  go_wp2_with fail
  have hcall7 : Calls Try.prog 9 #[.iface 29 (.pointer (some ⟨D, 0, none⟩)), .int .u32 514, .int .i64 511] W6 _ :=
    ctrunc_any HS6.out km2_le hD6 (by rw [List.nil_append, List.length_append]; exact ranQ_short2 _ _ _ _ _ _ _ _ _ _ (by decide) (by decide)) 514 511 (by decide) (by decide)
  refine hcall7.mono ?_
  rintro e W7 ⟨n, er, v, z, hran, ⟨av7, hsh7, hm7⟩, rfl, hres⟩
  obtain rfl : er = false := hran.no_bad (fun _ _ => bad0 _)
  obtain rfl : n = 2 := hran.count (k := 2) (by decide) (fun j hj => by
    have : j = 0 ∨ j = 1 := by omega
    rcases this with rfl | rfl <;> decide)
  rw [if_neg (by simp)] at hres
  rw [if_neg (by simp)]
  obtain ⟨rfl, hch⟩ := hres
  have hk : trU ((km0.set 0 kb0).set 1 kb1) 511 (trTe 514) 2 = [(0, kt0), (1, [])] := k_tr
  rw [hk] at hch
  obtain ⟨sp, cap7, rfl, hcap7, hrd⟩ := hch.rd
  obtain ⟨h, rfl, hrd, -⟩ := hrd (by decide)
  obtain ⟨s0, c7, r00, r01, ro0⟩ := hrd.at_ 0 (0, kt0) rfl
  obtain ⟨s1, c8, r10, r11, ro1⟩ := hrd.at_ 1 (1, []) rfl
  obtain ⟨sp0, q0, e0, hc7, -, hs0⟩ := c_owns_form ro0
  obtain ⟨h0, rfl, -, -⟩ := hs0 (by rw [kt0_len]; omega)
  cases e0
  have hr7 : OwnB W7 W5.heap.size (.slice sp6 5 q6) [0, 97, 98, 99, 100] := c_owns_chg HR6.out hm7.chg (fun k hk e => by
    rcases e with e | e
    · subst e; exact c_own_ne HR6.out HS6.out.d (by decide) hk
    · exact c_own_ty HR6.out HS6.out.q (by decide) hk e)
  obtain ⟨_, _, e7, _, _, ha7, _⟩ := OwnB.form hr7
  cases e7
  obtain ⟨_, _, e8, _, _, ha8, _⟩ := OwnB.form ro0
  cases e8
  obtain ⟨_, _, e9, _, hx8⟩ := ha8 (by rw [kt0_len]; omega)
  cases e9
  have x0 : W7.cell? ⟨h0, 510, none⟩ = some (.int .u8 97) := by
    have := hx8 510 (by rw [kt0_len]; omega)
    rw [Nat.zero_add] at this
    exact this.trans kt0_510
  have x1 : W7.cell? ⟨h0, 511, none⟩ = some (.int .u8 0) := by
    have := hx8 511 (by rw [kt0_len]; omega)
    rw [Nat.zero_add] at this
    exact this.trans kt0_511
  rw [kt0_len] at r01 hc7
  have d1 : W7.cell? ⟨h, 1, none⟩ = some (.slice (some ⟨h0, 0, none⟩) 512 c7) := r01
  have d3 : W7.cell? ⟨h, 3, none⟩ = some (.slice s1 0 c8) := r11
  have HB7 : Hid (Below D w W7) := Lib.hid (by
    have hne : ∀ k, av6.ownBlock = some k → D ≤ k := fun k hk => by
      rcases HM6.out.own k hk with e | e
      · exact HV3.out k e
      · omega
    have h2 : Below D W6 W7 := hm7.chg.below (fun k hk => by
      rcases hk with e | e
      · omega
      · exact hne k e) hD6
    exact HB6.out.trans (h2.mono (by have := HDD.out; omega)))
  have HA7 := Lib.hid ha7
  have hlk : [(0, kt0), (1, [])].length = 2 := rfl
  rw [hlk] at hcap7 ⊢
  clear ha7 ha8 hr7 ro0 ro1 r00 r01 r10 r11 hx8 hrd hch hk hran hsh7 hm7 HS6 HR6 HM6 HB6 hs0 hcall7 hlk
  go_upto_region 8 with fail
  refine wp_region_list ?_
  refine c_valG (w' := W7) (v := .int .i64 0) (by rfl) (by first | rfl | (unfold execOp; go_simp)) ?_
  (try simp only [Act.put, List.setIfInBounds_toArray, List.set_cons_zero, List.set_cons_succ])
  refine c_valG (w' := W7) (v := .bool true) (by rfl) (by first | rfl | (unfold execOp; go_simp)) ?_
  (try simp only [Act.put, List.setIfInBounds_toArray, List.set_cons_zero, List.set_cons_succ])
  refine c_valG (w' := W7) (v := .bool true) (by rfl) (by first | rfl | (unfold execOp; go_simp)) ?_
  (try simp only [Act.put, List.setIfInBounds_toArray, List.set_cons_zero, List.set_cons_succ])
  refine c_valG (w' := W7) (v := .slice sp6 5 q6) (by rfl) (by first | rfl | (unfold execOp; go_simp)) ?_
  (try simp only [Act.put, List.setIfInBounds_toArray, List.set_cons_zero, List.set_cons_succ])
  refine c_valG (w' := W7) (v := .string (bstr [0, 97, 98, 99, 100])) (by rfl) (c_cvS (l := [0, 97, 98, 99, 100]) rfl HA7.out rfl rfl) ?_
  (try simp only [Act.put, List.setIfInBounds_toArray, List.set_cons_zero, List.set_cons_succ])
  refine c_valG (w' := W7) (v := .bool true) (by rfl) (c_eqS (a := bstr [0, 97, 98, 99, 100]) rfl rfl rfl) ?_
  (try simp only [Act.put, List.setIfInBounds_toArray, List.set_cons_zero, List.set_cons_succ])
  refine c_valG (w' := W7) (v := .bool true) (by rfl) (by first | rfl | (unfold execOp; go_simp)) ?_
  (try simp only [Act.put, List.setIfInBounds_toArray, List.set_cons_zero, List.set_cons_succ])
  refine c_valG (w' := W7) (v := .bool true) (by rfl) (by first | rfl | (unfold execOp; go_simp)) ?_
  (try simp only [Act.put, List.setIfInBounds_toArray, List.set_cons_zero, List.set_cons_succ])
  refine c_valG (w' := W7) (v := .int .i64 0) (by rfl) (by first | rfl | (unfold execOp; go_simp)) ?_
  (try simp only [Act.put, List.setIfInBounds_toArray, List.set_cons_zero, List.set_cons_succ])
  refine c_valG (w' := W7) (v := .bool true) (by rfl) (by first | rfl | (unfold execOp; go_simp)) ?_
  (try simp only [Act.put, List.setIfInBounds_toArray, List.set_cons_zero, List.set_cons_succ])
  refine c_valG (w' := W7) (v := .bool true) (by rfl) (by first | rfl | (unfold execOp; go_simp)) ?_
  (try simp only [Act.put, List.setIfInBounds_toArray, List.set_cons_zero, List.set_cons_succ])
  refine c_valG (w' := W7) (v := .bool true) (by rfl) (by first | rfl | (unfold execOp; go_simp)) ?_
  (try simp only [Act.put, List.setIfInBounds_toArray, List.set_cons_zero, List.set_cons_succ])
  refine c_valG (w' := W7) (v := .int .u32 511) (by rfl) (by first | rfl | (unfold execOp; go_simp)) ?_
  (try simp only [Act.put, List.setIfInBounds_toArray, List.set_cons_zero, List.set_cons_succ])
  refine c_valG (w' := W7) (v := .bool true) (by rfl) (by first | rfl | (unfold execOp; go_simp)) ?_
  (try simp only [Act.put, List.setIfInBounds_toArray, List.set_cons_zero, List.set_cons_succ])
  refine c_valG (w' := W7) (v := .bool true) (by rfl) (by first | rfl | (unfold execOp; go_simp)) ?_
  (try simp only [Act.put, List.setIfInBounds_toArray, List.set_cons_zero, List.set_cons_succ])
  refine c_valG (w' := W7) (v := .bool true) (by rfl) (by first | rfl | (unfold execOp; go_simp)) ?_
  (try simp only [Act.put, List.setIfInBounds_toArray, List.set_cons_zero, List.set_cons_succ])
  refine c_valG (w' := W7) (v := .slice (some ⟨h, 0, none⟩) 2 cap7) (by rfl) (by first | rfl | (unfold execOp; go_simp)) ?_
  (try simp only [Act.put, List.setIfInBounds_toArray, List.set_cons_zero, List.set_cons_succ])
  refine c_valG (w' := W7) (v := .int .i64 2) (by rfl) (by first | rfl | (unfold execOp; go_simp)) ?_
  (try simp only [Act.put, List.setIfInBounds_toArray, List.set_cons_zero, List.set_cons_succ])
  refine c_valG (w' := W7) (v := .bool true) (by rfl) (by first | rfl | (unfold execOp; go_simp)) ?_
  (try simp only [Act.put, List.setIfInBounds_toArray, List.set_cons_zero, List.set_cons_succ])
  refine c_valG (w' := W7) (v := .bool true) (by rfl) (by first | rfl | (unfold execOp; go_simp)) ?_
  (try simp only [Act.put, List.setIfInBounds_toArray, List.set_cons_zero, List.set_cons_succ])
  refine c_valG (w' := W7) (v := .bool true) (by rfl) (by first | rfl | (unfold execOp; go_simp)) ?_
  (try simp only [Act.put, List.setIfInBounds_toArray, List.set_cons_zero, List.set_cons_succ])
  refine c_valG (w' := W7) (v := .slice (some ⟨h, 0, none⟩) 2 cap7) (by rfl) (by first | rfl | (unfold execOp; go_simp)) ?_
  (try simp only [Act.put, List.setIfInBounds_toArray, List.set_cons_zero, List.set_cons_succ])
  refine c_valG (w' := W7) (v := .pointer (some ⟨h, 0, none⟩)) (by rfl) (c_iaH (k := 0) (n := 2) (cap := cap7) rfl rfl rfl ⟨by omega, by omega⟩) ?_
  (try simp only [Act.put, List.setIfInBounds_toArray, List.set_cons_zero, List.set_cons_succ])
  refine c_valG (w' := W7) (v := .pointer (some ⟨h, 1, none⟩)) (by rfl) (c_faH (a := 0) (j := 1) (.inr rfl) rfl rfl) ?_
  (try simp only [Act.put, List.setIfInBounds_toArray, List.set_cons_zero, List.set_cons_succ])
  refine c_valG (w' := W7) (v := .slice (some ⟨h0, 0, none⟩) 512 c7) (by rfl) (c_ldB rfl rfl d1) ?_
  (try simp only [Act.put, List.setIfInBounds_toArray, List.set_cons_zero, List.set_cons_succ])
  refine c_valG (w' := W7) (v := .pointer (some ⟨h0, 510, none⟩)) (by rfl) (c_iaB (k := 510) (n := 512) (cap := c7) rfl rfl rfl ⟨by omega, by omega⟩) ?_
  (try simp only [Act.put, List.setIfInBounds_toArray, List.set_cons_zero, List.set_cons_succ])
  refine c_valG (w' := W7) (v := .int .u8 97) (by rfl) (c_ldU8 rfl rfl x0) ?_
  (try simp only [Act.put, List.setIfInBounds_toArray, List.set_cons_zero, List.set_cons_succ])
  refine c_valG (w' := W7) (v := .bool true) (by rfl) (by first | rfl | (unfold execOp; go_simp)) ?_
  (try simp only [Act.put, List.setIfInBounds_toArray, List.set_cons_zero, List.set_cons_succ])
  refine c_valG (w' := W7) (v := .bool true) (by rfl) (by first | rfl | (unfold execOp; go_simp)) ?_
  (try simp only [Act.put, List.setIfInBounds_toArray, List.set_cons_zero, List.set_cons_succ])
  refine c_valG (w' := W7) (v := .bool true) (by rfl) (by first | rfl | (unfold execOp; go_simp)) ?_
  (try simp only [Act.put, List.setIfInBounds_toArray, List.set_cons_zero, List.set_cons_succ])
  refine c_valG (w' := W7) (v := .slice (some ⟨h, 0, none⟩) 2 cap7) (by rfl) (by first | rfl | (unfold execOp; go_simp)) ?_
  (try simp only [Act.put, List.setIfInBounds_toArray, List.set_cons_zero, List.set_cons_succ])
  refine c_valG (w' := W7) (v := .pointer (some ⟨h, 0, none⟩)) (by rfl) (c_iaH (k := 0) (n := 2) (cap := cap7) rfl rfl rfl ⟨by omega, by omega⟩) ?_
  (try simp only [Act.put, List.setIfInBounds_toArray, List.set_cons_zero, List.set_cons_succ])
  refine c_valG (w' := W7) (v := .pointer (some ⟨h, 1, none⟩)) (by rfl) (c_faH (a := 0) (j := 1) (.inr rfl) rfl rfl) ?_
  (try simp only [Act.put, List.setIfInBounds_toArray, List.set_cons_zero, List.set_cons_succ])
  refine c_valG (w' := W7) (v := .slice (some ⟨h0, 0, none⟩) 512 c7) (by rfl) (c_ldB rfl rfl d1) ?_
  (try simp only [Act.put, List.setIfInBounds_toArray, List.set_cons_zero, List.set_cons_succ])
  refine c_valG (w' := W7) (v := .pointer (some ⟨h0, 511, none⟩)) (by rfl) (c_iaB (k := 511) (n := 512) (cap := c7) rfl rfl rfl ⟨by omega, by omega⟩) ?_
  (try simp only [Act.put, List.setIfInBounds_toArray, List.set_cons_zero, List.set_cons_succ])
  refine c_valG (w' := W7) (v := .int .u8 0) (by rfl) (c_ldU8 rfl rfl x1) ?_
  (try simp only [Act.put, List.setIfInBounds_toArray, List.set_cons_zero, List.set_cons_succ])
  refine c_valG (w' := W7) (v := .bool true) (by rfl) (by first | rfl | (unfold execOp; go_simp)) ?_
  (try simp only [Act.put, List.setIfInBounds_toArray, List.set_cons_zero, List.set_cons_succ])
  refine c_valG (w' := W7) (v := .bool true) (by rfl) (by first | rfl | (unfold execOp; go_simp)) ?_
  (try simp only [Act.put, List.setIfInBounds_toArray, List.set_cons_zero, List.set_cons_succ])
  refine c_valG (w' := W7) (v := .bool true) (by rfl) (by first | rfl | (unfold execOp; go_simp)) ?_
  (try simp only [Act.put, List.setIfInBounds_toArray, List.set_cons_zero, List.set_cons_succ])
  refine c_valG (w' := W7) (v := .slice (some ⟨h, 0, none⟩) 2 cap7) (by rfl) (by first | rfl | (unfold execOp; go_simp)) ?_
  (try simp only [Act.put, List.setIfInBounds_toArray, List.set_cons_zero, List.set_cons_succ])
  refine c_valG (w' := W7) (v := .pointer (some ⟨h, 2, none⟩)) (by rfl) (c_iaH (k := 1) (n := 2) (cap := cap7) rfl rfl rfl ⟨by omega, by omega⟩) ?_
  (try simp only [Act.put, List.setIfInBounds_toArray, List.set_cons_zero, List.set_cons_succ])
  refine c_valG (w' := W7) (v := .pointer (some ⟨h, 3, none⟩)) (by rfl) (c_faH (a := 2) (j := 1) (.inr rfl) rfl rfl) ?_
  (try simp only [Act.put, List.setIfInBounds_toArray, List.set_cons_zero, List.set_cons_succ])
  refine c_valG (w' := W7) (v := .slice s1 0 c8) (by rfl) (c_ldB rfl rfl d3) ?_
  (try simp only [Act.put, List.setIfInBounds_toArray, List.set_cons_zero, List.set_cons_succ])
  refine c_valG (w' := W7) (v := .int .i64 0) (by rfl) (by first | rfl | (unfold execOp; go_simp)) ?_
  (try simp only [Act.put, List.setIfInBounds_toArray, List.set_cons_zero, List.set_cons_succ])
  refine c_valG (w' := W7) (v := .bool true) (by rfl) (by first | rfl | (unfold execOp; go_simp)) ?_
  (try simp only [Act.put, List.setIfInBounds_toArray, List.set_cons_zero, List.set_cons_succ])
  refine c_valG (w' := W7) (v := .bool true) (by rfl) (by first | rfl | (unfold execOp; go_simp)) ?_
  (try simp only [Act.put, List.setIfInBounds_toArray, List.set_cons_zero, List.set_cons_succ])
  refine c_valG (w' := W7) (v := .bool true) (by rfl) (by first | rfl | (unfold execOp; go_simp)) ?_
  (try simp only [Act.put, List.setIfInBounds_toArray, List.set_cons_zero, List.set_cons_succ])
  refine wpList_nil ?_
  go_wp2_with fail
  exact HP.out _ HB7.out
end Go.Proofs.Ythionhliokhcgaa
