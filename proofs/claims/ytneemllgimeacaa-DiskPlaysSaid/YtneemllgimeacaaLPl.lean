/- Two disks that share power play what the document says: the law's loops. -/
import Derived.Test.YtneemllgimeacaaOz
namespace Go.Proofs.Ytneemllgimeacaa
open Go.RowKit

def plOK (W : World) (e : Ending) (w' : World) : Prop := e = .returned (.bool true) ∧ Below W.heap.size W w'
theorem ex_app30 {ρ : Operand → Value} {o : Oper} {x y : Operand} {v u v' : Value} {w w' : World} (ho : o.op = .call { callee := .builtin .append, args := #[x, y], argTypes := #[30, 30] }) (hx : ρ x = v) (hy : ρ y = u)
    (hr : (Builtin.append_ #[30, 30] o.type #[v, u]).run Try.prog w = .ok v' w') : (execOp ρ o).run Try.prog w = .ok (.value v') w' := by
  unfold execOp
  simp only [ho, resolve, invoke, builtin, Sem.run_bind, Sem.run_pure, Result.andThen_ok, List.map_toArray, List.map_cons, List.map_nil, hx, hy, hr]
theorem ex_app31 {ρ : Operand → Value} {o : Oper} {x y : Operand} {v u v' : Value} {w w' : World} (ho : o.op = .call { callee := .builtin .append, args := #[x, y], argTypes := #[31, 31] }) (hx : ρ x = v) (hy : ρ y = u)
    (hr : (Builtin.append_ #[31, 31] o.type #[v, u]).run Try.prog w = .ok v' w') : (execOp ρ o).run Try.prog w = .ok (.value v') w' := by
  unfold execOp
  simp only [ho, resolve, invoke, builtin, Sem.run_bind, Sem.run_pure, Result.andThen_ok, List.map_toArray, List.map_cons, List.map_nil, hx, hy, hr]
theorem one7 (a : Ac) : (#[Value.int .u8 (a.act : Int), Value.int .u8 (a.d : Int), Value.int .u16 (a.addr : Int), Value.slice a.spb a.b.length a.capb, Value.bool a.short, Value.int .i64 a.n, Value.slice a.spz a.z.length a.capz]).all (·.oneCell') = true := by simp [Value.oneCell']
def zero7 : Array Value := #[Value.int .u8 0, Value.int .u8 0, Value.int .u16 0, Value.slice none 0 0, Value.bool false, Value.int .i64 0, Value.slice none 0 0]
/-- The copy of an act, in its box. -/
theorem boxed7 (a : Ac) (w : World) : ∃ w5, ((w.alloc (.cells #[Value.int .u8 0, Value.int .u8 0, Value.int .u16 0, Value.slice none 0 0, Value.bool false, Value.int .i64 0, Value.slice none 0 0] 45)).setRow w.heap.size #[Value.int .u8 (a.act : Int), Value.int .u8 (a.d : Int), Value.int .u16 (a.addr : Int), Value.slice a.spb a.b.length a.capb, Value.bool a.short, Value.int .i64 a.n, Value.slice a.spz a.z.length a.capz]) = w5 ∧ Blk w5 w.heap.size (alist a) 45 ∧ Below w.heap.size w w5 :=
  ⟨_, rfl, (Blk.new w [Value.int .u8 0, Value.int .u8 0, Value.int .u16 0, Value.slice none 0 0, Value.bool false, Value.int .i64 0, Value.slice none 0 0] 45).row (alist a), below_row ((Below.refl _ _).alloc (Nat.le_refl _) _) (Nat.le_refl _) _⟩
def P1Rel (W : World) (nb Q q : Nat) (dv wv i : Value) (wr : World) : Prop :=
  ∃ m : Nat, m ≤ 2 ∧ i = .int .i64 (m : Int) ∧ ∃ C R S T own, Mk W.heap.size nb W wr C R Q q S T dv wv m m own
def P2Rel (W : World) (nb n1 : Nat) (C R : Nat → Nat) (Q q gd gw : Nat) (i : Value) (wr : World) : Prop :=
  ∃ k : Nat, k ≤ n1 ∧ i = .int .i64 (k : Int) ∧ ∃ S T s t p own, Sys W.heap.size nb W wr C R Q q gd gw S T s t p p k own ∧ ∀ j, j < 2 → Sim (s j) (t j)
def P3Rel (W : World) (nb : Nat) (C R : Nat → Nat) (Q q gd gw k : Nat) (a a7 : Ac) (gb : Nat) (i : Value) (wr : World) : Prop :=
  ∃ m : Nat, m ≤ a.b.length ∧ i = .int .i64 (m : Int) ∧ ∃ S T s t p own, Sys W.heap.size nb W wr C R Q q gd gw S T s t p p (k + 1) own ∧ (∀ j, j < 2 → Sim (s j) (t j)) ∧ Free wr own a a7 gb
theorem mk0 {W w1 : World} {nb Q : Nat} (h1 : W.heap.size ≤ Q) (h2 : Q < w1.heap.size) (hp : PwAt w1 Q p0) (hb : Below W.heap.size W w1) :
    Mk W.heap.size nb W (w1.alloc (.cells #[.bool false, .int .i64 (-1)] 29)) (fun _ => 0) (fun _ => 0) Q w1.heap.size (fun _ _ => False) (fun _ _ => False) (.slice none 0 0) (.slice none 0 0) 0 0 (fun g => if g = Q then 5 else if g = w1.heap.size then 6 else if g < W.heap.size then 9 else 0) := by
  have hz : Below w1.heap.size w1 (w1.alloc (.cells #[.bool false, .int .i64 (-1)] 29)) := (Below.refl _ _).alloc (Nat.le_refl _) _
  have hs := hb.size
  refine ⟨fun i hi => absurd hi (by omega), fun i hi => absurd hi (by omega), hp.chg (Chg.of_below (F := fun _ => False) hz) (fun h => h), ⟨Blk.new w1 [.bool false, .int .i64 (-1)] 29, by simp [p0], by simp [p0]⟩, World.ownsRow_nil _ _ _ _, World.ownsRow_nil _ _ _ _, fun i hi => absurd hi (by omega), fun i hi => absurd hi (by omega), if_pos rfl, ?_, fun g hg => by simp [Value.ownBlock] at hg, fun g hg => by simp [Value.ownBlock] at hg, fun g hg => ?_, Nat.le_refl _, hb.trans (hz.mono hs)⟩
  · show (if w1.heap.size = Q then 5 else _) = 6
    rw [if_neg (by omega), if_pos rfl]
  · show (if g = Q then 5 else _) = 9
    rw [if_neg (by omega), if_neg (by omega), if_pos hg]
set_option maxRecDepth 100000 in
set_option maxHeartbeats 16000000 in
theorem plays_body (nb n1 c1 : Nat) (l : List Ac) (sp1 : Option Addr) (W : World) (h1 : l.length = n1) (k1 : n1 ≤ c1) (hm1 : c1 ≤ maxLen) (A1 : ActsAt W sp1 l) (g1 : great l = false) (hb1 : 1 ≤ nb) (hb2 : nb ≤ 20) :
    Calls Try.prog 3 #[.int .u8 (nb : Int), .slice sp1 n1 c1] W (plOK W) := by
  have H1 := Lib.hid h1
  have HA1 := Lib.hid A1
  have G1 := Lib.hid (great_small g1)
  have HE1 := Lib.hid g1
  have ib1 : ¬ ((nb : Int) < 1) := by omega
  have ib2 : ¬ ((20 : Int) < (nb : Int)) := by omega
  have wnb := IntWalk.i64_in (nb : Int) (by omega)
  have hn100 : n1 ≤ 100 := by rw [← h1]; exact (great_small g1).1
  clear A1 g1 h1
  go_enter Try.func3, Try.ntmps3
  go_wp2_with fail
  refine (great_any l sp1 n1 c1 H1.out k1 hm1 W HA1.out).mono ?_
  rw [HE1.out]
  rintro e w' ⟨rfl, rfl⟩
  go_wp2_with fail
  refine (on_any W).mono ?_
  rintro e w1 ⟨Q, rfl, hQ1, hQ2, hp1, hb1'⟩
  have hM0 := mk0 (nb := nb) hQ1 hQ2 hp1 hb1'
  have HM0 := Lib.hid hM0
  clear hp1 hb1' hM0 hQ1 hQ2
  go_wp2_with fail
  have HR := Lib.hid (show P1Rel W nb Q w1.heap.size (.slice none 0 0) (.slice none 0 0) (.int .i64 0) (w1.alloc (.cells #[.bool false, .int .i64 (-1)] 29)) from ⟨0, Nat.zero_le _, rfl, _, _, _, _, _, HM0.out⟩)
  clear HM0
  generalize (w1.alloc (.cells #[.bool false, .int .i64 (-1)] 29)) = w2 at HR ⊢
  obtain ⟨q, hq⟩ : ∃ q, w1.heap.size = q := ⟨_, rfl⟩
  rw [hq] at HR ⊢
  clear hq
  go_loopw [7, 8, 9] (fun dv wv i wr => P1Rel W nb Q q dv wv i wr) (fun _ _ i _ => 2 - (intOf i).toNat)
  case atStart => exact HR.out
  case round =>
    clear HR
    obtain ⟨m, hm, rfl, C, R, S, T, own, hM⟩ := hrel
    have HM := Lib.hid hM
    obtain ⟨dsp, dc, rfl⟩ := own_slice hM.hdv
    obtain ⟨wsp, wc, rfl⟩ := own_slice hM.hwv
    clear hM
    have wm1 := IntWalk.i64_in ((m : Int) + 1) (by omega)
    by_cases hlt : m < 2
    · have hlti : (m : Int) < 2 := by omega
      go_wp2_with fail
      refine (new_ok nb Q p0 rfl wr HM.out.pw hb1 (by omega)).mono ?_
      rintro e w3 ⟨D, SD, rfl, hd, hs, hb⟩
      obtain ⟨v', w4, C', S', own', hr, hM4⟩ := HM.out.disk (by omega) hd hs hb 30
      have HR4 := Lib.hid hr
      have HM4 := Lib.hid hM4
      obtain ⟨d4s, d4c, rfl⟩ := own_slice hM4.hdv
      obtain ⟨v5, w5, R', T', own5, hr5, hM5⟩ := hM4.doc (by omega) (by omega) 31
      simp only [rcells, rfresh] at hr5
      have HR5 := Lib.hid hr5
      have HM5 := Lib.hid hM5
      clear hd hs hb hr hM4 hr5 hM5
      go_wp2_with (first | (at_builtin; refine wpL_val rfl (ex_app30 rfl rfl rfl HR4.out) ?_) | (at_builtin; refine wpL_val rfl (ex_app31 rfl rfl rfl HR5.out) ?_) | fail)
      go_roundw
      case rel => exact ⟨m + 1, by omega, by go_num, _, _, _, _, _, HM5.out⟩
      case measure => simp [intOf]; omega
    · have em : (m : Int) = 2 := by omega
      rw [em]
      obtain rfl : m = 2 := by omega
      clear hlt hm
      obtain ⟨gd, cd, gw, cw, e1, e2, hS⟩ := HM.out.sys
      cases e1
      cases e2
      have HR2 := Lib.hid (show P2Rel W nb n1 C R Q q gd gw (.int .i64 0) wr from ⟨0, Nat.zero_le _, rfl, _, _, _, _, _, _, hS, fun j _ => sim_fresh nb⟩)
      clear hS HM
      go_wp2_with fail
      go_loopw [12] (fun i wr => P2Rel W nb n1 C R Q q gd gw i wr) (fun i _ => n1 - (intOf i).toNat)
      case atStart => exact HR2.out
      case round =>
        clear HR2 S T own
        obtain ⟨k, hk, rfl, S, T, s, t, p, own, hS, hSim⟩ := hrel
        have HS := Lib.hid hS
        have HSIM := Lib.hid hSim
        clear hS hSim
        have wk1 := IntWalk.i64_in ((k : Int) + 1) (by omega)
        by_cases hlt : k < n1
        · obtain ⟨a, ha⟩ : ∃ a, l[k]? = some a := ⟨_, List.getElem?_eq_getElem (by have := H1.out; omega)⟩
          obtain ⟨g, og, rfl, hg, hcl2⟩ := HA1.out.2 (by have := H1.out; omega)
          have hca := hcl2 k a ha
          have hok := HA1.out.1 a (List.mem_of_getElem? ha)
          have hab := (G1.out.2 a (List.mem_of_getElem? ha)).1
          have HCA : Hid (∀ X : World, Below W.heap.size W X → ∀ j, j < 7 → X.cell? ⟨g, og + k * 7 + j, none⟩ = some (a.cell j)) := Lib.hid (fun X hX j hj => (hX.cell (p := ⟨g, og + k * 7 + j, none⟩) hg).trans (hca j hj))
          have HOK := Lib.hid hok
          have HAB := Lib.hid hab
          have HG := Lib.hid hg
          have hd256 := hok.d
          have wd := IntWalk.i64_in (a.d : Int) (by omega)
          have td : (a.d : Int).tmod 2 = ((a.d % 2 : Nat) : Int) := by rw [Int.tmod_eq_emod_of_nonneg (by omega)]; simp
          have hj2 : a.d % 2 < 2 := Nat.mod_lt _ (by omega)
          have wj := IntWalk.i64_in ((a.d % 2 : Nat) : Int) (by omega)
          have q1 := HCA.out wr HS.out.bel 1 (by omega)
          simp only [Ac.cell] at q1
          obtain ⟨j, hj⟩ : ∃ j, a.d % 2 = j := ⟨_, rfl⟩
          rw [hj] at td hj2 wj
          clear hcl2 hca hok hab ha hg hj
          obtain ⟨w5, hw5, hblk5, hbel5⟩ := boxed7 a wr
          have HBLK5 := Lib.hid hblk5
          have HBEL5 := Lib.hid hbel5
          have HW5 := Lib.hid hw5
          obtain ⟨gb, hgb⟩ : ∃ gb, wr.heap.size = gb := ⟨_, rfl⟩
          rw [hgb] at HBLK5 HW5
          have HGB := Lib.hid hgb
          have c3 : w5.cell? ⟨gb, 3, none⟩ = some (.slice a.spb a.b.length a.capb) := HBLK5.out.cell rfl
          clear hblk5 hbel5 hw5 hgb
          have HB5W := Lib.hid (HS.out.bel.trans (HBEL5.out.mono HS.out.bel.size))
          have HK := Lib.hid (show k ≤ 100 by omega)
          go_wp2_with (first | (refine wpL_val rfl (ex_ld45 rfl rfl (HCA.out _ HS.out.bel)) ?_) | (refine wpList_store_row rfl 45 (.tmp 14) (.tmp 79) rfl wr.heap.size _ rfl rfl 45 _ (heap_alloc_new wr _) size45 rfl (one7 a) ?_; rw [HGB.out, HW5.out]) | (refine wpList_append_nil rfl (.const (.slice none 0 0)) (.tmp 81) rfl rfl a.spb a.capb a.b rfl HOK.out.cb HOK.out.zb (HOK.out.b.below HB5W.out (Nat.le_refl _)) (by have := HAB.out; omega) ?_; intro v w6 hown hbel6 hvn; obtain ⟨spc, capc, rfl, -⟩ := hown.form; have HOWN := Lib.hid hown; have HBEL6 := Lib.hid hbel6; have hblk6 := HBLK5.out.below hbel6 HBLK5.out.lt; have c6 : w6.cell? ⟨gb, 3, none⟩ = some (.slice a.spb a.b.length a.capb) := hblk6.cell rfl; have f6 : w6.frozen? ⟨gb, 3, none⟩ = false := hblk6.free 3; clear hown hbel6 hvn hblk6) | fail)
          obtain ⟨w7, a7, hw7, hcop⟩ : ∃ w7 a7, (w6.setCell ⟨gb, 3, none⟩ (.slice spc a.b.length capc)) = w7 ∧ Cop wr w7 a a7 gb := ⟨_, _, rfl, copied HGB.out HBLK5.out HBEL5.out HOWN.out HBEL6.out (HOK.out.below HS.out.bel (Nat.le_refl _))⟩
          rw [hw7]
          have HS7 := Lib.hid (HS.out.grown hcop.bel)
          have HF7 := Lib.hid (hcop.free own)
          obtain ⟨own7, ho7⟩ : ∃ o, lab own wr 0 = o := ⟨_, rfl⟩
          rw [ho7] at HS7 HF7
          have HCOP := Lib.hid hcop
          have HEQ := Lib.hid (alike_acts (HSIM.out j hj2) p a a7 hcop.e1 hcop.e2 hcop.e3 hcop.e4 hcop.e5)
          have HEB := Lib.hid hcop.eb
          have hz7 : 0 < a7.z.length → ∀ ad, a7.spz = some ad → ad.block < W.heap.size := by rw [hcop.e5, hcop.e6]; exact low_z HOK.out
          have hl7 : a7.b.length ≤ 600 := by rw [hcop.eb]; exact HAB.out
          clear hw7 hcop ho7 HOWN HBEL6 HBLK5 HBEL5 HW5 c3 c6 f6 q1
          refine wp_region_sched (.take 0 (.take 1 (.take 2 (.take 3 (.take 4 (.take 5 (.step 6 (.take 7 (.take 8 (.take 9 (.take 10 (.take 11 (.nil))))))))))))) (by kernel_rfl) (by kernel_rfl) (fun d _ _ _ _ h => by cases d <;> exact h) (fun X => X.cell? ⟨gd, j, none⟩ = some (.pointer (some ⟨C j, 0, none⟩)) ∧ Boxed gb a7 X) ⟨HS7.out.cd j hj2, Boxed.of_blk HF7.out.blk⟩ ?_
          refine wpG_take _ (.slice (some ⟨gd, 0, none⟩) 2 dc) rfl (by rfl) (fun X hX => by first | rfl | go_simp) ?_
          (try simp only [Act.put, List.setIfInBounds_toArray, List.set_cons_zero, List.set_cons_succ])
          refine wpG_take _ (.int .i64 (j : Int)) rfl (by rfl) (fun X hX => by first | rfl | go_simp) ?_
          (try simp only [Act.put, List.setIfInBounds_toArray, List.set_cons_zero, List.set_cons_succ])
          refine wpG_take _ (.pointer (some ⟨gd, j, none⟩)) rfl (by rfl) (fun X hX => ex_ix30 rfl rfl rfl hj2) ?_
          (try simp only [Act.put, List.setIfInBounds_toArray, List.set_cons_zero, List.set_cons_succ])
          refine wpG_take _ (.pointer (some ⟨C j, 0, none⟩)) rfl (by rfl) (fun X hX => ex_ld32 rfl rfl hX.1) ?_
          (try simp only [Act.put, List.setIfInBounds_toArray, List.set_cons_zero, List.set_cons_succ])
          refine wpG_take _ (.pointer (some ⟨Q, 0, none⟩)) rfl (by rfl) (fun X hX => by first | rfl | go_simp) ?_
          (try simp only [Act.put, List.setIfInBounds_toArray, List.set_cons_zero, List.set_cons_succ])
          refine wpG_take _ (aval a7) rfl (by rfl) (fun X hX => hX.2.load rfl rfl) ?_
          (try simp only [Act.put, List.setIfInBounds_toArray, List.set_cons_zero, List.set_cons_succ])
          refine wpG_call _ rfl (by rfl) 12 #[.pointer (some ⟨C j, 0, none⟩), .pointer (some ⟨Q, 0, none⟩), aval a7] (fun _ => by go_simp) (fun u w' => u = .tuple #[.string (bstr (done (s j) p a7).1), .int .i64 (done (s j) p a7).2.1] ∧ Made (C j) Q (S j) (done (s j) p a7) w7.drew (.returned u) w') ((does_any (C j) Q (S j) (s j) p a7 w7.drew (HS7.out.drew.acts hj2 (HSIM.out j hj2) HK.out (HCOP.out.ok.below (Below.refl _ _).drew (Nat.le_refl _)) hl7 hz7)).mono fun e w' hh => ⟨_, hh.1, ⟨(World.cell?_of_block (a := ⟨gd, j, none⟩) (hh.2.2.2.block gd HS7.out.ld (fo_gd HS7.out hj2))).trans (HS7.out.cd j hj2), (Boxed.of_blk HF7.out.blk).drew.stays hh.2.2.2 HF7.out.blk.lt (fo_own HS7.out hj2 gb HF7.out.ogb)⟩, rfl, by obtain ⟨rfl, h2⟩ := hh; exact ⟨rfl, h2⟩⟩) ?_
          rintro u w8 hs8 ⟨rfl, hm8⟩
          refine ⟨_, fun _ h => h, hs8, ?_⟩
          (try simp only [Act.put, List.setIfInBounds_toArray, List.set_cons_zero, List.set_cons_succ])
          refine wpG_take _ (.tuple #[.string (bstr (done (s j) p a7).1), .int .i64 (done (s j) p a7).2.1]) rfl (by rfl) (fun X hX => by first | rfl | go_simp) ?_
          (try simp only [Act.put, List.setIfInBounds_toArray, List.set_cons_zero, List.set_cons_succ])
          refine wpG_take _ (.string (bstr (done (s j) p a7).1)) rfl (by rfl) (fun X hX => by first | rfl | go_simp) ?_
          (try simp only [Act.put, List.setIfInBounds_toArray, List.set_cons_zero, List.set_cons_succ])
          refine wpG_take _ (.int .i64 (done (s j) p a7).2.1) rfl (by rfl) (fun X hX => by first | rfl | go_simp) ?_
          (try simp only [Act.put, List.setIfInBounds_toArray, List.set_cons_zero, List.set_cons_succ])
          refine wpG_take _ (.string (bstr (done (s j) p a7).1)) rfl (by rfl) (fun X hX => by first | rfl | go_simp) ?_
          (try simp only [Act.put, List.setIfInBounds_toArray, List.set_cons_zero, List.set_cons_succ])
          refine wpG_take _ (.int .i64 (done (s j) p a7).2.1) rfl (by rfl) (fun X hX => by first | rfl | go_simp) ?_
          (try simp only [Act.put, List.setIfInBounds_toArray, List.set_cons_zero, List.set_cons_succ])
          refine wpG_nil ?_
          have HS8 := Lib.hid (HS7.out.drew.made hj2 hm8)
          have HF8 := Lib.hid (HF7.out.drew.chg hm8.2.2.2 (fo_own HS7.out hj2) (10 + j))
          clear hs8 hm8 HS7 HF7 HCOP
          go_wp2_with fail
          have hz9 := low_z HOK.out
          have hb9 := low_b HOK.out
          refine wp_region_sched (.take 0 (.take 1 (.take 2 (.take 3 (.take 4 (.take 5 (.take 6 (.take 7 (.step 8 (.take 9 (.take 10 (.take 11 (.take 12 (.take 13 (.nil))))))))))))))) (by kernel_rfl) (by kernel_rfl) (fun d _ _ _ _ h => by cases d <;> exact h) (fun X => X.cell? ⟨gw, j, none⟩ = some (.pointer (some ⟨R j, 0, none⟩)) ∧ ∀ i, i < 7 → X.cell? ⟨g, og + k * 7 + i, none⟩ = some (a.cell i)) ⟨HS8.out.cw j hj2, HCA.out _ HS8.out.bel.drew⟩ ?_
          refine wpG_take _ (.slice (some ⟨gw, 0, none⟩) 2 wc) rfl (by rfl) (fun X hX => by first | rfl | go_simp) ?_
          (try simp only [Act.put, List.setIfInBounds_toArray, List.set_cons_zero, List.set_cons_succ])
          refine wpG_take _ (.int .i64 (j : Int)) rfl (by rfl) (fun X hX => by first | rfl | go_simp) ?_
          (try simp only [Act.put, List.setIfInBounds_toArray, List.set_cons_zero, List.set_cons_succ])
          refine wpG_take _ (.pointer (some ⟨gw, j, none⟩)) rfl (by rfl) (fun X hX => ex_ix31 rfl rfl rfl hj2) ?_
          (try simp only [Act.put, List.setIfInBounds_toArray, List.set_cons_zero, List.set_cons_succ])
          refine wpG_take _ (.pointer (some ⟨R j, 0, none⟩)) rfl (by rfl) (fun X hX => ex_ld36 rfl rfl hX.1) ?_
          (try simp only [Act.put, List.setIfInBounds_toArray, List.set_cons_zero, List.set_cons_succ])
          refine wpG_take _ (.slice (some ⟨g, og, none⟩) n1 c1) rfl (by rfl) (fun X hX => by first | rfl | go_simp) ?_
          (try simp only [Act.put, List.setIfInBounds_toArray, List.set_cons_zero, List.set_cons_succ])
          refine wpG_take _ (.int .i64 (k : Int)) rfl (by rfl) (fun X hX => by first | rfl | go_simp) ?_
          (try simp only [Act.put, List.setIfInBounds_toArray, List.set_cons_zero, List.set_cons_succ])
          refine wpG_take _ (.pointer (some ⟨g, og + k * 7, none⟩)) rfl (by rfl) (fun X hX => ex_ix22 rfl rfl rfl hlt) ?_
          (try simp only [Act.put, List.setIfInBounds_toArray, List.set_cons_zero, List.set_cons_succ])
          refine wpG_take _ (aval a) rfl (by rfl) (fun X hX => ex_ld45 rfl rfl hX.2) ?_
          (try simp only [Act.put, List.setIfInBounds_toArray, List.set_cons_zero, List.set_cons_succ])
          refine wpG_call _ rfl (by rfl) 13 #[.pointer (some ⟨R j, 0, none⟩), aval a] (fun _ => by go_simp) (fun u w' => u = .tuple #[.string (bstr (done (s j) p a7).1), .int .i64 (done (s j) p a7).2.1] ∧ Spoke (R j) q (T j) (said (t j) p a) w8.drew (.returned (.tuple #[.string (bstr (said (t j) p a).1), .int .i64 (said (t j) p a).2.1])) w') ((says_any (R j) q (T j) (t j) p a w8.drew (HS8.out.drew.asks hj2 HK.out (HOK.out.below HS8.out.bel.drew (Nat.le_refl _)) HAB.out hz9 hb9)).mono fun e w' hh => ⟨_, hh.1, ⟨(World.cell?_of_block (a := ⟨gw, j, none⟩) (hh.2.2.2.block gw HS8.out.lw (to_gw HS8.out hj2))).trans (HS8.out.cw j hj2), fun i hi => (World.cell?_of_block (a := ⟨g, og + k * 7 + i, none⟩) (hh.2.2.2.block g (Nat.lt_of_lt_of_le HG.out HS8.out.bel.size) (to_low HS8.out hj2 HG.out))).trans (HCA.out _ HS8.out.bel i hi)⟩, by rw [HEQ.out.1, HEQ.out.2.1], by obtain ⟨rfl, h2⟩ := hh; exact ⟨rfl, h2⟩⟩) ?_
          rintro u w9 hs9 ⟨rfl, hm9⟩
          refine ⟨_, fun _ h => h, hs9, ?_⟩
          (try simp only [Act.put, List.setIfInBounds_toArray, List.set_cons_zero, List.set_cons_succ])
          refine wpG_take _ (.tuple #[.string (bstr (done (s j) p a7).1), .int .i64 (done (s j) p a7).2.1]) rfl (by rfl) (fun X hX => by first | rfl | go_simp) ?_
          (try simp only [Act.put, List.setIfInBounds_toArray, List.set_cons_zero, List.set_cons_succ])
          refine wpG_take _ (.string (bstr (done (s j) p a7).1)) rfl (by rfl) (fun X hX => by first | rfl | go_simp) ?_
          (try simp only [Act.put, List.setIfInBounds_toArray, List.set_cons_zero, List.set_cons_succ])
          refine wpG_take _ (.int .i64 (done (s j) p a7).2.1) rfl (by rfl) (fun X hX => by first | rfl | go_simp) ?_
          (try simp only [Act.put, List.setIfInBounds_toArray, List.set_cons_zero, List.set_cons_succ])
          refine wpG_take _ (.string (bstr (done (s j) p a7).1)) rfl (by rfl) (fun X hX => by first | rfl | go_simp) ?_
          (try simp only [Act.put, List.setIfInBounds_toArray, List.set_cons_zero, List.set_cons_succ])
          refine wpG_take _ (.int .i64 (done (s j) p a7).2.1) rfl (by rfl) (fun X hX => by first | rfl | go_simp) ?_
          (try simp only [Act.put, List.setIfInBounds_toArray, List.set_cons_zero, List.set_cons_succ])
          refine wpG_nil ?_
          have haft : After W nb C R Q q gd gw k a a7 gb w9 := by
            have h9 := HS8.out.drew.spoke hj2 hm9 (Bd.said (HS8.out.bd j hj2) p a HOK.out.addr) ((said_n _ _ _).trans (HS8.out.nn j hj2))
            rw [HEQ.out.2.2.2] at h9
            exact ⟨_, _, _, _, _, _, h9, Sims.up HSIM.out HEQ.out.2.2.1, HF8.out.drew.chg hm9.2.2.2 (to_own HS8.out hj2) (20 + j)⟩
          clear hs9 hm9 HS8 HF8 HEQ HS HSIM hz9 hb9
          generalize (done (s j) p a7).1 = db
          generalize (done (s j) p a7).2.1 = de
          clear S T s t p own own7 hz7 hl7
          obtain ⟨S, T, s, t, p, own, hS, hSim, hF⟩ := haft
          have HS := Lib.hid hS
          have HSIM := Lib.hid hSim
          have HF := Lib.hid hF
          clear hS hSim hF
          go_wp2_with fail
          have hmono : ∀ X : World, Below w9.heap.size w9 X → ∀ ad : Addr, ad.block < w9.heap.size → X.cell? ad = w9.cell? ad := fun X hX ad had => hX.cell (p := ad) had
          have HMONO := Lib.hid hmono
          have hq0 : w9.cell? ⟨q, 0, none⟩ = some (.bool (!p.on)) := HS.out.rp.blk.cell rfl
          have HQ0 := Lib.hid hq0
          clear hmono hq0
          refine wp_region_sched (.take 0 (.take 1 (.take 2 (.take 3 (.take 4 (.take 5 (.take 6 (.take 7 (.take 8 (.take 9 (.take 11 (.take 12 (.take 13 (.take 14 (.step 10 (.take 15 (.take 16 (.take 17 (.take 18 (.take 19 (.take 20 (.take 21 (.take 22 (.take 23 (.take 24 (.take 25 (.step 26 (.take 27 (.take 28 (.nil)))))))))))))))))))))))))))))) (by kernel_rfl) (by kernel_rfl) (fun d _ _ _ _ h => by cases d <;> exact h) (fun X => Below w9.heap.size w9 X) (Below.refl _ _).drew ?_
          refine wpG_take _ (.string (bstr db)) rfl (by rfl) (fun X hX => by first | rfl | go_simp) ?_
          (try simp only [Act.put, List.setIfInBounds_toArray, List.set_cons_zero, List.set_cons_succ])
          refine wpG_take _ (.string (bstr db)) rfl (by rfl) (fun X hX => by first | rfl | go_simp) ?_
          (try simp only [Act.put, List.setIfInBounds_toArray, List.set_cons_zero, List.set_cons_succ])
          refine wpG_take _ (.bool false) rfl (by rfl) (fun X hX => ex_neT9 rfl rfl rfl) ?_
          (try simp only [Act.put, List.setIfInBounds_toArray, List.set_cons_zero, List.set_cons_succ])
          refine wpG_take _ (.bool false) rfl (by rfl) (fun X hX => by first | rfl | go_simp) ?_
          (try simp only [Act.put, List.setIfInBounds_toArray, List.set_cons_zero, List.set_cons_succ])
          refine wpG_take _ (.int .i64 de) rfl (by rfl) (fun X hX => by first | rfl | go_simp) ?_
          (try simp only [Act.put, List.setIfInBounds_toArray, List.set_cons_zero, List.set_cons_succ])
          refine wpG_take _ (.int .i64 de) rfl (by rfl) (fun X hX => by first | rfl | go_simp) ?_
          (try simp only [Act.put, List.setIfInBounds_toArray, List.set_cons_zero, List.set_cons_succ])
          refine wpG_take _ (.bool false) rfl (by rfl) (fun X hX => ex_neE rfl rfl rfl) ?_
          (try simp only [Act.put, List.setIfInBounds_toArray, List.set_cons_zero, List.set_cons_succ])
          refine wpG_take _ (.bool false) rfl (by rfl) (fun X hX => by first | rfl | go_simp) ?_
          (try simp only [Act.put, List.setIfInBounds_toArray, List.set_cons_zero, List.set_cons_succ])
          refine wpG_take _ (.bool false) rfl (by rfl) (fun X hX => by first | rfl | go_simp) ?_
          (try simp only [Act.put, List.setIfInBounds_toArray, List.set_cons_zero, List.set_cons_succ])
          refine wpG_take _ (.pointer (some ⟨Q, 0, none⟩)) rfl (by rfl) (fun X hX => by first | rfl | go_simp) ?_
          (try simp only [Act.put, List.setIfInBounds_toArray, List.set_cons_zero, List.set_cons_succ])
          refine wpG_take _ (.pointer (some ⟨q, 0, none⟩)) rfl (by rfl) (fun X hX => by first | rfl | go_simp) ?_
          (try simp only [Act.put, List.setIfInBounds_toArray, List.set_cons_zero, List.set_cons_succ])
          refine wpG_take _ (.pointer (some ⟨q, 0, none⟩)) rfl (by rfl) (fun X hX => ex_nc rfl rfl) ?_
          (try simp only [Act.put, List.setIfInBounds_toArray, List.set_cons_zero, List.set_cons_succ])
          refine wpG_take _ (.pointer (some ⟨q, 0, none⟩)) rfl (by rfl) (fun X hX => ex_fa29z rfl rfl) ?_
          (try simp only [Act.put, List.setIfInBounds_toArray, List.set_cons_zero, List.set_cons_succ])
          refine wpG_take _ (.bool (!p.on)) rfl (by rfl) (fun X hX => ex_ld4 rfl rfl ((HMONO.out X hX ⟨q, 0, none⟩ HS.out.rp.blk.lt).trans HQ0.out)) ?_
          (try simp only [Act.put, List.setIfInBounds_toArray, List.set_cons_zero, List.set_cons_succ])
          refine wpG_call _ rfl (by rfl) 14 #[.pointer (some ⟨Q, 0, none⟩)] (fun _ => by go_simp) (fun u w' => u = .bool p.on ∧ w9.drew = w') ((is_any Q p w9.drew HS.out.drew.pw).mono fun e w' ⟨e1, e2⟩ => ⟨_, e1, by rw [← e2]; exact (Below.refl _ _).drew, rfl, e2⟩) ?_
          rintro u w10 hs10 ⟨rfl, e10⟩
          subst e10
          refine ⟨_, fun _ h => h, hs10, ?_⟩
          (try simp only [Act.put, List.setIfInBounds_toArray, List.set_cons_zero, List.set_cons_succ])
          refine wpG_take _ (.bool false) rfl (by rfl) (fun X hX => ex_eqB rfl rfl rfl) ?_
          (try simp only [Act.put, List.setIfInBounds_toArray, List.set_cons_zero, List.set_cons_succ])
          refine wpG_take _ (.bool false) rfl (by rfl) (fun X hX => by first | rfl | go_simp) ?_
          (try simp only [Act.put, List.setIfInBounds_toArray, List.set_cons_zero, List.set_cons_succ])
          refine wpG_take _ (.bool false) rfl (by rfl) (fun X hX => by first | rfl | go_simp) ?_
          (try simp only [Act.put, List.setIfInBounds_toArray, List.set_cons_zero, List.set_cons_succ])
          refine wpG_take _ (.slice (some ⟨gd, 0, none⟩) 2 dc) rfl (by rfl) (fun X hX => by first | rfl | go_simp) ?_
          (try simp only [Act.put, List.setIfInBounds_toArray, List.set_cons_zero, List.set_cons_succ])
          refine wpG_take _ (.int .i64 (j : Int)) rfl (by rfl) (fun X hX => by first | rfl | go_simp) ?_
          (try simp only [Act.put, List.setIfInBounds_toArray, List.set_cons_zero, List.set_cons_succ])
          refine wpG_take _ (.pointer (some ⟨gd, j, none⟩)) rfl (by rfl) (fun X hX => ex_ix30 rfl rfl rfl hj2) ?_
          (try simp only [Act.put, List.setIfInBounds_toArray, List.set_cons_zero, List.set_cons_succ])
          refine wpG_take _ (.pointer (some ⟨C j, 0, none⟩)) rfl (by rfl) (fun X hX => ex_ld32 rfl rfl ((HMONO.out X hX ⟨gd, j, none⟩ HS.out.ld).trans (HS.out.cd j hj2))) ?_
          (try simp only [Act.put, List.setIfInBounds_toArray, List.set_cons_zero, List.set_cons_succ])
          refine wpG_take _ (.slice (some ⟨gw, 0, none⟩) 2 wc) rfl (by rfl) (fun X hX => by first | rfl | go_simp) ?_
          (try simp only [Act.put, List.setIfInBounds_toArray, List.set_cons_zero, List.set_cons_succ])
          refine wpG_take _ (.int .i64 (j : Int)) rfl (by rfl) (fun X hX => by first | rfl | go_simp) ?_
          (try simp only [Act.put, List.setIfInBounds_toArray, List.set_cons_zero, List.set_cons_succ])
          refine wpG_take _ (.pointer (some ⟨gw, j, none⟩)) rfl (by rfl) (fun X hX => ex_ix31 rfl rfl rfl hj2) ?_
          (try simp only [Act.put, List.setIfInBounds_toArray, List.set_cons_zero, List.set_cons_succ])
          refine wpG_take _ (.pointer (some ⟨R j, 0, none⟩)) rfl (by rfl) (fun X hX => ex_ld36 rfl rfl ((HMONO.out X hX ⟨gw, j, none⟩ HS.out.lw).trans (HS.out.cw j hj2))) ?_
          (try simp only [Act.put, List.setIfInBounds_toArray, List.set_cons_zero, List.set_cons_succ])
          refine wpG_call _ rfl (by rfl) 15 #[.pointer (some ⟨C j, 0, none⟩), .pointer (some ⟨R j, 0, none⟩)] (fun _ => by go_simp) (fun u w' => u = .bool true ∧ Below w9.heap.size w9 w') ((alike_any (C j) Q (R j) q (S j) (T j) (s j) (t j) (HSIM.out j hj2) w9.drew (HS.out.drew.dk j hj2) (HS.out.drew.rk j hj2) ((HS.out.bd j hj2).room (by have := HK.out; omega)).small (by rw [HS.out.nn j hj2]; exact hb2)).mono fun e w' ⟨e1, e2⟩ => ⟨_, e1, (Below.refl _ _).drew.trans e2, rfl, (Below.refl _ _).drew.trans e2⟩) ?_
          rintro u w11 hs11 ⟨rfl, hb11⟩
          refine ⟨_, fun _ h => h, hs11, ?_⟩
          (try simp only [Act.put, List.setIfInBounds_toArray, List.set_cons_zero, List.set_cons_succ])
          refine wpG_take _ (.bool false) rfl (by rfl) (fun X hX => by first | rfl | go_simp) ?_
          (try simp only [Act.put, List.setIfInBounds_toArray, List.set_cons_zero, List.set_cons_succ])
          refine wpG_take _ (.bool false) rfl (by rfl) (fun X hX => by first | rfl | go_simp) ?_
          (try simp only [Act.put, List.setIfInBounds_toArray, List.set_cons_zero, List.set_cons_succ])
          refine wpG_nil ?_
          have HL3 := Lib.hid (show P3Rel W nb C R Q q gd gw k a a7 gb (.int .i64 0) w11 from ⟨0, Nat.zero_le _, rfl, S, T, s, t, p, _, HS.out.grown hb11, HSIM.out, HF.out.chg (F := fun _ => False) (Chg.of_below hb11) (fun _ _ h => h) 0⟩)
          clear hs10 hs11 hb11 HMONO HQ0 HS HSIM HF
          go_wp2_with fail
          go_loopw [19] (fun i wr => P3Rel W nb C R Q q gd gw k a a7 gb i wr) (fun i _ => a.b.length - (intOf i).toNat)
          case atStart => exact HL3.out
          case round =>
            clear HL3
            obtain ⟨m, hm, rfl, S, T, s, t, p, own, hS, hSim, hF⟩ := hrel
            have HS := Lib.hid hS
            have HSIM := Lib.hid hSim
            have HF := Lib.hid hF
            have hbx : wr.cell? ⟨gb, 3, none⟩ = some (.slice a7.spb a7.b.length a7.capb) := hF.blk.cell rfl
            rw [HEB.out] at hbx
            have hl6 := HAB.out
            obtain ⟨L, hL⟩ : ∃ L, a.b.length = L := ⟨_, rfl⟩
            have HL := Lib.hid hL
            rw [hL] at hbx hm hl6
            clear hS hSim hF hL
            have wm1 := IntWalk.i64_in ((m : Int) + 1) (by omega)
            by_cases hml : m < L
            · obtain ⟨gc, ys, e1, e2, e3, e4, e5⟩ := HF.out.cp (by have := HL.out; omega)
              rw [e1] at hbx
              have hmy : m < ys.length := by have := HL.out; omega
              obtain ⟨y, hy⟩ := e2.has m hmy
              have fy := e2.free m
              have HE1 := Lib.hid e1
              have hne : ∃ w', (wr.setCell ⟨gc, m, none⟩ (.int .u8 99)) = w' ∧ P3Rel W nb C R Q q gd gw k a a7 gb (.int .i64 ((m + 1 : Nat) : Int)) w' :=
                ⟨_, rfl, m + 1, by have := HL.out; omega, rfl, S, T, s, t, p, _, HS.out.law (F := fun g => g = gc) (chg1 m _) (fun g hg => by rw [hg]; exact e4), HSIM.out, (HF.out.byte e1 (by have := HL.out; omega) (.int .u8 99)).1⟩
              obtain ⟨w12, hw12, hrel12⟩ := hne
              have HR12 := Lib.hid hrel12
              have HW12 := Lib.hid hw12
              clear e1 e2 e3 e4 e5 hmy hrel12 hw12
              go_wp2_with fail
              rw [HW12.out]
              go_roundw
              case rel => exact HR12.out
              case measure => simp [intOf]; have := HL.out; omega
            · obtain rfl : m = L := by omega
              clear hml hm
              go_wp2_with fail
              go_roundw
              case rel => exact ⟨k + 1, by omega, by go_num, S, T, s, t, p, own, HS.out, HSIM.out⟩
              case measure => simp [intOf]; omega
        · obtain rfl : k = n1 := by omega
          clear hlt hk
          go_wp2_with fail
          refine wp_region_sched (.take 0 (.take 1 (.take 2 (.take 3 (.take 4 (.take 5 (.step 6 (.take 7 (.take 8 (.take 9 (.take 10 (.take 11 (.take 12 (.take 13 (.step 14 (.take 15 (.take 16 (.step 17 (.take 18 (.take 19 (.nil))))))))))))))))))))) (by kernel_rfl) (by kernel_rfl) (fun d _ _ _ _ h => by cases d <;> exact h) (fun X => Below wr.heap.size wr X) (Below.refl _ _).drew ?_
          refine wpG_take _ (.slice (some ⟨gd, 0, none⟩) 2 dc) rfl (by rfl) (fun X hX => by first | rfl | go_simp) ?_
          (try simp only [Act.put, List.setIfInBounds_toArray, List.set_cons_zero, List.set_cons_succ])
          refine wpG_take _ (.pointer (some ⟨gd, 0, none⟩)) rfl (by rfl) (fun X hX => by first | rfl | go_simp) ?_
          (try simp only [Act.put, List.setIfInBounds_toArray, List.set_cons_zero, List.set_cons_succ])
          refine wpG_take _ (.pointer (some ⟨C 0, 0, none⟩)) rfl (by rfl) (fun X hX => ex_ld32 rfl rfl ((hX.cell (p := ⟨gd, 0, none⟩) HS.out.ld).trans (HS.out.cd 0 (by omega)))) ?_
          (try simp only [Act.put, List.setIfInBounds_toArray, List.set_cons_zero, List.set_cons_succ])
          refine wpG_take _ (.slice (some ⟨gw, 0, none⟩) 2 wc) rfl (by rfl) (fun X hX => by first | rfl | go_simp) ?_
          (try simp only [Act.put, List.setIfInBounds_toArray, List.set_cons_zero, List.set_cons_succ])
          refine wpG_take _ (.pointer (some ⟨gw, 0, none⟩)) rfl (by rfl) (fun X hX => by first | rfl | go_simp) ?_
          (try simp only [Act.put, List.setIfInBounds_toArray, List.set_cons_zero, List.set_cons_succ])
          refine wpG_take _ (.pointer (some ⟨R 0, 0, none⟩)) rfl (by rfl) (fun X hX => ex_ld36 rfl rfl ((hX.cell (p := ⟨gw, 0, none⟩) HS.out.lw).trans (HS.out.cw 0 (by omega)))) ?_
          (try simp only [Act.put, List.setIfInBounds_toArray, List.set_cons_zero, List.set_cons_succ])
          refine wpG_call _ rfl (by rfl) 15 #[.pointer (some ⟨C 0, 0, none⟩), .pointer (some ⟨R 0, 0, none⟩)] (fun _ => by go_simp) (fun u w' => u = .bool true ∧ Below wr.heap.size wr w') ((alike_any (C 0) Q (R 0) q (S 0) (T 0) (s 0) (t 0) (HSIM.out 0 (by omega)) wr.drew (HS.out.drew.dk 0 (by omega)) (HS.out.drew.rk 0 (by omega)) ((HS.out.drew.bd 0 (by omega)).room (by omega)).small (by rw [HS.out.drew.nn 0 (by omega)]; exact hb2)).mono fun e w' ⟨e1, e2⟩ => ⟨_, e1, (Below.refl _ _).drew.trans e2, rfl, (Below.refl _ _).drew.trans e2⟩) ?_
          rintro u v0 hs0 ⟨rfl, hv0⟩
          refine ⟨_, fun _ h => h, hs0, ?_⟩
          (try simp only [Act.put, List.setIfInBounds_toArray, List.set_cons_zero, List.set_cons_succ])
          refine wpG_take _ (.bool true) rfl (by rfl) (fun X hX => by first | rfl | go_simp) ?_
          (try simp only [Act.put, List.setIfInBounds_toArray, List.set_cons_zero, List.set_cons_succ])
          refine wpG_take _ (.slice (some ⟨gd, 0, none⟩) 2 dc) rfl (by rfl) (fun X hX => by first | rfl | go_simp) ?_
          (try simp only [Act.put, List.setIfInBounds_toArray, List.set_cons_zero, List.set_cons_succ])
          refine wpG_take _ (.pointer (some ⟨gd, 1, none⟩)) rfl (by rfl) (fun X hX => by first | rfl | go_simp) ?_
          (try simp only [Act.put, List.setIfInBounds_toArray, List.set_cons_zero, List.set_cons_succ])
          refine wpG_take _ (.pointer (some ⟨C 1, 0, none⟩)) rfl (by rfl) (fun X hX => ex_ld32 rfl rfl ((hX.cell (p := ⟨gd, 1, none⟩) HS.out.ld).trans (HS.out.cd 1 (by omega)))) ?_
          (try simp only [Act.put, List.setIfInBounds_toArray, List.set_cons_zero, List.set_cons_succ])
          refine wpG_take _ (.slice (some ⟨gw, 0, none⟩) 2 wc) rfl (by rfl) (fun X hX => by first | rfl | go_simp) ?_
          (try simp only [Act.put, List.setIfInBounds_toArray, List.set_cons_zero, List.set_cons_succ])
          refine wpG_take _ (.pointer (some ⟨gw, 1, none⟩)) rfl (by rfl) (fun X hX => by first | rfl | go_simp) ?_
          (try simp only [Act.put, List.setIfInBounds_toArray, List.set_cons_zero, List.set_cons_succ])
          refine wpG_take _ (.pointer (some ⟨R 1, 0, none⟩)) rfl (by rfl) (fun X hX => ex_ld36 rfl rfl ((hX.cell (p := ⟨gw, 1, none⟩) HS.out.lw).trans (HS.out.cw 1 (by omega)))) ?_
          (try simp only [Act.put, List.setIfInBounds_toArray, List.set_cons_zero, List.set_cons_succ])
          refine wpG_call _ rfl (by rfl) 15 #[.pointer (some ⟨C 1, 0, none⟩), .pointer (some ⟨R 1, 0, none⟩)] (fun _ => by go_simp) (fun u w' => u = .bool true ∧ Below wr.heap.size wr w') ((alike_any (C 1) Q (R 1) q (S 1) (T 1) (s 1) (t 1) (HSIM.out 1 (by omega)) v0 ((HS.out.grown hv0).dk 1 (by omega)) ((HS.out.grown hv0).rk 1 (by omega)) (((HS.out.grown hv0).bd 1 (by omega)).room (by omega)).small (by rw [(HS.out.grown hv0).nn 1 (by omega)]; exact hb2)).mono fun e w' ⟨e1, e2⟩ => ⟨_, e1, hv0.trans (e2.mono hv0.size), rfl, hv0.trans (e2.mono hv0.size)⟩) ?_
          rintro u v1 hs1 ⟨rfl, hv1⟩
          refine ⟨_, fun _ h => h, hs1, ?_⟩
          (try simp only [Act.put, List.setIfInBounds_toArray, List.set_cons_zero, List.set_cons_succ])
          refine wpG_take _ (.bool true) rfl (by rfl) (fun X hX => by first | rfl | go_simp) ?_
          (try simp only [Act.put, List.setIfInBounds_toArray, List.set_cons_zero, List.set_cons_succ])
          refine wpG_take _ (.bool true) rfl (by rfl) (fun X hX => by first | rfl | go_simp) ?_
          (try simp only [Act.put, List.setIfInBounds_toArray, List.set_cons_zero, List.set_cons_succ])
          refine wpG_call _ rfl (by rfl) 9 #[] (fun _ => by go_simp) (fun u w' => u = .bool true ∧ Below wr.heap.size wr w') ((wakes_any v1).mono fun e w' ⟨e1, e2⟩ => ⟨_, e1, hv1.trans (e2.mono hv1.size), rfl, hv1.trans (e2.mono hv1.size)⟩) ?_
          rintro u v2 hs2 ⟨rfl, hv2⟩
          refine ⟨_, fun _ h => h, hs2, ?_⟩
          (try simp only [Act.put, List.setIfInBounds_toArray, List.set_cons_zero, List.set_cons_succ])
          refine wpG_take _ (.bool true) rfl (by rfl) (fun X hX => by first | rfl | go_simp) ?_
          (try simp only [Act.put, List.setIfInBounds_toArray, List.set_cons_zero, List.set_cons_succ])
          refine wpG_take _ (.bool true) rfl (by rfl) (fun X hX => by first | rfl | go_simp) ?_
          (try simp only [Act.put, List.setIfInBounds_toArray, List.set_cons_zero, List.set_cons_succ])
          refine wpG_nil ?_
          have HV2 := Lib.hid (show Below W.heap.size W v2 from HS.out.bel.trans (hv2.mono HS.out.bel.size))
          clear hs0 hs1 hs2 hv0 hv1 hv2 HS HSIM
          go_wp2_with fail
          go_ret
          exact ⟨rfl, HV2.out⟩
end Go.Proofs.Ytneemllgimeacaa
