/- A pointer's tag, and its bytes behind some. -/
import Derived.Test.YtincpdnmaiimnaaDoorPk
namespace Go.Proofs.YtincpdnmaiimnaaDoor
open Go.RowKit

theorem u8_cell {n : Nat} (h : n < 256) : Value.int .u8 (n : Int) = V8 (lb n 0) := by
  unfold V8 N8
  rw [lb_nat]
  simp
  omega
theorem leb_one (n : Nat) : leb n 1 = [lb n 0] := rfl
theorem src_new (w : World) (l : Bs) (cs : Array Value) (h : cs = (l.map V8).toArray) : SrcA (w.alloc (.cells cs 5)) (some ⟨w.heap.size, 0, none⟩) l := fun _ => by
  refine ⟨w.heap.size, 0, rfl, by simp, fun j hj => ?_⟩
  rw [Nat.zero_add]
  exact (Blk.new' w cs (l.map V8) 5 _ rfl h).cell (get_map V8 l j hj 0)
theorem val_take_one {l : List Nat} {k x : Nat} (h : l[k]? = some x) : l.take (k + 1) = l.take k ++ [x] := by
  obtain ⟨h2, h3⟩ := List.getElem?_eq_some_iff.1 h
  rw [List.take_succ_eq_append_getElem h2, h3]
set_option maxRecDepth 100000 in
set_option maxHeartbeats 4000000 in
theorem tag_any (p : Pt) (hp : p.OK) (w : World) : Calls Tryd.prog 31 #[.agg (pcells p).toArray] w fun e w' => ∃ v, e = .returned v ∧ OwnB w' w.heap.size v (tagB p) ∧ Below w.heap.size w w' := by
  have HP := Lib.hid hp
  have HG0 : Hid (Blk (w.alloc (.cells (pcells p).toArray 28)) w.heap.size (pcells p) 28) := Lib.hid (Blk.new _ _ _)
  have HB0 : Hid (Below w.heap.size w (w.alloc (.cells (pcells p).toArray 28))) := Lib.hid ((Below.refl _ _).alloc (Nat.le_refl _) _)
  have cK := HG0.out.cell (j := 0) rfl
  have cL := HG0.out.cell (j := 1) rfl
  have cO := HG0.out.cell (j := 2) rfl
  clear hp
  go_enter Tryd.func31, Tryd.ntmps31
  go_upto_region 1 with fail
  generalize (w.alloc (.cells (pcells p).toArray 28)) = W0 at HG0 HB0 cK cL cO ⊢
  have cO2 : ∀ o, (W0.alloc o).cell? ⟨w.heap.size, 2, none⟩ = some (.int .u16 (p.obj : Int)) := fun o => (HG0.out.alloc o).cell rfl
  have hc := pu16_any (leb p.kind 1 ++ leb p.level 1) (some ⟨W0.heap.size, 0, none⟩) 2 p.obj (W0.alloc (.cells #[.int .u8 (p.kind : Int), .int .u8 (p.level : Int)] 5)) (by simp [leb_length]) HP.out.obj (src_new W0 _ _ (by rw [u8_cell HP.out.kind, u8_cell HP.out.level]; rfl))
  rw [show (leb p.kind 1 ++ leb p.level 1).length = 2 by simp [leb_length]] at hc
  have HC := Lib.hid hc
  clear hc
  go_upto_region 2 with (first | (go_at_call 32; refine HC.out.mono ?_; rintro e w1 ⟨rfl, ho1, hb1⟩; have HO1 := Lib.hid ho1; have HB1 := Lib.hid hb1; clear ho1 hb1) | fail)
  obtain ⟨g1, hg1⟩ : ∃ g, (W0.alloc (.cells #[.int .u8 (p.kind : Int), .int .u8 (p.level : Int)] 5)).heap.size = g := ⟨_, rfl⟩
  rw [hg1] at HO1 HB1
  have hg2 : W0.heap.size + 1 = g1 := by rw [← hg1]; simp
  try rw [hg2]
  try rw [hg1]
  have hw0 := HB0.out.size
  have hs1 : SrcA w1 (some ⟨g1, 0, none⟩) (leb p.kind 1 ++ leb p.level 1 ++ leb p.obj 2) := by
    obtain ⟨sp, cap, e, _, _, h, _⟩ := OwnB.form HO1.out
    cases e
    exact h
  have hgg := HG0.out.lt
  have hA1 : Blk w1 w.heap.size (pcells p) 28 := (HG0.out.alloc _).below HB1.out (by omega)
  have hBB : Below w.heap.size w w1 := (HB0.out.alloc hw0 _).trans (HB1.out.mono (by omega))
  have HA1 := Lib.hid hA1; have HS1 := Lib.hid hs1; have HBB := Lib.hid hBB
  clear hA1 hs1 hBB hg1 hg2 HO1 HB1 HC cO2 cK cL cO
  refine wp_region_sched (.take 0 (.take 1 (.take 2 (.take 4 (.take 5 (.step 3 (.step 6 (.take 7 (.nil))))))))) (by kernel_rfl) (by kernel_rfl) (fun d _ _ _ _ h => by cases d <;> exact h) (fun X => Blk X w.heap.size (pcells p) 28 ∧ Below w.heap.size w X) ⟨HA1.out.drew, HBB.out.drew⟩ ?_
  refine wpG_take _ (.slice (some ⟨g1, 0, none⟩) (2 + 2) (2 + 2)) rfl (by rfl) (fun X hX => by first | rfl | go_simp) ?_
  (try simp only [Act.put, List.setIfInBounds_toArray, List.set_cons_zero, List.set_cons_succ])
  refine wpG_take _ (.pointer (some ⟨w.heap.size, 3, none⟩)) rfl (by rfl) (fun X hX => ex_faP 3 3 (by omega) rfl rfl) ?_
  (try simp only [Act.put, List.setIfInBounds_toArray, List.set_cons_zero, List.set_cons_succ])
  refine wpG_take _ (.int .u32 (p.off : Int)) rfl (by rfl) (fun X hX => ex_ld1 Tryd.underlying23 rfl rfl (hX.1.cell rfl)) ?_
  (try simp only [Act.put, List.setIfInBounds_toArray, List.set_cons_zero, List.set_cons_succ])
  refine wpG_take _ (.pointer (some ⟨w.heap.size, 4, none⟩)) rfl (by rfl) (fun X hX => ex_faP 4 4 (by omega) rfl rfl) ?_
  (try simp only [Act.put, List.setIfInBounds_toArray, List.set_cons_zero, List.set_cons_succ])
  refine wpG_take _ (.int .u64 (p.birth : Int)) rfl (by rfl) (fun X hX => ex_ld1 Tryd.underlying24 rfl rfl (hX.1.cell rfl)) ?_
  (try simp only [Act.put, List.setIfInBounds_toArray, List.set_cons_zero, List.set_cons_succ])
  have hc2 := pu32_any (leb p.kind 1 ++ leb p.level 1 ++ leb p.obj 2) (some ⟨g1, 0, none⟩) (2 + 2) p.off w1.drew (by simp [leb_length]) HP.out.off HS1.out
  rw [show (leb p.kind 1 ++ leb p.level 1 ++ leb p.obj 2).length = 2 + 2 by simp [leb_length]] at hc2
  refine wpG_call _ rfl (by rfl) 47 #[.slice (some ⟨g1, 0, none⟩) (2 + 2) (2 + 2), .int .u32 (p.off : Int)] (fun _ => by go_simp) (fun u w' => u = .slice (some ⟨w1.drew.heap.size, 0, none⟩) (2 + 2 + 4) (2 + 2 + 4) ∧ SrcA w' (some ⟨w1.drew.heap.size, 0, none⟩) (leb p.kind 1 ++ leb p.level 1 ++ leb p.obj 2 ++ leb p.off 4)) (hc2.mono fun e w' ⟨e1, e2, e3⟩ => ⟨_, e1, ⟨HA1.out.drew.below e3 HA1.out.lt, HBB.out.drew.trans (e3.mono HBB.out.size)⟩, rfl, by
    obtain ⟨sp, cap, e, _, _, h, _⟩ := OwnB.form e2
    cases e
    exact h⟩) ?_
  rintro u w2 hs2 ⟨rfl, hsrc2⟩
  refine ⟨_, fun _ h => h, hs2, ?_⟩
  (try simp only [Act.put, List.setIfInBounds_toArray, List.set_cons_zero, List.set_cons_succ])
  have hc3 := pu64_any (leb p.kind 1 ++ leb p.level 1 ++ leb p.obj 2 ++ leb p.off 4) (some ⟨w1.drew.heap.size, 0, none⟩) (2 + 2 + 4) p.birth w2 (by simp [leb_length]) HP.out.birth hsrc2
  rw [show (leb p.kind 1 ++ leb p.level 1 ++ leb p.obj 2 ++ leb p.off 4).length = 2 + 2 + 4 by simp [leb_length]] at hc3
  refine wpG_call _ rfl (by rfl) 46 #[.slice (some ⟨w1.drew.heap.size, 0, none⟩) (2 + 2 + 4) (2 + 2 + 4), .int .u64 (p.birth : Int)] (fun _ => by go_simp) (fun u w' => u = .slice (some ⟨w2.heap.size, 0, none⟩) (2 + 2 + 4 + 8) (2 + 2 + 4 + 8) ∧ OwnB w' w2.heap.size u (tagB p)) (hc3.mono fun e w' ⟨e1, e2, e3⟩ => ⟨_, e1, ⟨hs2.1.below e3 hs2.1.lt, hs2.2.trans (e3.mono hs2.2.size)⟩, rfl, by
    have e : (leb p.kind 1 ++ leb p.level 1 ++ leb p.obj 2 ++ leb p.off 4 ++ leb p.birth 8).length = 2 + 2 + 4 + 8 := by simp [leb_length]
    rw [e] at e2
    exact e2⟩) ?_
  rintro u w3 hs3 ⟨rfl, ho3⟩
  refine ⟨_, fun _ h => h, hs3, ?_⟩
  (try simp only [Act.put, List.setIfInBounds_toArray, List.set_cons_zero, List.set_cons_succ])
  refine wpG_take _ (.slice (some ⟨w2.heap.size, 0, none⟩) (2 + 2 + 4 + 8) (2 + 2 + 4 + 8)) rfl (by rfl) (fun X hX => by first | rfl | go_simp) ?_
  (try simp only [Act.put, List.setIfInBounds_toArray, List.set_cons_zero, List.set_cons_succ])
  refine wpG_nil ?_
  have HO3 := Lib.hid (ho3.mono (B' := w.heap.size) hs2.2.size)
  have HB3 := Lib.hid hs3.2
  clear ho3 hs3 hs2 hsrc2 hc2 hc3
  go_wp2_with fail
  go_ret
  exact ⟨_, rfl, HO3.out, HB3.out⟩
end Go.Proofs.YtincpdnmaiimnaaDoor
