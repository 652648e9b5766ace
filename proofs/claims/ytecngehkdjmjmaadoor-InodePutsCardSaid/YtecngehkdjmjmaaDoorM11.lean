/- Inodes: of; the document's May; the block less what may not be. -/
import Derived.Test.YtecngehkdjmjmaaDoorM10
import Derived.Great.BuildSlice
namespace Go.Proofs.YtecngehkdjmjmaaDoor
open Go.RowKit

theorem fold_splice (off : Nat) (vs : List Value) (cs : Array Value) (h : off + vs.length ≤ cs.size) : (vs.zipIdx 0).foldl (fun cs (x : Value × Nat) => cs.setIfInBounds (off + x.2) x.1) cs = (splice cs.toList off vs).toArray := by
  obtain ⟨h1, h2⟩ := Go.Great.foldl_set off vs 0 cs
  apply Array.ext_getElem?
  intro k
  rw [h2 k]
  simp only [List.getElem?_toArray, splice, Nat.add_zero]
  by_cases hk : k < off
  · rw [if_neg (by omega), List.getElem?_append_left (by simp; omega), List.getElem?_take, if_pos hk]
    simp
  · rw [List.getElem?_append_right (by simp; omega)]
    have e : (cs.toList.take off).length = off := by simp; omega
    rw [e]
    by_cases hk2 : k < off + vs.length
    · rw [if_pos (by omega), List.getElem?_append_left (by omega)]
    · rw [if_neg (by omega), List.getElem?_append_right (by omega), List.getElem?_drop]
      rw [show off + vs.length + (k - off - vs.length) = k by omega]
      simp
theorem fill_oneL {pl : Array (Nat × Nat)} {cells : Array Value} {i off size : Nat} {v : Value} (hp : pl[i]? = some (off, size)) (hv : v.cells.size = size) (hle : off + size ≤ cells.size) (rest : List (Nat × Value)) :
    Instr.fill (pl[·]?) cells ((i, v) :: rest) = Instr.fill (pl[·]?) (splice cells.toList off v.cells.toList).toArray rest := by
  have hf := fold_splice off v.cells.toList cells (by simp; omega)
  conv => lhs; unfold Instr.fill
  simp only [hp]
  rw [if_neg (by simp [hv]; omega)]
  congr 1
  rw [← hf]
  rw [← Array.foldl_toList]
  simp
theorem builtI (parts : List (Nat × Value)) : Tryd.prog.built 32 parts = Instr.fill ((#[(0, 1), (1, 1), (2, 1), (3, 41)] : Array (Nat × Nat))[·]?) (icells zeroI).toArray parts := by kernel_rfl
theorem ex_bldI {ρ : Operand → Value} {o : Oper} {x y z u : Operand} {w : World} {n : Ino} (hn : n.OK) (ho : o.op = .build 32 #[(0, x), (1, y), (2, z), (3, u)]) (hx : ρ x = .int .u8 (n.kind : Int)) (hy : ρ y = .int .u16 (n.links : Int)) (hz : ρ z = .int .u32 (n.size : Int)) (hu : ρ u = .agg (pcells n.root).toArray) : (execOp ρ o).run Tryd.prog w = .ok (.value (.agg (icells n).toArray)) w := by
  have hl := pcells_length hn.root
  have hz0 : (icells zeroI).toArray.size = 44 := by rw [List.size_toArray]; exact icells_length zeroI_ok
  have hzl : ∀ (a b c : Value), ([a, b, c] ++ pcells zeroP).toArray.size = 44 := fun a b c => by rw [List.size_toArray, List.length_append, pcells_length zeroP_ok]; rfl
  have hr : (Instr.build 32 #[(0, .int .u8 (n.kind : Int)), (1, .int .u16 (n.links : Int)), (2, .int .u32 (n.size : Int)), (3, .agg (pcells n.root).toArray)]).run Tryd.prog w = .ok (.agg (icells n).toArray) w := run_build w 32 _ _ (by
    rw [builtI]
    show Instr.fill _ _ [(0, .int .u8 (n.kind : Int)), (1, .int .u16 (n.links : Int)), (2, .int .u32 (n.size : Int)), (3, .agg (pcells n.root).toArray)] = _
    rw [fill_oneL (i := 0) (off := 0) (size := 1) rfl rfl (by rw [hz0]; omega)]
    have e1 : splice (icells zeroI).toArray.toList 0 (Value.int .u8 (n.kind : Int)).cells.toList = ([.int .u8 (n.kind : Int), .int .u16 0, .int .u32 0] : List Value) ++ pcells zeroP := rfl
    rw [e1, fill_oneL (i := 1) (off := 1) (size := 1) rfl rfl (by rw [hzl]; omega)]
    have e2 : splice (([.int .u8 (n.kind : Int), .int .u16 0, .int .u32 0] : List Value) ++ pcells zeroP).toArray.toList 1 (Value.int .u16 (n.links : Int)).cells.toList = ([.int .u8 (n.kind : Int), .int .u16 (n.links : Int), .int .u32 0] : List Value) ++ pcells zeroP := rfl
    rw [e2, fill_oneL (i := 2) (off := 2) (size := 1) rfl rfl (by rw [hzl]; omega)]
    have e3 : splice (([.int .u8 (n.kind : Int), .int .u16 (n.links : Int), .int .u32 0] : List Value) ++ pcells zeroP).toArray.toList 2 (Value.int .u32 (n.size : Int)).cells.toList = inums n ++ pcells zeroP := rfl
    rw [e3, fill_oneL (i := 3) (off := 3) (size := 41) rfl (by simp [Value.cells, hl]) (by unfold inums; rw [hzl]; omega)]
    have e4 : splice (inums n ++ pcells zeroP).toArray.toList 3 (Value.agg (pcells n.root).toArray).cells.toList = icells n := by
      unfold splice
      show (inums n ++ pcells zeroP).take 3 ++ pcells n.root ++ (inums n ++ pcells zeroP).drop (3 + (pcells n.root).length) = inums n ++ pcells n.root
      rw [List.take_left' (by rfl), List.drop_of_length_le (by simp [hl, pcells_length zeroP_ok, inums]), List.append_nil]
    rw [e4]
    rfl)
  unfold execOp
  simp only [ho]
  rw [show (Array.map (fun x : Nat × Operand => (x.1, ρ x.2)) #[(0, x), (1, y), (2, z), (3, u)]) = #[(0, .int .u8 (n.kind : Int)), (1, .int .u16 (n.links : Int)), (2, .int .u32 (n.size : Int)), (3, .agg (pcells n.root).toArray)] by simp [hx, hy, hz, hu]]
  simp only [Sem.run_bind, hr, Result.andThen_ok, Sem.run_pure]
structure OfW (n : Ino) (w W : World) : Prop where
  a : Blk W w.heap.size (icells n) 30
  r : Blk W (w.heap.size + 1) (icells zeroI) 32
  b : Below w.heap.size w W
set_option maxRecDepth 100000 in
set_option maxHeartbeats 4000000 in
theorem of_any (n : Ino) (h : n.OK) (w : World) : Calls Tryd.prog 7 #[.agg (icells n).toArray] w fun e w' => e = .returned (.agg (icells n).toArray) ∧ Below w.heap.size w w' := by
  have HN := Lib.hid h
  have HX : Hid (∀ z, z = (icells zeroI).toArray → OfW n w ((w.alloc (.cells (icells n).toArray 30)).alloc (.cells z 32))) := Lib.hid (fun z hz => by
    subst hz
    exact ⟨(Blk.new _ _ _).alloc _, Blk.new' _ _ _ _ _ (by simp) rfl, ((Below.refl _ _).alloc (Nat.le_refl _) _).alloc (by simp) _⟩)
  have HSZ := Lib.hid (size_icI h)
  have HZZ : Hid ((icells zeroI).toArray.size = (icells n).toArray.size) := Lib.hid (by rw [List.size_toArray, List.size_toArray, icells_length h, icells_length zeroI_ok])
  clear h
  go_enter Tryd.func7, Tryd.ntmps7
  go_upto_region 1 with fail
  refine (fun (k : ∀ W, OfW n w W → Code.wp _ _ _ _ W) => k _ (HX.out _ rfl)) ?_
  intro W hW
  have HA := Lib.hid hW.a; have HR := Lib.hid hW.r; have HB := Lib.hid hW.b
  clear hW HX
  have c0 := HA.out.cell (j := 0) rfl
  have c1 := HA.out.cell (j := 1) rfl
  have c2 := HA.out.cell (j := 2) rfl
  go_wp2_with (first | (refine wpL_valG (by rfl) (ex_ldRtR HN.out HA.out rfl rfl) ?_) | (refine wpL_val rfl (ex_bldI HN.out rfl rfl rfl rfl rfl) ?_) | (refine wpList_store_row rfl 32 (.tmp 2) (.tmp 11) rfl (w.heap.size + 1) (icells n).toArray rfl rfl 32 _ HR.out HSZ.out HZZ.out (one_ic n) ?_) | fail)
  exact bodyPost_ret (results_cell_row Tryd.results7 _ _ (w.heap.size + 1) 32 _ _ _ rfl (HR.out.row _) Tryd.underlying32 rfl HSZ.out) rfl ⟨rfl, below_row HB.out (by omega) _⟩
end Go.Proofs.YtecngehkdjmjmaaDoor
