/- Nodes: Take. -/
import Derived.Test.YtincpdnmaiimnaaDoorNe
namespace Go.Proofs.YtincpdnmaiimnaaDoor
open Go.RowKit

theorem results_ct {fn : Func} {p u : Tmp} {ty e n : Nat} (h : fn.results = #[.cell p ty, .tmp u]) (tmps : Array Value) (w : World) (g t : Nat) (cs : List Value)
    (hp : tmps.getD p undef = .pointer (some ⟨g, 0, none⟩)) (hg : Blk w g cs t) (hu : Tryd.prog.underlying ty = some (.array n e)) (hi : (Tryd.prog.info? ty).map (·.size) = some cs.length) :
    (results fn tmps).run Tryd.prog w = .ok (.tuple #[.agg cs.toArray, tmps.getD u undef]) w := by
  rw [results_cell_tmp h, hp]
  simp only [asAddr, Sem.run_pure, Result.andThen_ok, run_loadVar_row w g t ty cs.toArray (0, 0) _ hg hu rfl (by simpa using hi)]
def nodeE (l : Bs) : Nat := if l.length = 512 then stE l 8 else 5
def nodeT (l : Bs) : List Pt := if nodeE l = 0 then nodeP l else holes
theorem nodeE_long {l : Bs} (h : nodeE l = 0) : l.length = 512 := by
  unfold nodeE at h
  split at h
  · assumption
  · cases h
theorem nodeP_ok {l : Bs} (h : l.length = 512) : NOK (nodeP l) := ⟨by simp [nodeP], fun p hp => by
  simp only [nodeP, List.mem_map, List.mem_range] at hp
  obtain ⟨j, hj, rfl⟩ := hp
  exact pt_ok (by rw [List.length_drop, h]; omega)⟩
theorem nodeT_ok (l : Bs) : NOK (nodeT l) := by
  unfold nodeT
  split
  · rename_i h; exact nodeP_ok (nodeE_long h)
  · exact holes_ok
def NTakePost (l : Bs) (w : World) (x : Ending) (w' : World) : Prop := x = .returned (.tuple #[.agg (ncells (nodeT l)).toArray, .int .i64 (nodeE l : Int)]) ∧ Below w.heap.size w w'
theorem size_ncl {ns : List Pt} (h : NOK ns) : (Tryd.prog.info? 35).map (·.size) = some (ncells ns).length := by rw [h.cells]; exact size_nd
set_option maxRecDepth 100000 in
set_option maxHeartbeats 8000000 in
theorem nodeTake_bad (l : Bs) (sp : Option Addr) (cap : Nat) (w : World) (hl : l.length ≠ 512) : Calls Tryd.prog 12 #[.slice sp l.length cap] w (NTakePost l w) := by
  have he : nodeE l = 5 := by unfold nodeE; rw [if_neg hl]
  have ht : nodeT l = holes := by unfold nodeT; rw [he]; rfl
  unfold NTakePost
  rw [he, ht]
  obtain ⟨L, hL⟩ : ∃ L, l.length = L := ⟨_, rfl⟩
  rw [hL] at hl ⊢
  have hl' : ¬ (L : Int) = 512 := by omega
  have HST := Lib.hid (size_nc holes_ok)
  have HON := Lib.hid (ncells_one holes_ok.ok)
  have HB := Lib.hid (Blk.new w (ncells holes) 35)
  have HW : Hid (Below w.heap.size w (w.alloc (.cells (ncells holes).toArray 35))) := Lib.hid ((Below.refl _ _).alloc (Nat.le_refl _) _)
  clear hL hl he ht
  go_enter Tryd.func12, Tryd.ntmps12
  go_upto_region 1 with fail
  refine (fun (k : ∀ W, Blk W w.heap.size (ncells holes) 35 → Below w.heap.size w W → Code.wp _ _ _ _ W) => k _ HB.out HW.out) ?_
  intro W hb hw
  have HB1 := Lib.hid hb; have HW1 := Lib.hid hw
  clear hb hw HB HW
  go_wp2_with (first | (refine wpL_val rfl (ex_bldN rfl) ?_) | (refine wpList_store_row rfl 35 (.tmp 2) (.tmp 10) rfl w.heap.size (ncells holes).toArray rfl rfl 35 _ HB1.out HST.out rfl HON.out ?_) | fail)
  exact bodyPost_ret (results_ct Tryd.results12 _ _ w.heap.size 35 _ rfl (HB1.out.row _) Tryd.underlying35 (size_ncl holes_ok)) rfl ⟨rfl, below_row HW1.out (Nat.le_refl _) _⟩
theorem endOf_512 {l rest : Bs} {ee : Nat} (hl : l.length = 512) (he : ee = stE l 8) (hr : ee = 0 → rest = l.drop 512) : endOf rest ee = nodeE l := by
  unfold endOf leftOf nodeE
  rw [if_pos hl, ← he]
  by_cases h : ee = 0
  · rw [if_pos h, hr h]
    simp [hl, h]
  · rw [if_neg h]; rfl
structure TkN (l : Bs) (w : World) (H G : Nat) (W : World) : Prop where
  res : Blk W w.heap.size (ncells holes) 35
  box : Blk W G [.pointer (some ⟨H, 0, none⟩)] 53
  bel : Below w.heap.size w W
  hH : w.heap.size + 1 ≤ H ∧ H < W.heap.size ∧ H < G
set_option maxRecDepth 100000 in
set_option maxHeartbeats 8000000 in
theorem nodeTake_512 (l : Bs) (sp : Option Addr) (cap : Nat) (w : World) (hl : l.length = 512) (hz : sp = none → cap = 0) (hc : l.length ≤ cap) (hS : SrcA w sp l) (hT : RTab w) : Calls Tryd.prog 12 #[.slice sp 512 cap] w (NTakePost l w) := by
  have HL := Lib.hid hl
  have HT := Lib.hid hT
  have HB : Hid (Blk (w.alloc (.cells (ncells holes).toArray 35)) w.heap.size (ncells holes) 35) := Lib.hid (Blk.new _ _ _)
  have HW : Hid (Below w.heap.size w (w.alloc (.cells (ncells holes).toArray 35))) := Lib.hid ((Below.refl _ _).alloc (Nat.le_refl _) _)
  have HNW : Hid (∀ W, Below w.heap.size w W → Calls Tryd.prog 22 #[.slice sp 512 cap] W (RetRd l W)) := Lib.hid fun W hb => by
    have h1 := new_any l sp cap W (by omega) hz hc (hS.grown hb)
    rw [hl] at h1
    exact h1
  have HSZ1 : Hid ((w.alloc (.cells (ncells holes).toArray 35)).heap.size = w.heap.size + 1) := Lib.hid (by simp)
  generalize hPost : NTakePost l w = Post
  have HQ : Hid (∀ x w', NTakePost l w x w' → Post x w') := Lib.hid fun x w' h => by rw [← hPost]; exact h
  clear hl hz hc hS hT hPost
  go_enter Tryd.func12, Tryd.ntmps12
  go_upto_region 1 with fail
  refine (fun (k : ∀ W, Blk W w.heap.size (ncells holes) 35 → Below w.heap.size w W → W.heap.size = w.heap.size + 1 → Code.wp _ _ _ _ W) => k _ HB.out HW.out HSZ1.out) ?_
  intro W0 hb hw hs
  have HB0 := Lib.hid hb; have HW0 := Lib.hid hw; have HS0 := Lib.hid hs
  clear hb hw hs HB HW HSZ1
  go_wp2_with fail
  refine (HNW.out W0 HW0.out).mono ?_
  rintro e1 W1 ⟨H, rfl, hrd, hH, hb1⟩
  have HRD := Lib.hid hrd; have HH := Lib.hid hH; have HB1 := Lib.hid hb1
  clear hrd hH hb1 HNW
  go_upto_region 4 with fail
  refine (fun (k : ∀ W, TkN l w H W1.heap.size W → RdAt W H (fun g => W0.heap.size ≤ g ∧ g < H) l 0 → Code.wp _ _ _ _ W) => k _ ⟨(HB0.out.below HB1.out (by rw [HS0.out]; omega)).alloc _, Blk.new _ _ _, (HW0.out.trans (HB1.out.mono (by rw [HS0.out]; omega))).alloc (HW0.out.trans (HB1.out.mono (by rw [HS0.out]; omega))).size _, by have := HH.out; have := HS0.out; have := HRD.out.lt; simp; omega⟩ (HRD.out.below ((Below.refl _ _).alloc (Nat.le_refl _) _) (Nat.le_refl _))) ?_
  intro W2 hx hrd2
  have HX := Lib.hid hx; have HRD2 := Lib.hid hrd2
  have HF := Lib.hid (filled_any l H W1.heap.size (K := fun g => W0.heap.size ≤ g ∧ g < H) W2 hx.box (by have := hx.hH; omega) hrd2 (fun g h => Nat.lt_trans h.2 hrd2.lt) (by rw [HL.out]; omega) (HT.out.grown hx.bel) (by have := HT.out.lt; have := hx.hH; omega))
  obtain ⟨G, hG⟩ : ∃ G, W1.heap.size = G := ⟨_, rfl⟩
  rw [hG] at HX HF ⊢
  clear hx hrd2 hG HRD HB1 HB0 HW0
  go_wp2_with fail
  refine HF.out.mono ?_
  rintro e3 W3 ⟨⟨ns, rest, ee, rfl, hn, hrd3, hee, hr⟩, hbf⟩
  have HN := Lib.hid hn; have HRD3 := Lib.hid hrd3; have HE := Lib.hid hee; have HR := Lib.hid hr
  have HX3 : Hid (TkN l w H G W3) := Lib.hid ⟨hbf.blk HX.out.res (by have := HX.out.hH; omega), hbf.blk HX.out.box (by have := HX.out.hH; omega), HX.out.bel.trans (hbf.below (by have := HX.out.hH; omega) HX.out.bel.size), by have := HX.out.hH; have := hbf.size; omega⟩
  clear hn hrd3 hee hr hbf HX HF
  have HST := Lib.hid (size_nc HN.out)
  have HSA : Hid ((ncells ns).toArray.size = 328) := Lib.hid HN.out.size
  have HON := Lib.hid (ncells_one HN.out.ok)
  go_upto_region 5 with (first | (refine wpList_store_row rfl 35 (.tmp 5) (.tmp 14) rfl W3.heap.size (ncells ns).toArray rfl rfl 35 _ (heap_alloc_new W3 _) HST.out (by rw [HSA.out]; rfl) HON.out ?_) | fail)
  refine (fun (k : ∀ W, Blk W W3.heap.size (ncells ns) 35 → Below W3.heap.size W3 W → Code.wp _ _ _ _ W) => k _ (blk_row1 W3 _ (ncells ns) 35).1 (blk_row1 W3 _ (ncells ns) 35).2) ?_
  intro W4 hb4 hw4
  obtain ⟨G5, hG5⟩ : ∃ G, W3.heap.size = G := ⟨_, rfl⟩
  have HX4 : Hid (TkN l w H G W4) := Lib.hid ⟨HX3.out.res.below hw4 HX3.out.res.lt, HX3.out.box.below hw4 HX3.out.box.lt, HX3.out.bel.trans (hw4.mono HX3.out.bel.size), by have := HX3.out.hH; have := hw4.size; omega⟩
  have HRD4 := Lib.hid (HRD3.out.below hw4 (Nat.le_refl _))
  have HG5 : Hid (H < G5) := Lib.hid (by have := HX3.out.hH; omega)
  rw [hG5] at hb4 ⊢
  have HB4 := Lib.hid hb4
  clear hb4 hw4 hG5 HX3 HRD3
  have cG := HX4.out.box.cell (j := 0) rfl
  have HEN := Lib.hid (end_any H rest ee W4 HRD4.out)
  obtain ⟨ne, hne⟩ : ∃ ne, nodeE l = ne := ⟨_, rfl⟩
  have HNE := Lib.hid hne
  rw [endOf_512 HL.out HE.out (fun h => (HR.out h).1), hne] at HEN
  clear hne
  go_wp2_with fail
  refine HEN.out.mono ?_
  rintro e5 W5 ⟨rfl, -, hbf⟩
  have HRS := Lib.hid (hbf.blk HX4.out.res (by have := HX4.out.hH; omega))
  have HNB := Lib.hid (hbf.blk HB4.out (by have := HG5.out; omega))
  have HBE := Lib.hid (HX4.out.bel.trans (hbf.below (by have := HX4.out.hH; omega) HX4.out.bel.size))
  have HSH := Lib.hid (size_nc holes_ok)
  have HOH := Lib.hid (ncells_one holes_ok.ok)
  have HSZ : Hid ((ncells holes).toArray.size = (ncells ns).toArray.size) := Lib.hid (by rw [holes_ok.size, HN.out.size])
  clear hbf cG HX4 HRD4 HB4 HEN
  by_cases h0 : ne = 0
  · have hns : ns = nodeT l := by unfold nodeT; rw [HNE.out, if_pos h0]; have h1 := HNE.out; unfold nodeE at h1; rw [if_pos HL.out, ← HE.out] at h1; exact (HR.out (h1.trans h0)).2
    have HNS := Lib.hid hns
    have h0' : (ne : Int) = 0 := by omega
    subst h0
    clear hns
    go_wp2_with (first | (refine wpL_val rfl (ex_ldN HN.out HNB.out rfl rfl) ?_) | (refine wpList_store_row rfl 35 (.tmp 2) (.tmp 21) rfl w.heap.size (ncells ns).toArray rfl rfl 35 _ HRS.out HST.out HSZ.out HON.out ?_) | fail)
    refine bodyPost_ret (results_ct Tryd.results12 _ _ w.heap.size 35 _ rfl (HRS.out.row _) Tryd.underlying35 (size_ncl HN.out)) rfl (HQ.out _ _ ⟨?_, below_row HBE.out (Nat.le_refl _) _⟩)
    rw [HNE.out, HNS.out]
    rfl
  · have hns : nodeT l = holes := by unfold nodeT; rw [HNE.out, if_neg h0]
    have HNS := Lib.hid hns
    have h0' : ¬ (ne : Int) = 0 := by omega
    clear hns h0
    go_wp2_with (first | (refine wpL_val rfl (ex_bldN rfl) ?_) | (refine wpList_store_row rfl 35 (.tmp 2) (.tmp 19) rfl w.heap.size (ncells holes).toArray rfl rfl 35 _ HRS.out HSH.out rfl HOH.out ?_) | fail)
    refine bodyPost_ret (results_ct Tryd.results12 _ _ w.heap.size 35 _ rfl (HRS.out.row _) Tryd.underlying35 (size_ncl holes_ok)) rfl (HQ.out _ _ ⟨?_, below_row HBE.out (Nat.le_refl _) _⟩)
    rw [HNE.out, HNS.out]
    rfl
theorem nodeTake_any (l : Bs) (sp : Option Addr) (cap : Nat) (w : World) (hz : sp = none → cap = 0) (hc : l.length ≤ cap) (hS : SrcA w sp l) (hT : RTab w) : Calls Tryd.prog 12 #[.slice sp l.length cap] w (NTakePost l w) := by
  by_cases h : l.length = 512
  · have h1 := nodeTake_512 l sp cap w h hz hc hS hT
    rw [h]
    exact h1
  · exact nodeTake_bad l sp cap w h
end Go.Proofs.YtincpdnmaiimnaaDoor
