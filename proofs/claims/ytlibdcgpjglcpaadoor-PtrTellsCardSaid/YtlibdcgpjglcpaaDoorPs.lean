/- The pointer that a block fits: Seal. -/
import Derived.Test.YtlibdcgpjglcpaaDoorPn
import Derived.Test.YtlibdcgpjglcpaaDoorHRsm
namespace Go.Proofs.YtlibdcgpjglcpaaDoor
open Go.RowKit

def sealP (p : Pt) (bs : Bs) : Pt := { p with hash := digest (tagB p ++ bs) }
theorem sealP_ok {p : Pt} (hp : p.OK) (bs : Bs) : (sealP p bs).OK := ⟨hp.kind, hp.level, hp.obj, hp.off, hp.birth, digest_length _, hp.len, hp.ats⟩
theorem one_pc (p : Pt) : (pcells p).toArray.all (·.oneCell') = true := by
  rw [Array.all_eq_true_iff_forall_mem]
  intro v hv
  simp only [pcells, pnums, List.mem_toArray, List.mem_cons, List.mem_append, List.mem_map, List.not_mem_nil, or_false] at hv
  rcases hv with (rfl | rfl | rfl | rfl | rfl) | ⟨x, _, rfl⟩ | ⟨x, _, rfl⟩ <;> rfl
theorem size_pc {p : Pt} (hp : p.OK) : (Tryd.prog.info? 28).map (·.size) = some (pcells p).toArray.size := by rw [sizeP]; simp [pcells_length hp]
theorem pc_hash {p : Pt} (hp : p.OK) (h : Bs) (hh : h.length = 32) : (pcells p).take 5 ++ h.map V8 ++ (pcells p).drop (5 + (h.map V8).length) = pcells { p with hash := h } := by
  have e : pcells p = pnums p ++ (p.hash.map V8 ++ p.ats.map U16) := rfl
  rw [e, List.take_left' (by rfl), show 5 + (h.map V8).length = 5 + 32 by simp [hh], ← List.drop_drop, List.drop_left' (by rfl), List.drop_left' (by simp [hp.hash])]
  simp [pcells, pnums]
/-- While Seal goes: its own pointer, its result, its hash. -/
structure SlW (p : Pt) (w : World) (m : Bs) (W : World) : Prop where
  box : Blk W w.heap.size (pcells p) 28
  res : ∃ z, z.length = 41 ∧ Blk W (w.heap.size + 1) z 28
  h : HashAt W (w.heap.size + 2) m
  tab : Tab W
  bel : Below w.heap.size w W
theorem slw_start {p : Pt} {w : World} (ht : Tab w) (z : Array Value) (hz : z.size = 41) (c : Array Value) (hc : c = (hcells H0 (List.replicate 64 0#8) 0).toArray) :
    SlW p w [] (((w.alloc (.cells (pcells p).toArray 28)).alloc (.cells z 28)).alloc (.cells c 100)) ∧ (((w.alloc (.cells (pcells p).toArray 28)).alloc (.cells z 28)).alloc (.cells c 100)).heap.size = w.heap.size + 3 := by
  subst hc
  refine ⟨⟨((Blk.new _ _ _).alloc _).alloc _, ⟨z.toList, by simpa using hz, (Blk.new' _ _ _ _ _ (by simp) (by simp)).alloc _⟩, ⟨List.replicate 64 0#8, ⟨rfl, rfl⟩, Blk.new' _ _ _ _ _ (by simp) rfl⟩, ((ht.alloc _).alloc _).alloc _, (((Below.refl _ _).alloc (Nat.le_refl _) _).alloc (by simp) _).alloc (by simp; omega) _⟩, by simp⟩
theorem SlW.wrote {p : Pt} {w W W' : World} {m m' : Bs} (h : SlW p w m W) (hh : HashAt W' (w.heap.size + 2) m') (hb : ButFor (w.heap.size + 2) W W') (ht : Tab W') : SlW p w m' W' := by
  obtain ⟨z, hz, hr⟩ := h.res
  exact ⟨hb.blk h.box (by omega), ⟨z, hz, hb.blk hr (by omega)⟩, hh, ht, h.bel.trans (hb.below (by omega) h.bel.size)⟩
theorem SlW.grown {p : Pt} {w W W' : World} {m : Bs} (h : SlW p w m W) (hb : Below W.heap.size W W') : SlW p w m W' := by
  obtain ⟨z, hz, hr⟩ := h.res
  exact ⟨h.box.below hb h.box.lt, ⟨z, hz, hr.below hb hr.lt⟩, h.h.below hb h.h.lt, h.tab.below hb (Nat.le_refl _), h.bel.trans (hb.mono h.bel.size)⟩
theorem OwnB.src' {w : World} {B : Nat} {v : Value} {l : Bs} (h : OwnB w B v l) {H : Nat} (hH : H < B) : ∃ sp cap, v = .slice sp l.length cap ∧ l.length ≤ cap ∧ cap ≤ maxLen ∧ Src w H sp l := by
  obtain ⟨sp, cap, e, h1, h2, h3, _, h5⟩ := OwnB.form h
  refine ⟨sp, cap, e, h1, h2, fun h0 => ?_⟩
  obtain ⟨g, o, rfl, hg, hc⟩ := h3 h0
  have := (h5 _ rfl).1
  exact ⟨g, o, rfl, by simp at this; omega, hg, hc⟩
/-- At the end: the digest is laid into the pointer. -/
theorem slw_end {p : Pt} (hp : p.OK) {w W : World} {m bs : Bs} (h : SlW p w m W) (hm : m = tagB p ++ bs) : Blk (W.setCells w.heap.size 5 ((digest m).map V8)) w.heap.size (pcells (sealP p bs)) 28 ∧ (∃ z, z.length = 41 ∧ Blk (W.setCells w.heap.size 5 ((digest m).map V8)) (w.heap.size + 1) z 28) ∧ Below w.heap.size w (W.setCells w.heap.size 5 ((digest m).map V8)) := by
  subst hm
  obtain ⟨z, hz, hr⟩ := h.res
  have h1 := blk_setCells w.heap.size 28 ((digest (tagB p ++ bs)).map V8) 5 W _ h.box (by simp [digest_length, pcells_length hp])
  rw [pc_hash hp _ (digest_length _)] at h1
  exact ⟨h1, ⟨z, hz, blk_setCells_other (by omega) _ _ _ _ hr⟩, h.bel.trans (((ButFor.refl _ _).sets _ _ _ ).below (Nat.le_refl _) h.bel.size)⟩
set_option maxRecDepth 100000 in
set_option maxHeartbeats 4000000 in
theorem seal_any (p : Pt) (hp : p.OK) (bs : Bs) (sp : Option Addr) (cap : Nat) (w : World) (hl : bs.length ≤ 100000) (hc : bs.length ≤ cap) (hc2 : cap ≤ maxLen) (hS : SrcA w sp bs) (hT : Tab w) :
    Calls Tryd.prog 20 #[.agg (pcells p).toArray, .slice sp bs.length cap] w fun e w' => e = .returned (.agg (pcells (sealP p bs)).toArray) ∧ Below w.heap.size w w' := by
  have HP := Lib.hid hp
  have HS := Lib.hid hS
  have HT := Lib.hid hT
  have HC := Lib.hid hc
  have HC2 := Lib.hid hc2
  have HSP := Lib.hid (size_pc hp)
  have HSP2 := Lib.hid (size_pc (sealP_ok hp bs))
  have HONE := Lib.hid (one_pc (sealP p bs))
  have HLP : Hid ((pcells (sealP p bs)).length = 41) := Lib.hid (pcells_length (sealP_ok hp bs))
  obtain ⟨L, hL⟩ : ∃ L, bs.length = L := ⟨_, rfl⟩
  have HL := Lib.hid hL
  have HLL : Hid (L ≤ 100000) := Lib.hid (by omega)
  rw [hL]
  clear hp hS hT hc hc2 hl hL
  go_enter Tryd.func20, Tryd.ntmps20
  go_wp2_with fail
  refine (shaNew_any _).mono ?_
  rintro e0 W0 ⟨rfl, hw1⟩
  have hN : SlW p w [] W0 ∧ W0.heap.size = w.heap.size + 3 := by rw [hw1]; exact slw_start HT.out _ rfl _ rfl
  clear hw1
  simp only [World.size_alloc]
  have HN := Lib.hid hN.1
  have hs0 := hN.2
  have HBX : Hid (W0.heap[w.heap.size]? = some (.cells (pcells p).toArray 28 (0, 0))) := Lib.hid hN.1.box
  clear hN
  go_wp2_with (first | (refine wpList_load_row rfl 28 (.tmp 2) rfl w.heap.size rfl 28 _ _ _ HBX.out Tryd.underlying28 rfl HSP.out ?_) | fail)
  refine (tag_any p HP.out _).mono ?_
  rintro e1 W1 ⟨v1, rfl, ho1, hb1⟩
  obtain ⟨sp1, cap1, rfl, q1, q2, q3⟩ := OwnB.src' ho1 (H := w.heap.size + 2) (by omega)
  have HN1 := Lib.hid (HN.out.grown hb1)
  have HQ3 := Lib.hid q3
  have hc1 := write_any (w.heap.size + 2) [] (tagB p) sp1 cap1 W1 (by simp [tagB_length]) q1 (by unfold maxLen at q2; omega) HN1.out.h HQ3.out HN1.out.tab (by have := HT.out.lt; omega)
  have HC1 := Lib.hid hc1
  clear ho1 hb1 q1 q2 q3 hc1 HN HBX
  go_wp2_with fail
  refine HC1.out.mono ?_
  rintro e2 W2 ⟨rfl, hh2, hbf2, ht2⟩
  rw [List.nil_append] at hh2
  have HN2 := Lib.hid (HN1.out.wrote hh2 hbf2 ht2)
  clear hh2 hbf2 ht2 HC1
  have hc2 := write_any (w.heap.size + 2) (tagB p) bs sp cap W2 (by have := HLL.out; have := HL.out; simp [tagB_length]; omega) HC.out (by have := HC2.out; unfold maxLen at this; omega) HN2.out.h (fun h0 => by
    obtain ⟨g, o, e, h1, h2⟩ := HS.out h0
    exact ⟨g, o, e, by omega, Nat.lt_of_lt_of_le h1 HN2.out.bel.size, fun j hj => (HN2.out.bel.cell (p := ⟨g, o + j, none⟩) h1).trans (h2 j hj)⟩) HN2.out.tab (by have := HT.out.lt; omega)
  rw [HL.out] at hc2
  have HC2' := Lib.hid hc2
  clear hc2 HN1
  go_wp2_with fail
  refine HC2'.out.mono ?_
  rintro e3 W3 ⟨rfl, hh3, hbf3, ht3⟩
  have HN3 := Lib.hid (HN2.out.wrote hh3 hbf3 ht3)
  clear hh3 hbf3 ht3 HC2' HN2
  go_wp2_with fail
  refine (hashSum_any (w.heap.size + 2) _ W3 (by have := HLL.out; have := HL.out; simp [tagB_length]; omega) HN3.out.h HN3.out.tab).mono ?_
  rintro e4 W4 ⟨rfl, hb4⟩
  have hN4 := HN3.out.grown hb4
  have hE := slw_end HP.out hN4 (bs := bs) rfl
  have HTH : Hid (W4.there w.heap.size 5 ((digest (tagB p ++ bs)).map V8).toArray.size) := Lib.hid (hN4.box.there 5 _ (by simp [digest_length, pcells_length HP.out]))
  have HE := Lib.hid hE
  have HSD := Lib.hid (size24d (tagB p ++ bs))
  obtain ⟨z, hz, hr⟩ := hE.2.1
  have HR := Lib.hid hr
  have HZ : Hid (z.toArray.size = (pcells (sealP p bs)).toArray.size) := Lib.hid (by rw [List.size_toArray, List.size_toArray, HLP.out, hz])
  clear hb4 HN3 hN4 hE hz hr
  obtain ⟨W5, hW5⟩ : ∃ W5, W4.setCells w.heap.size 5 ((digest (tagB p ++ bs)).map V8) = W5 := ⟨_, rfl⟩
  rw [hW5] at HE HR
  have HW5 : Hid (W4.setCells w.heap.size 5 ((digest (tagB p ++ bs)).map V8).toArray.toList = W5) := Lib.hid hW5
  clear hW5
  have HBX : Hid (W5.heap[w.heap.size]? = some (.cells (pcells (sealP p bs)).toArray 28 (0, 0))) := Lib.hid HE.out.1
  go_wp2_with (first | (refine wpList_store_mid rfl 25 (.tmp 16) (.tmp 15) rfl w.heap.size 5 _ rfl rfl HTH.out HSD.out (one_ints V8 (fun _ => rfl) _) ?_; rw [HW5.out]) | (refine wpList_load_row rfl 28 (.tmp 2) rfl w.heap.size rfl 28 _ _ _ HBX.out Tryd.underlying28 rfl HSP2.out ?_) | (refine wpList_store_row rfl 28 (.tmp 4) (.tmp 17) rfl (w.heap.size + 1) _ rfl rfl 28 _ HR.out HSP2.out HZ.out HONE.out ?_) | fail)
  exact bodyPost_ret (results_cell_row Tryd.results20 _ _ (w.heap.size + 1) 28 _ _ _ rfl (HR.out.row _) Tryd.underlying28 rfl HSP2.out) rfl ⟨rfl, below_row HE.out.2.2 (by omega) _⟩
end Go.Proofs.YtlibdcgpjglcpaaDoor
