/- The tree's Set. -/
import Derived.Test.YtfcjeceoedfldaaDoorM26
import Derived.Test.YtfcjeceoedfldaaDoorM12
import Derived.Test.YtfcjeceoedfldaaDoorM05
import Derived.Deep.DeepCutAuto
import Derived.Test.YtfcjeceoedfldaaDoorM13
import Derived.RegionTactic
import Derived.Test.YtfcjeceoedfldaaDoorM23
import Derived.Test.YtfcjeceoedfldaaDoorM03
import Derived.Test.YtfcjeceoedfldaaDoorM07
namespace Go.Proofs.YtfcjeceoedfldaaDoor
open Go.RowKit

attribute [local go_sem] Oper.semAt_some

def setR (s : Sh) (p : Pt) (obj : Nat) (l : List Lf) : Ww := if refE p ≠ 0 then ⟨zeroP, refE p, s⟩ else if setOk l = false then ⟨zeroP, 1, s⟩ else withP obj 2 s p l
def SetPost (L : Nat → Nat) (w : World) (D : Nat) (r : Ww) (m : Nat) (e : Ending) (w' : World) : Prop :=
  e = .returned (.tuple #[.agg (pcells r.p).toArray, .int .i64 (r.e : Int)]) ∧ ShPost 5 L w D r.s w' ∧ Lim m r.s ∧ r.p.OK
/-- What stands in Set. -/
structure SeS (L : Nat → Nat) (w : World) (D : Nat) (p : Pt) (l : List Lf) (sp : Option Addr) (G : Nat) (s : Sh) (X : World) : Prop where
  sh : ∃ L1 v1, ShAt X L1 D s v1 ∧ Mv 5 L w L1 X ∧ (L1 G = 0 ∧ L1 (G + 1) = 0) ∧ ∀ a, sp = some a → a.block < X.heap.size ∧ (L1 a.block = 0 ∨ L1 a.block = 10)
  p : Blk X G (pcells p) 37
  res : Blk X (G + 1) (pcells zeroP) 37
  src : SrcF X sp l
  lo : w.heap.size ≤ G
theorem SeS.below {L : Nat → Nat} {w : World} {D : Nat} {p : Pt} {l : List Lf} {sp : Option Addr} {G : Nat} {s : Sh} {X Y : World} (h : SeS L w D p l sp G s X) (hb : Below X.heap.size X Y) : SeS L w D p l sp G s Y := by
  obtain ⟨⟨L1, v1, h1, h2, h3, h4⟩, k2, k3, k4, k5⟩ := h
  exact ⟨⟨L1, v1, h1.below hb, h2.trans (Mv.of_below hb h1.lt), h3, fun a ha => ⟨Nat.lt_of_lt_of_le (h4 a ha).1 hb.size, (h4 a ha).2⟩⟩, k2.below hb k2.lt, k3.below hb k3.lt, k4.grown hb, k5⟩
theorem SeS.moved {L L1 : Nat → Nat} {w : World} {D : Nat} {p : Pt} {l : List Lf} {sp : Option Addr} {G : Nat} {s s' : Sh} {X Y : World} (h : SeS L w D p l sp G s X) (hm : Mv 5 L w L1 X) (hl : L1 G = 0 ∧ L1 (G + 1) = 0) (ha : ∀ a, sp = some a → a.block < X.heap.size ∧ (L1 a.block = 0 ∨ L1 a.block = 10)) (hp : ShPost 5 L1 X D s' Y) : SeS L w D p l sp G s' Y := by
  obtain ⟨L2, v2, k1, k2⟩ := hp
  exact ⟨⟨L2, v2, k1, hm.trans k2, ⟨(k2.old _ h.p.lt).trans hl.1, (k2.old _ h.res.lt).trans hl.2⟩, fun a ha' => ⟨Nat.lt_of_lt_of_le (ha a ha').1 k2.size, by rw [k2.old _ (ha a ha').1]; exact (ha a ha').2⟩⟩, k2.blk h.p hl.1, k2.blk h.res hl.2, h.src.chg k2.chg (fun a ha' hf => by have := (ha a ha').2; unfold Foot at hf; omega), h.lo⟩
theorem SeS.ends {L : Nat → Nat} {w : World} {D : Nat} {p : Pt} {l : List Lf} {sp : Option Addr} {G : Nat} {s : Sh} {X : World} (h : SeS L w D p l sp G s X) (q : Pt) : ShPost 5 L w D s (X.setRow (G + 1) (pcells q).toArray) ∧ Blk (X.setRow (G + 1) (pcells q).toArray) (G + 1) (pcells q) 37 := by
  obtain ⟨⟨L1, v1, h1, h2, h3, h4⟩, k2, k3, k4, k5⟩ := h
  have hc := chgR X (G + 1) (pcells q).toArray
  have hz : (X.setRow (G + 1) (pcells q).toArray).heap.size = X.heap.size := by simp
  refine ⟨⟨L1, v1, h1.out hc (fun g e _ => .inl (by rw [e]; exact h3.2)) (fun _ _ => .inl rfl) (fun g hg => by rw [hz]; exact h1.lt g hg), ?_⟩, k3.row _⟩
  exact ⟨h2.chg.trans hc (fun g e => by right; have : g = G + 1 := e; omega), h2.old, h2.new⟩
set_option maxRecDepth 100000 in
set_option maxHeartbeats 8000000 in
theorem trSet_any {w : World} {L : Nat → Nat} {D obj : Nat} {s : Sh} {v : Sv} {m : Nat} (p : Pt) (hp : p.OK) (hobj : obj < 65536) (l : List Lf) (hok : ∀ x ∈ l, Lf.OK x) (sp : Option Addr) (cap : Nat) (hc : l.length ≤ cap) (hl : l.length ≤ 64) (hS : SrcF w sp l) (hsp : ∀ a, sp = some a → a.block < w.heap.size ∧ (L a.block = 0 ∨ L a.block = 10)) (h : ShAt w L D s v) (hk : Lim m s) (hm : m + 715 < 1000000) :
    Calls Tryd.prog 8 #[shI D, .agg (pcells p).toArray, .int .u16 (obj : Int), .slice sp l.length cap] w (SetPost L w D (setR s p obj l) (m + 715)) := by
  have HPO := Lib.hid hp
  have HX : Hid (∀ z, z = (pcells zeroP).toArray → SeS L w D p l sp w.heap.size s ((w.alloc (.cells (pcells p).toArray 37)).alloc (.cells z 37))) := Lib.hid (fun z hz => by
    subst hz
    have hw1 : Below w.heap.size w ((w.alloc (.cells (pcells p).toArray 37)).alloc (.cells (pcells zeroP).toArray 37)) := ((Below.refl _ _).alloc (Nat.le_refl _) _).alloc (by simp) _
    exact ⟨⟨L, v, h.below hw1, Mv.of_below hw1 h.lt, ⟨h.not (Nat.le_refl _), h.not (by omega)⟩, fun a ha => ⟨Nat.lt_of_lt_of_le (hsp a ha).1 hw1.size, (hsp a ha).2⟩⟩, (Blk.new _ _ _).alloc _, Blk.new' _ _ _ _ _ (by simp) rfl, hS.grown hw1, Nat.le_refl _⟩)
  have HOK := Lib.hid hok; have HOB := Lib.hid hobj; have HK := Lib.hid hk; have HM := Lib.hid hm; have HC := Lib.hid hc; have HL := Lib.hid hl
  obtain ⟨r, hr⟩ : ∃ r, setR s p obj l = r := ⟨_, rfl⟩
  have HR : Hid (r = if refE p ≠ 0 then ⟨zeroP, refE p, s⟩ else if setOk l = false then ⟨zeroP, 1, s⟩ else withP obj 2 s p l) := Lib.hid hr.symm
  rw [hr]
  generalize hPost : SetPost L w D r (m + 715) = Post
  have HP : Hid (∀ w', ShPost 5 L w D r.s w' → Lim (m + 715) r.s → r.p.OK → Post (.returned (.tuple #[.agg (pcells r.p).toArray, .int .i64 (r.e : Int)])) w') := Lib.hid fun w' h2 h3 h4 => by rw [← hPost]; exact ⟨rfl, h2, h3, h4⟩
  have HSZ0 := Lib.hid (size_pc zeroP_ok)
  obtain ⟨N, hN⟩ : ∃ N, l.length = N := ⟨_, rfl⟩
  have HN := Lib.hid hN
  rw [hN]
  clear hp hobj hok hc hl hS hsp h hk hm hr hPost hN
  unfold shI
  go_enter Tryd.func8, Tryd.ntmps8
  go_upto_region 1 with fail
  refine (fun (k : ∀ W, SeS L w D p l sp w.heap.size s W → Code.wp _ _ _ _ W) => k _ (HX.out _ rfl)) ?_
  intro W hW
  obtain ⟨G, hG⟩ : ∃ g, w.heap.size = g := ⟨_, rfl⟩
  rw [hG] at hW ⊢
  have HX1 := Lib.hid hW
  clear hW HX hG
  obtain ⟨⟨L1, v1, h1, -⟩, -⟩ := HX1.out
  have HRF := Lib.hid (trRefuse_any p HPO.out D W h1.tab.1)
  clear h1
  go_wp2_with (first | (refine wpL_val rfl (ex_ldP HPO.out HX1.out.p rfl rfl) ?_) | fail)
  refine HRF.out.mono ?_
  rintro e W2 ⟨rfl, hb2⟩
  have HX2 := Lib.hid (HX1.out.below hb2)
  have HRB := Lib.hid HX2.out.res
  clear hb2 HX1 HRF
  obtain ⟨re, hre⟩ : ∃ re, refE p = re := ⟨_, rfl⟩
  rw [hre] at HR ⊢
  clear hre
  by_cases h0 : re = 0
  · subst h0
    obtain ⟨⟨L2, v2, k1, k2, k3, k4⟩, -⟩ := HX2.out
    have hst := settable_any l HOK.out sp cap HC.out (by have := HL.out; omega) W2 HX2.out.src k1.tab.1
    rw [HN.out] at hst
    have HST := Lib.hid hst
    clear k1 k2 k3 k4 hst
    rw [show ((0 : Nat) : Int) = (0 : Int) from rfl]
    go_wp2_with fail
    refine HST.out.mono ?_
    rintro e W3 ⟨rfl, hb3⟩
    have HX3 := Lib.hid (HX2.out.below hb3)
    have HRB3 := Lib.hid HX3.out.res
    clear hb3 HX2 HST HRB
    cases hso : setOk l
    · obtain rfl : r = ⟨zeroP, 1, s⟩ := by rw [HR.out, if_neg (by simp), if_pos hso]
      have HBE := Lib.hid (HX3.out.ends zeroP)
      have HE := Lib.hid (HP.out _ HBE.out.1 (HK.out.mono (by omega) HM.out) zeroP_ok)
      clear HP HR hso
      go_wp2_with (first | (refine wpL_val rfl (ex_bld0 rfl) ?_) | (refine wpList_store_row rfl 37 (.tmp 8) (.tmp 21) rfl (G + 1) (pcells zeroP).toArray rfl rfl 37 _ HRB3.out HSZ0.out rfl (one_pc zeroP) ?_) | fail)
      refine bodyPost_ret (results_cs Tryd.results8 _ _ (G + 1) 37 _ rfl HBE.out.2 (size_pcl zeroP_ok)) rfl ?_
      exact HE.out
    · obtain rfl : withP obj 2 s p l = r := by rw [HR.out, if_neg (by simp), if_neg (by rw [hso]; decide)]
      obtain ⟨⟨L3, v3, k1, k2, k3, k4⟩, -⟩ := HX3.out
      have hwi := with_any 2 (Nat.le_refl _) p HPO.out HOB.out l HOK.out sp cap HC.out HL.out HX3.out.src k4 k1 HK.out (by have := HM.out; show m + 715 < _; omega)
      have HMV : Hid (∀ s' Y, ShPost 5 L3 W3 D s' Y → SeS L w D p l sp G s' Y) := Lib.hid (fun s' Y hY => HX3.out.moved k2 k3 k4 hY)
      obtain ⟨rw_, hrw⟩ : ∃ x, withP obj 2 s p l = x := ⟨_, rfl⟩
      rw [hrw, HN.out] at hwi
      rw [hrw] at HP
      have HWI := Lib.hid hwi
      clear k1 k2 k3 k4 hwi hrw HR hso
      go_wp2_with (first | (refine wpL_val rfl (ex_ldP HPO.out HX3.out.p rfl rfl) ?_) | fail)
      refine HWI.out.mono ?_
      rintro e W4 ⟨rfl, hp4, hl4, ho4⟩
      have HX4 := Lib.hid (HMV.out _ W4 hp4)
      have HL4 := Lib.hid hl4; have HO4 := Lib.hid ho4
      have HBE := Lib.hid (HX4.out.ends rw_.p)
      have HE := Lib.hid (HP.out _ HBE.out.1 hl4 ho4)
      have HRB4 := Lib.hid HX4.out.res
      have HSR := Lib.hid (size_pc ho4)
      have HZR : Hid ((pcells zeroP).toArray.size = (pcells rw_.p).toArray.size) := Lib.hid (by rw [List.size_toArray, List.size_toArray, pcells_length ho4, pcells_length zeroP_ok])
      clear hp4 hl4 ho4 HP HMV HX3 HRB3 HWI
      go_wp2_with (first | (refine wpList_store_row rfl 37 (.tmp 8) (.tmp 28) rfl (G + 1) (pcells rw_.p).toArray rfl rfl 37 _ HRB4.out HSR.out HZR.out (one_pc rw_.p) ?_) | fail)
      refine bodyPost_ret (results_cs Tryd.results8 _ _ (G + 1) 37 _ rfl HBE.out.2 (size_pcl HO4.out)) rfl ?_
      exact HE.out
  · have hre' : ¬ (re : Int) = 0 := by omega
    obtain rfl : r = ⟨zeroP, re, s⟩ := by rw [HR.out, if_pos h0]
    have HBE := Lib.hid (HX2.out.ends zeroP)
    have HE := Lib.hid (HP.out _ HBE.out.1 (HK.out.mono (by omega) HM.out) zeroP_ok)
    clear HP HR h0
    go_wp2_with (first | (refine wpL_val rfl (ex_bld0 rfl) ?_) | (refine wpList_store_row rfl 37 (.tmp 8) (.tmp 16) rfl (G + 1) (pcells zeroP).toArray rfl rfl 37 _ HRB.out HSZ0.out rfl (one_pc zeroP) ?_) | fail)
    refine bodyPost_ret (results_cs Tryd.results8 _ _ (G + 1) 37 _ rfl HBE.out.2 (size_pcl zeroP_ok)) rfl ?_
    exact HE.out
end Go.Proofs.YtfcjeceoedfldaaDoor
/- Laws: a frame of boxes beside a shelf; a new shelf; leaf. -/

namespace Go.Proofs.YtfcjeceoedfldaaDoor
open Go.RowKit

attribute [local go_sem] Oper.semAt_some

abbrev Bxs := List (Nat × List Value × TypeId)
/-- A shelf, and boxes of the law's own. -/
structure Fr (w : World) (D : Nat) (s : Sh) (bs : Bxs) (X : World) : Prop where
  sh : ∃ L1 v1, ShAt X L1 D s v1 ∧ Lo L1 ∧ (∀ b ∈ bs, L1 b.1 = 0) ∧ ∀ g, g < w.heap.size → L1 g = 0 ∨ L1 g = 10
  bx : ∀ b ∈ bs, Blk X b.1 b.2.1 b.2.2
  bel : Below w.heap.size w X
theorem Fr.below {w : World} {D : Nat} {s : Sh} {bs : Bxs} {X Y : World} (h : Fr w D s bs X) (hb : Below X.heap.size X Y) : Fr w D s bs Y := by
  obtain ⟨⟨L1, v1, h1, h2, h3, h4⟩, k, hl⟩ := h
  exact ⟨⟨L1, v1, h1.below hb, h2, h3, h4⟩, fun b hb' => (k b hb').below hb (k b hb').lt, hl.trans (hb.mono hl.size)⟩
theorem Fr.drew {w : World} {D : Nat} {s : Sh} {bs : Bxs} {X : World} (h : Fr w D s bs X) : Fr w D s bs X.drew := h.below (Below.refl _ _).drew
/-- A call with the shelf. -/
theorem Fr.call {w : World} {D : Nat} {s : Sh} {bs : Bxs} {X : World} (h : Fr w D s bs X) : ∃ L1 v1, ShAt X L1 D s v1 ∧ Lo L1 ∧ (∀ g, g < w.heap.size → L1 g = 0 ∨ L1 g = 10) ∧ (∀ b ∈ bs, L1 b.1 = 0) ∧ ∀ s' Y, ShPost 5 L1 X D s' Y → Fr w D s' bs Y := by
  obtain ⟨⟨L1, v1, h1, h2, h3, h4⟩, k, hl⟩ := h
  refine ⟨L1, v1, h1, h2, h4, h3, fun s' Y ⟨L2, v2, j1, j2⟩ => ⟨⟨L2, v2, j1, h2.mv j2, fun b hb => (j2.old _ (k b hb).lt).trans (h3 b hb), fun g hg => by rw [j2.old g (Nat.lt_of_lt_of_le hg hl.size)]; exact h4 g hg⟩, fun b hb => j2.blk (k b hb) (h3 b hb), ?_⟩⟩
  refine ⟨j2.chg.os.trans hl.os, j2.chg.tape.trans hl.tape, j2.chg.output.trans hl.output, Nat.le_trans hl.size j2.chg.size, fun g hg => ?_⟩
  rw [j2.chg.block g (Nat.lt_of_lt_of_le hg hl.size) (fun hf => by have := h4 g hg; unfold Foot at hf; omega)]
  exact hl.block g hg
/-- One box more. -/
theorem Fr.add {w : World} {D : Nat} {s : Sh} {bs : Bxs} {X Y : World} (h : Fr w D s bs X) (hb : Below X.heap.size X Y) {g : Nat} {cs : List Value} {t : TypeId} (hg : X.heap.size ≤ g) (hn : Blk Y g cs t) : Fr w D s ((g, cs, t) :: bs) Y := by
  have h' := h.below hb
  obtain ⟨⟨L1, v1, h1, h2, h3, h4⟩, k, hl⟩ := h
  obtain ⟨-, k', hl'⟩ := h'
  refine ⟨⟨L1, v1, h1.below hb, h2, fun b hb' => ?_, h4⟩, fun b hb' => ?_, hl'⟩
  · rcases List.mem_cons.1 hb' with rfl | hb'
    · exact h1.not hg
    · exact h3 b hb'
  · rcases List.mem_cons.1 hb' with rfl | hb'
    · exact hn
    · exact k' b hb'
theorem Fr.at {w : World} {D : Nat} {s : Sh} {bs : Bxs} {X : World} (h : Fr w D s bs X) {g : Nat} {cs : List Value} {t : TypeId} (hm : (g, cs, t) ∈ bs) : Blk X g cs t := h.bx _ hm
theorem Fr.tab {w : World} {D : Nat} {s : Sh} {bs : Bxs} {X : World} (h : Fr w D s bs X) : RTab X := by
  obtain ⟨⟨L1, v1, h1, _⟩, _⟩ := h
  exact h1.tab.1
def sh0 : Sh := ⟨[], [], [], [], -1, []⟩
def v0 : Sv := ⟨.slice none 0 0, .slice none 0 0, .slice none 0 0, .slice none 0 0, .slice none 0 0⟩
theorem fr_new (w : World) (hT : RTab w) : Fr w w.heap.size sh0 [] (w.alloc (.cells (scells v0 (-1)).toArray 30)) := by
  have hb : Below w.heap.size w (w.alloc (.cells (scells v0 (-1)).toArray 30)) := (Below.refl _ _).alloc (Nat.le_refl _) _
  have hgt := hT.lt
  have none0 : ∀ {j : Nat} {L : Nat → Nat}, OwnM (w.alloc (.cells (scells v0 (-1)).toArray 30)) 0 (.slice none 0 0) [] ∧ ∀ g, (Value.slice none 0 0).ownBlock = some g → L g = j := ⟨World.ownsRow_nil _ _ _ _, fun g hg => by cases hg⟩
  refine ⟨⟨fun g => if g = w.heap.size then 1 else if g = 0 then 10 else 0, v0, ⟨Blk.new _ _ _, if_pos rfl, ⟨[], World.ownsRow_nil _ _ _ _, (fun g hg => by cases hg), rfl, fun i u b h => by simp at h, fun u h => by simp at h⟩, ⟨none, 0, rfl, Nat.le_refl _, fun _ => rfl, fun h => by simp [sh0] at h⟩, none0, none0, none0, fun g hg => ?_, fun q h => by simp [sh0] at h, fun q h => by simp [sh0] at h, fun q h => by simp [sh0] at h, hT.alloc _, ?_⟩, fun g => ?_, fun b hb => by simp at hb, fun g hg => ?_⟩, fun b hb => by simp at hb, hb⟩
  · by_cases e : g = w.heap.size
    · subst e; simp
    · rw [if_neg e] at hg
      by_cases e2 : g = 0
      · have := hT.lt; simp; omega
      · rw [if_neg e2] at hg; exact absurd rfl hg
  · rw [if_neg (by omega), if_pos rfl]
  · show (if g = w.heap.size then 1 else if g = 0 then 10 else 0) ≤ 5 ∨ (if g = w.heap.size then 1 else if g = 0 then 10 else 0) = 10
    by_cases e : g = w.heap.size
    · left; rw [if_pos e]; omega
    · rw [if_neg e]
      by_cases e2 : g = 0
      · right; rw [if_pos e2]
      · left; rw [if_neg e2]; omega
  · have hne : ¬ g = w.heap.size := by omega
    show (if g = w.heap.size then 1 else if g = 0 then 10 else 0) = 0 ∨ (if g = w.heap.size then 1 else if g = 0 then 10 else 0) = 10
    rw [if_neg hne]
    by_cases e2 : g = 0
    · right; rw [if_pos e2]
    · left; rw [if_neg e2]
def leafP (n off : Nat) : Pt := ⟨1, 0, 9, off, n, List.replicate 32 0#8, [0, 0, 7, 0]⟩
theorem leafP_ok {n off : Nat} (h1 : n < 18446744073709551616) (h2 : off < 4294967296) : (leafP n off).OK :=
  ⟨by simp [leafP], by simp [leafP], by simp [leafP], h2, h1, by simp [leafP], by simp [leafP], fun x hx => by simp [leafP] at hx; rcases hx with rfl | rfl | rfl | rfl <;> omega⟩
theorem built_leaf (n off : Nat) : Tryd.prog.built 37 [(0, .int .u8 1), (2, .int .u16 9), (3, .int .u32 (off : Int)), (4, .int .u64 (n : Int)), (6, .agg #[.int .u16 0, .int .u16 0, .int .u16 7, .int .u16 0])] = some (pcells (leafP n off)).toArray := by kernel_rfl
theorem ex_bldLf {ρ : Operand → Value} {o : Oper} {a b x y z : Operand} {w : World} {n off : Nat} (ho : o.op = .build 37 #[(0, a), (2, b), (3, x), (4, y), (6, z)]) (ha : ρ a = .int .u8 1) (hb : ρ b = .int .u16 9) (hx : ρ x = .int .u32 (off : Int)) (hy : ρ y = .int .u64 (n : Int)) (hz : ρ z = .agg #[.int .u16 0, .int .u16 0, .int .u16 7, .int .u16 0]) :
    (execOp ρ o).run Tryd.prog w = .ok (.value (.agg (pcells (leafP n off)).toArray)) w := by
  have hr : (Instr.build 37 #[(0, .int .u8 1), (2, .int .u16 9), (3, .int .u32 (off : Int)), (4, .int .u64 (n : Int)), (6, .agg #[.int .u16 0, .int .u16 0, .int .u16 7, .int .u16 0])]).run Tryd.prog w = .ok (.agg (pcells (leafP n off)).toArray) w := run_build w 37 _ _ (built_leaf n off)
  unfold execOp
  simp only [ho]
  rw [show (Array.map (fun x : Nat × Operand => (x.1, ρ x.2)) #[(0, a), (2, b), (3, x), (4, y), (6, z)]) = #[(0, .int .u8 1), (2, .int .u16 9), (3, .int .u32 (off : Int)), (4, .int .u64 (n : Int)), (6, .agg #[.int .u16 0, .int .u16 0, .int .u16 7, .int .u16 0])] by simp [ha, hb, hx, hy, hz]]
  simp only [Sem.run_bind, hr, Result.andThen_ok, Sem.run_pure]
set_option maxRecDepth 100000 in
theorem leaf_any (n off : Nat) (hn : n < 18446744073709551616) (hoff : off < 4294967296) (w : World) : Calls Tryd.prog 14 #[.int .u64 (n : Int), .int .u32 (off : Int)] w fun e w' => e = .returned (.agg (pcells (leafP n off)).toArray) ∧ Below w.heap.size w w' := by
  have HOK := Lib.hid (leafP_ok hn hoff)
  have HSZ := Lib.hid (size_pc HOK.out)
  have HX : Hid (∀ z, z = (pcells zeroP).toArray → Below w.heap.size w (w.alloc (.cells z 37)) ∧ Blk (w.alloc (.cells z 37)) w.heap.size (pcells zeroP) 37) := Lib.hid (fun z hz => by
    obtain ⟨h1, h2, _⟩ := box_new w z 37 _ hz
    exact ⟨h1, h2⟩)
  clear hn hoff
  go_enter Tryd.func14, Tryd.ntmps14
  go_upto_region 1 with fail
  refine (fun (k : ∀ W, (Below w.heap.size w W ∧ Blk W w.heap.size (pcells zeroP) 37) → Code.wp _ _ _ _ W) => k _ (HX.out _ rfl)) ?_
  rintro W ⟨hb, hr⟩
  have HB := Lib.hid hb; have HR := Lib.hid hr
  have HZ : Hid ((pcells zeroP).toArray.size = (pcells (leafP n off)).toArray.size) := Lib.hid (by rw [List.size_toArray, List.size_toArray, pcells_length HOK.out, pcells_length zeroP_ok])
  clear hb hr HX
  go_wp2_with (first | (refine wpL_val rfl (ex_bldLf (n := n) (off := off) rfl rfl rfl rfl rfl rfl) ?_) | (refine wpList_store_row rfl 37 (.tmp 4) (.tmp 8) rfl w.heap.size (pcells (leafP n off)).toArray rfl rfl 37 _ HR.out HSZ.out HZ.out (one_pc _) ?_) | fail)
  exact bodyPost_ret (results_cell_row Tryd.results14 _ _ w.heap.size 37 _ _ _ rfl (HR.out.row _) Tryd.underlying37 rfl HSZ.out) rfl ⟨rfl, below_row HB.out (Nat.le_refl _) _⟩
end Go.Proofs.YtfcjeceoedfldaaDoor
/- The pointer of 64 bytes, of more. -/
namespace Go.Proofs.YtfcjeceoedfldaaDoor
open Go.RowKit

theorem pt_take (l : Bs) : pt (l.take 64) = pt l := by
  have h : ∀ n m, n + m ≤ 64 → ((l.take 64).drop n).take m = (l.drop n).take m := fun n m hnm => by
    rw [List.drop_take, List.take_take, Nat.min_eq_left (by omega)]
  unfold pt
  rw [h 1 1 (by omega), h 2 2 (by omega), h 4 4 (by omega), h 8 8 (by omega), h 16 32 (by omega), h 48 2 (by omega), h 50 2 (by omega), h 52 2 (by omega), h 54 2 (by omega), List.take_take, Nat.min_eq_left (by omega)]
end Go.Proofs.YtfcjeceoedfldaaDoor
/- Whether a pointer may be, as the document says it. -/
namespace Go.Proofs.YtfcjeceoedfldaaDoor
open Go.RowKit

end Go.Proofs.YtfcjeceoedfldaaDoor
/- Nodes, plain: what is put is taken, what is taken is put; the errors; good. -/
namespace Go.Proofs.YtfcjeceoedfldaaDoor
open Go.RowKit

theorem takeE_fine {l : Bs} (h : 64 ≤ l.length) : takeE l 0 = if quietP (l.take 64) && fineP (pt l) then 0 else 5 := by
  unfold takeE fineP
  rw [if_neg (by omega), if_neg (by omega)]
theorem piece_at : ∀ {ns : List Pt}, (∀ p ∈ ns, p.OK) → ∀ {j : Nat} {p : Pt}, ns[j]? = some p → ((nodeB ns).drop (64 * j)).take 64 = padB p
  | [], _, j, p, h => by simp at h
  | q :: ns, hok, j, p, h => by
    have hq := padB_length (hok q (by simp))
    have e : nodeB (q :: ns) = padB q ++ nodeB ns := by simp [nodeB]
    match j, h with
    | 0, h =>
      simp only [List.getElem?_cons_zero, Option.some.injEq] at h
      subst h
      rw [e, Nat.mul_zero, List.drop_zero, List.take_left' hq]
    | j + 1, h =>
      simp only [List.getElem?_cons_succ] at h
      rw [e, show 64 * (j + 1) = 64 + 64 * j by omega, ← List.drop_drop, List.drop_left' hq]
      exact piece_at (ns := ns) (fun p hp => hok p (by simp [hp])) h
/-- What is put is taken. -/
theorem put_back {ns : List Pt} (h : NOK ns) (hp : putOk ns = true) : nodeE (nodeB ns) = 0 ∧ nodeT (nodeB ns) = ns := by
  have hl : (nodeB ns).length = 512 := by rw [nodeB_length h.ok, h.len]
  have hpt : ∀ {j p}, ns[j]? = some p → pt ((nodeB ns).drop (64 * j)) = p := fun {j p} hj => by
    rw [← pt_take, piece_at h.ok hj]
    exact (pt_padB (h.at hj)).1
  have hs : ∀ k, k ≤ 8 → stE (nodeB ns) k = 0 := by
    intro k
    induction k with
    | zero => intro _; rfl
    | succ k ih =>
      intro hk
      obtain ⟨p, hp'⟩ := h.get (show k < 8 by omega)
      show takeE _ _ = 0
      rw [ih (by omega), takeE_fine (by rw [List.length_drop, hl]; omega), hpt hp', piece_at h.ok hp', (pt_padB (h.at hp')).2, List.all_eq_true.1 hp p (List.mem_of_getElem? hp')]
      rfl
  have h0 : nodeE (nodeB ns) = 0 := by unfold nodeE; rw [if_pos hl]; exact hs 8 (Nat.le_refl _)
  refine ⟨h0, ?_⟩
  unfold nodeT
  rw [if_pos h0]
  apply List.ext_getElem?
  intro j
  by_cases hj : j < 8
  · obtain ⟨p, hp'⟩ := h.get hj
    rw [hp']
    simp [nodeP, hj, hpt hp']
  · rw [List.getElem?_eq_none (by simp [nodeP]; omega), List.getElem?_eq_none (by rw [h.len]; omega)]
end Go.Proofs.YtfcjeceoedfldaaDoor
/- The known tree, plain. -/
namespace Go.Proofs.YtfcjeceoedfldaaDoor
open Go.RowKit

/-- A pointer whose block is a node's. -/
theorem rn_of {s : Sh} {q : Pt} {ns : List Pt} (hz : eqP q zeroP = false) (hb : s.bad.any (fun x => x == at0 q) = false) {k : Nat} (hk : at0 q = k + 1) (hg : s.blocks[k]? = some (nodeB ns)) (hn : NOK ns) (hp : putOk ns = true) : rnE s q = 0 ∧ rnN s q = ns ∧ rnS s q = rdS s q := by
  have hlt := (List.getElem?_eq_some_iff.1 hg).1
  have hE : rdE s q = 0 := by unfold rdE; rw [if_neg (by rw [hb]; decide), if_neg (by omega)]
  have hB : rdB s q = nodeB ns := by
    unfold rdB
    rw [if_neg (by rw [hb]; decide), if_neg (by omega), hk, Nat.add_sub_cancel, List.getD_eq_getElem?_getD, hg]
    rfl
  obtain ⟨e1, e2⟩ := put_back hn hp
  refine ⟨?_, ?_, ?_⟩
  · unfold rnE; rw [if_neg (by rw [hz]; decide), hE, hB, e1, if_neg (by simp), if_neg (by simp)]
  · unfold rnN; rw [if_neg (by rw [hz]; decide), hE, if_neg (by simp), hB, e2]
  · unfold rnS; rw [if_neg (by rw [hz]; decide)]
def kp9 : Pt := leafP 1 9
def kn1 : List Pt := holes.set 1 kp9
def kB1 : Bs := nodeB kn1
def kq1 : Pt := newP (tagP 1 9 1) 1 kB1
def kn2 : List Pt := holes.set 1 kq1
def kB2 : Bs := nodeB kn2
def kq2 : Pt := newP (tagP 2 9 0) 2 kB2
def ks (gone read0 : List Pt) : Sh := ⟨[kB1, kB2], [], [kq1, kq2], gone, -1, read0⟩
theorem kp9_ok : kp9.OK := leafP_ok (by omega) (by omega)
theorem kn1_ok : NOK kn1 := holes_ok.set 1 kp9_ok
theorem kq1_ok : kq1.OK := newP_ok (tagP_ok (by omega) (by omega) (by omega)) (by omega) _
theorem kn2_ok : NOK kn2 := holes_ok.set 1 kq1_ok
theorem kq2_ok : kq2.OK := newP_ok (tagP_ok (by omega) (by omega) (by omega)) (by omega) _
theorem kput1 : putOk kn1 = true := by kernel_rfl
theorem kput2 : putOk kn2 = true := by kernel_rfl
theorem kz1 : eqP kq1 zeroP = false := by kernel_rfl
theorem kz2 : eqP kq2 zeroP = false := by kernel_rfl
theorem wk1 : setR sh0 zeroP 9 [(9, kp9)] = ⟨kq2, 0, ks [] []⟩ := by kernel_rfl
theorem krn2 (gone rd : List Pt) : rnE (ks gone rd) kq2 = 0 ∧ rnN (ks gone rd) kq2 = kn2 ∧ rnS (ks gone rd) kq2 = ks gone (rd ++ [kq2]) := rn_of kz2 rfl (k := 1) rfl rfl kn2_ok kput2
theorem krn1 (gone rd : List Pt) : rnE (ks gone rd) kq1 = 0 ∧ rnN (ks gone rd) kq1 = kn1 ∧ rnS (ks gone rd) kq1 = ks gone (rd ++ [kq1]) := rn_of kz1 rfl (k := 0) rfl rfl kn1_ok kput1
theorem kref2 : refE kq2 = 0 := by kernel_rfl
theorem kb1 (fr tt : Nat) (gone rd ns : List Pt) (ls : List Lf) (first : Nat) : belowP fr tt 1 (ks gone rd) ns ls kq1 first = goB (belowP fr tt 0) 1 first fr tt kn1 0 (ks gone (rd ++ [kq1])) (ns ++ [kq1]) ls := by
  obtain ⟨e1, e2, e3⟩ := krn1 gone rd
  rw [belowP_succ, if_neg (by rw [kz1]; decide), if_neg (by rw [e1]; simp), e2, e3]
theorem kgo (fr tt : Nat) (f : Sh → List Pt → List Lf → Pt → Nat → Bw) (h0 : ∀ s ns ls at_, f s ns ls zeroP at_ = ⟨0, s, ns, ls⟩) (wide first : Nat) (q : Pt) (s : Sh) (ns : List Pt) (ls : List Lf) : goB f wide first fr tt (holes.set 1 q) 0 s ns ls = if first + 1 * wide + wide ≤ fr ∨ tt ≤ first + 1 * wide then ⟨0, s, ns, ls⟩ else f s ns ls q (first + 1 * wide) := by
  have hz : ∀ n i s ns ls, goB f wide first fr tt (List.replicate n zeroP) i s ns ls = ⟨0, s, ns, ls⟩ := by
    intro n
    induction n with
    | zero => intro i s ns ls; rfl
    | succ n ih =>
      intro i s ns ls
      rw [List.replicate_succ]
      by_cases hc : first + i * wide + wide ≤ fr ∨ tt ≤ first + i * wide
      · rw [goB_skip hc, ih]
      · rw [goB_ok hc (by rw [h0]), h0, ih]
  have e : holes.set 1 q = zeroP :: q :: List.replicate 6 zeroP := rfl
  rw [e]
  have first0 : ∀ l, goB f wide first fr tt (zeroP :: l) 0 s ns ls = goB f wide first fr tt l 1 s ns ls := fun l => by
    by_cases hc : first + 0 * wide + wide ≤ fr ∨ tt ≤ first + 0 * wide
    · rw [goB_skip hc]
    · rw [goB_ok hc (by rw [h0]), h0]
  rw [first0]
  by_cases hc : first + 1 * wide + wide ≤ fr ∨ tt ≤ first + 1 * wide
  · rw [goB_skip hc, if_pos hc, hz]
  · rw [if_neg hc]
    by_cases he : (f s ns ls q (first + 1 * wide)).e = 0
    · rw [goB_ok hc he, hz]
      cases hq : f s ns ls q (first + 1 * wide) with
      | mk e s ns ls => rw [hq] at he; simp at he; subst he; rfl
    · rw [goB_err hc he]
theorem bz (fr tt n : Nat) (s : Sh) (ns : List Pt) (ls : List Lf) (at_ : Nat) : belowP fr tt n s ns ls zeroP at_ = ⟨0, s, ns, ls⟩ := by
  cases n with
  | zero => unfold belowP; rw [if_pos (by kernel_rfl)]
  | succ n => rw [belowP_succ, if_pos (by kernel_rfl)]
theorem kget (off : Nat) (gone rd : List Pt) : getR (ks gone rd) kq2 off = if 16 ≤ off ∨ off + 1 ≤ 8 then ⟨0, ks gone (rd ++ [kq2]), [kq2], []⟩ else if 10 ≤ off ∨ off + 1 ≤ 9 then ⟨0, ks gone (rd ++ [kq2] ++ [kq1]), [kq2, kq1], []⟩ else ⟨0, ks gone (rd ++ [kq2] ++ [kq1]), [kq2, kq1], [(9, kp9)]⟩ := by
  obtain ⟨e1, e2, e3⟩ := krn2 gone rd
  unfold getR
  rw [belowP_succ, if_neg (by rw [kz2]; decide), if_neg (by rw [e1]; simp), e2, e3]
  unfold kn2
  rw [kgo _ _ _ (bz off (off + 1) 1)]
  show (if 16 ≤ off ∨ off + 1 ≤ 8 then _ else _) = _
  by_cases h1 : 16 ≤ off ∨ off + 1 ≤ 8
  · rw [if_pos h1, if_pos h1]; rfl
  · rw [if_neg h1, if_neg h1, kb1]
    unfold kn1
    rw [kgo _ _ _ (bz off (off + 1) 0)]
    show (if 10 ≤ off ∨ off + 1 ≤ 9 then _ else _) = _
    by_cases h2 : 10 ≤ off ∨ off + 1 ≤ 9
    · rw [if_pos h2, if_pos h2]; rfl
    · rw [if_neg h2, if_neg h2]; rfl
theorem wk2 (gone rd : List Pt) : getE (ks gone rd) kq2 9 = 0 ∧ getP (ks gone rd) kq2 9 = kp9 ∧ getS (ks gone rd) kq2 9 = ks gone (rd ++ [kq2] ++ [kq1]) := by
  have h := kget 9 gone rd
  rw [if_neg (by omega), if_neg (by omega)] at h
  refine ⟨?_, ?_, ?_⟩
  · unfold getE; rw [kref2, if_neg (by simp), if_neg (by omega), h]
  · unfold getP; rw [kref2, h, if_neg (by simp)]; rfl
  · unfold getS; rw [kref2, h, if_neg (by simp)]
theorem wk3 (gone rd : List Pt) : getE (ks gone rd) kq2 8 = 0 ∧ getP (ks gone rd) kq2 8 = zeroP ∧ getS (ks gone rd) kq2 8 = ks gone (rd ++ [kq2] ++ [kq1]) := by
  have h := kget 8 gone rd
  rw [if_neg (by omega), if_pos (by omega)] at h
  refine ⟨?_, ?_, ?_⟩
  · unfold getE; rw [kref2, if_neg (by simp), if_neg (by omega), h]
  · unfold getP; rw [kref2, h, if_neg (by simp)]; rfl
  · unfold getS; rw [kref2, h, if_neg (by simp)]
theorem kw1 (gone rd : List Pt) : withP 9 1 (ks gone rd) kq1 [(9, zeroP)] = ⟨zeroP, 0, ks (gone ++ [kp9] ++ [kq1]) (rd ++ [kq1])⟩ := by
  obtain ⟨e1, e2, e3⟩ := krn1 gone rd
  rw [withP_succ, if_neg (by simp), if_neg (by rw [e1]; simp), e2, e3]
  kernel_rfl
theorem wk4 (gone rd : List Pt) : setR (ks gone rd) kq2 9 [(9, zeroP)] = ⟨zeroP, 0, ks (gone ++ [kp9] ++ [kq1] ++ [kq2]) (rd ++ [kq2] ++ [kq1])⟩ := by
  obtain ⟨e1, e2, e3⟩ := krn2 gone rd
  unfold setR
  rw [kref2, if_neg (by simp), if_neg (by rw [show setOk [(9, zeroP)] = true from by kernel_rfl]; decide), withP_succ, if_neg (by simp), if_neg (by rw [e1]; simp), e2, e3]
  have hg : goW (withP 9 1) 8 kn2 1 (ks gone (rd ++ [kq2])) kn2 [(9, zeroP)] = ⟨holes, 0, ks (gone ++ [kp9] ++ [kq1]) (rd ++ [kq2] ++ [kq1])⟩ := by
    have hf : withP 9 1 (ks gone (rd ++ [kq2])) (kn2.getD ((([(9, zeroP)] : List Lf).getD 0 dl).1 / 8 % 8) zeroP) (([(9, zeroP)] : List Lf).take (headN 8 [(9, zeroP)])) = ⟨zeroP, 0, ks (gone ++ [kp9] ++ [kq1]) (rd ++ [kq2] ++ [kq1])⟩ := by
      have := kw1 gone (rd ++ [kq2])
      exact this
    rw [goW_ok (by simp) (by rw [hf]), hf]
    rfl
  show endW 9 2 kq2 kn2 _ (goW (withP 9 1) 8 kn2 1 (ks gone (rd ++ [kq2])) kn2 [(9, zeroP)]) = _
  rw [hg]
  kernel_rfl
end Go.Proofs.YtfcjeceoedfldaaDoor
