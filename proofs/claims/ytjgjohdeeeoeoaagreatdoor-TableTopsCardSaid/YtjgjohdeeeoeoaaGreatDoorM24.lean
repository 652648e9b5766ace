/- The tree's Set. -/
import Derived.Test.YtjgjohdeeeoeoaaGreatDoorM23
import Derived.Test.YtjgjohdeeeoeoaaGreatDoorM10
import Derived.Test.YtjgjohdeeeoeoaaGreatDoorM20
import Derived.Test.YtjgjohdeeeoeoaaGreatDoorM03
import Derived.RegionTactic
import Derived.Test.YtjgjohdeeeoeoaaGreatDoorM05
import Derived.Deep.DeepCutAuto
namespace Go.Proofs.YtjgjohdeeeoeoaaGreatDoor
open Go.RowKit
attribute [local go_sem] Oper.semAt_some
def setR (s : Sh) (p : Pt) (obj : Nat) (l : List Lf) : Ww := if refE p ≠ 0 then ⟨zeroP, refE p, s⟩ else if setOk l = false then ⟨zeroP, 1, s⟩ else withP obj 2 s p l
def SetPost (L : Nat → Nat) (w : World) (D : Nat) (r : Ww) (m : Nat) (e : Ending) (w' : World) : Prop :=
  e = .returned (.tuple #[.agg (pcells r.p).toArray, .int .i64 (r.e : Int)]) ∧ ShPost 5 L w D r.s w' ∧ Lim m r.s ∧ r.p.OK
structure SeS (L : Nat → Nat) (w : World) (D : Nat) (p : Pt) (l : List Lf) (sp : Option Addr) (G : Nat) (s : Sh) (X : World) : Prop where
  sh : ∃ L1 v1, ShAt X L1 D s v1 ∧ Mv 5 L w L1 X ∧ (L1 G = 0 ∧ L1 (G + 1) = 0) ∧ ∀ a, sp = some a → a.block < X.heap.size ∧ (L1 a.block = 0 ∨ L1 a.block = 10)
  p : Blk X G (pcells p) 28
  res : Blk X (G + 1) (pcells zeroP) 28
  src : SrcF X sp l
  lo : w.heap.size ≤ G
theorem SeS.below {L : Nat → Nat} {w : World} {D : Nat} {p : Pt} {l : List Lf} {sp : Option Addr} {G : Nat} {s : Sh} {X Y : World} (h : SeS L w D p l sp G s X) (hb : Below X.heap.size X Y) : SeS L w D p l sp G s Y := by
  obtain ⟨⟨L1, v1, h1, h2, h3, h4⟩, k2, k3, k4, k5⟩ := h
  exact ⟨⟨L1, v1, h1.below hb, h2.trans (Mv.of_below hb h1.lt), h3, fun a ha => ⟨Nat.lt_of_lt_of_le (h4 a ha).1 hb.size, (h4 a ha).2⟩⟩, k2.below hb k2.lt, k3.below hb k3.lt, k4.grown hb, k5⟩
theorem SeS.moved {L L1 : Nat → Nat} {w : World} {D : Nat} {p : Pt} {l : List Lf} {sp : Option Addr} {G : Nat} {s s' : Sh} {X Y : World} (h : SeS L w D p l sp G s X) (hm : Mv 5 L w L1 X) (hl : L1 G = 0 ∧ L1 (G + 1) = 0) (ha : ∀ a, sp = some a → a.block < X.heap.size ∧ (L1 a.block = 0 ∨ L1 a.block = 10)) (hp : ShPost 5 L1 X D s' Y) : SeS L w D p l sp G s' Y := by
  obtain ⟨L2, v2, k1, k2⟩ := hp
  exact ⟨⟨L2, v2, k1, hm.trans k2, ⟨(k2.old _ h.p.lt).trans hl.1, (k2.old _ h.res.lt).trans hl.2⟩, fun a ha' => ⟨Nat.lt_of_lt_of_le (ha a ha').1 k2.size, by rw [k2.old _ (ha a ha').1]; exact (ha a ha').2⟩⟩, k2.blk h.p hl.1, k2.blk h.res hl.2, h.src.chg k2.chg (fun a ha' hf => by have := (ha a ha').2; unfold Foot at hf; omega), h.lo⟩
theorem SeS.ends {L : Nat → Nat} {w : World} {D : Nat} {p : Pt} {l : List Lf} {sp : Option Addr} {G : Nat} {s : Sh} {X : World} (h : SeS L w D p l sp G s X) (q : Pt) : ShPost 5 L w D s (X.setRow (G + 1) (pcells q).toArray) ∧ Blk (X.setRow (G + 1) (pcells q).toArray) (G + 1) (pcells q) 28 := by
  obtain ⟨⟨L1, v1, h1, h2, h3, h4⟩, k2, k3, k4, k5⟩ := h
  have hc := chgR X (G + 1) (pcells q).toArray
  have hz : (X.setRow (G + 1) (pcells q).toArray).heap.size = X.heap.size := by simp
  refine ⟨⟨L1, v1, h1.out hc (fun g e _ => .inl (by rw [e]; exact h3.2)) (fun _ _ => .inl rfl) (fun g hg => by rw [hz]; exact h1.lt g hg), ?_⟩, k3.row _⟩
  exact ⟨h2.chg.trans hc (fun g e => by right; have : g = G + 1 := e; omega), h2.old, h2.new⟩
set_option maxRecDepth 100000 in
set_option maxHeartbeats 8000000 in
theorem trSet_any {w : World} {L : Nat → Nat} {D obj : Nat} {s : Sh} {v : Sv} {m : Nat} (p : Pt) (hp : p.OK) (hobj : obj < 65536) (l : List Lf) (hok : ∀ x ∈ l, Lf.OK x) (sp : Option Addr) (cap : Nat) (hc : l.length ≤ cap) (hl : l.length ≤ 64) (hS : SrcF w sp l) (hsp : ∀ a, sp = some a → a.block < w.heap.size ∧ (L a.block = 0 ∨ L a.block = 10)) (h : ShAt w L D s v) (hk : Lim m s) (hm : m + 715 < 100000000) :
    Calls Tryz.prog 41 #[shI D, .agg (pcells p).toArray, .int .u16 (obj : Int), .slice sp l.length cap] w (SetPost L w D (setR s p obj l) (m + 715)) := by
  have HPO := Lib.hid hp
  have HX : Hid (∀ z, z = (pcells zeroP).toArray → SeS L w D p l sp w.heap.size s ((w.alloc (.cells (pcells p).toArray 28)).alloc (.cells z 28))) := Lib.hid (fun z hz => by
    subst hz
    have hw1 : Below w.heap.size w ((w.alloc (.cells (pcells p).toArray 28)).alloc (.cells (pcells zeroP).toArray 28)) := ((Below.refl _ _).alloc (Nat.le_refl _) _).alloc (by simp) _
    exact ⟨⟨L, v, h.below hw1, Mv.of_below hw1 h.lt, ⟨h.not (Nat.le_refl _), h.not (by omega)⟩, fun a ha => ⟨Nat.lt_of_lt_of_le (hsp a ha).1 hw1.size, (hsp a ha).2⟩⟩, (Blk.new _ _ _).alloc _, Blk.new' _ _ _ _ _ (by simp) rfl, hS.grown hw1, Nat.le_refl _⟩)
  have HOK := Lib.hid hok; have HOB := Lib.hid hobj; have HK := Lib.hid hk; have HM := Lib.hid hm; have HC := Lib.hid hc; have HL := Lib.hid hl
  obtain ⟨r, hr⟩ : ∃ r, setR s p obj l = r := ⟨_, rfl⟩
  have HR : Hid (r = if refE p ≠ 0 then ⟨zeroP, refE p, s⟩ else if setOk l = false then ⟨zeroP, 1, s⟩ else withP obj 2 s p l) := Lib.hid hr.symm
  rw [hr]
  generalize hPost : SetPost L w D r (m + 715) = Post
  have HP : Hid (∀ w', ShPost 5 L w D r.s w' → Lim (m + 715) r.s → r.p.OK → Post (.returned (.tuple #[.agg (pcells r.p).toArray, .int .i64 (r.e : Int)])) w') := Lib.hid fun w' h2 h3 h4 => by rw [← hPost]; exact ⟨rfl, h2, h3, h4⟩
  have HSZ0 := Lib.hid (size_pc zeroP_ok)
  obtain ⟨N, hN⟩ : ∃ N, l.length = N := ⟨_, rfl⟩
  have HN := Lib.hid hN
  rw [hN]
  clear hp hobj hok hc hl hS hsp h hk hm hr hPost hN
  unfold shI
  go_enter Tryz.func41, Tryz.ntmps41
  go_upto_region 1 with fail
  refine (fun (k : ∀ W, SeS L w D p l sp w.heap.size s W → Code.wp _ _ _ _ W) => k _ (HX.out _ rfl)) ?_
  intro W hW
  obtain ⟨G, hG⟩ : ∃ g, w.heap.size = g := ⟨_, rfl⟩
  rw [hG] at hW ⊢
  have HX1 := Lib.hid hW
  clear hW HX hG
  obtain ⟨⟨L1, v1, h1, -⟩, -⟩ := HX1.out
  have HRF := Lib.hid (trRefuse_any p HPO.out D W h1.tab.1)
  clear h1
  go_wp2_with (first | (refine wpL_val rfl (ex_ldP HPO.out HX1.out.p rfl rfl) ?_) | fail)
  refine HRF.out.mono ?_
  rintro e W2 ⟨rfl, hb2⟩
  have HX2 := Lib.hid (HX1.out.below hb2)
  have HRB := Lib.hid HX2.out.res
  clear hb2 HX1 HRF
  obtain ⟨re, hre⟩ : ∃ re, refE p = re := ⟨_, rfl⟩
  rw [hre] at HR ⊢
  clear hre
  by_cases h0 : re = 0
  · subst h0
    obtain ⟨⟨L2, v2, k1, k2, k3, k4⟩, -⟩ := HX2.out
    have hst := settable_any l HOK.out sp cap HC.out (by have := HL.out; omega) W2 HX2.out.src k1.tab.1
    rw [HN.out] at hst
    have HST := Lib.hid hst
    clear k1 k2 k3 k4 hst
    rw [show ((0 : Nat) : Int) = (0 : Int) from rfl]
    go_wp2_with fail
    refine HST.out.mono ?_
    rintro e W3 ⟨rfl, hb3⟩
    have HX3 := Lib.hid (HX2.out.below hb3)
    have HRB3 := Lib.hid HX3.out.res
    clear hb3 HX2 HST HRB
    cases hso : setOk l
    · obtain rfl : r = ⟨zeroP, 1, s⟩ := by rw [HR.out, if_neg (by simp), if_pos hso]
      have HBE := Lib.hid (HX3.out.ends zeroP)
      have HE := Lib.hid (HP.out _ HBE.out.1 (HK.out.mono (by omega) HM.out) zeroP_ok)
      clear HP HR hso
      go_wp2_with (first | (refine wpL_val rfl (ex_bld0 rfl) ?_) | (refine wpList_store_row rfl 28 (.tmp 8) (.tmp 21) rfl (G + 1) (pcells zeroP).toArray rfl rfl 28 _ HRB3.out HSZ0.out rfl (one_pc zeroP) ?_) | fail)
      refine bodyPost_ret (results_cs Tryz.results41 _ _ (G + 1) 28 _ rfl HBE.out.2 (size_pcl zeroP_ok)) rfl ?_
      exact HE.out
    · obtain rfl : withP obj 2 s p l = r := by rw [HR.out, if_neg (by simp), if_neg (by rw [hso]; decide)]
      obtain ⟨⟨L3, v3, k1, k2, k3, k4⟩, -⟩ := HX3.out
      have hwi := with_any 2 (Nat.le_refl _) p HPO.out HOB.out l HOK.out sp cap HC.out HL.out HX3.out.src k4 k1 HK.out (by have := HM.out; show m + 715 < _; omega)
      have HMV : Hid (∀ s' Y, ShPost 5 L3 W3 D s' Y → SeS L w D p l sp G s' Y) := Lib.hid (fun s' Y hY => HX3.out.moved k2 k3 k4 hY)
      obtain ⟨rw_, hrw⟩ : ∃ x, withP obj 2 s p l = x := ⟨_, rfl⟩
      rw [hrw, HN.out] at hwi
      rw [hrw] at HP
      have HWI := Lib.hid hwi
      clear k1 k2 k3 k4 hwi hrw HR hso
      go_wp2_with (first | (refine wpL_val rfl (ex_ldP HPO.out HX3.out.p rfl rfl) ?_) | fail)
      refine HWI.out.mono ?_
      rintro e W4 ⟨rfl, hp4, hl4, ho4⟩
      have HX4 := Lib.hid (HMV.out _ W4 hp4)
      have HL4 := Lib.hid hl4; have HO4 := Lib.hid ho4
      have HBE := Lib.hid (HX4.out.ends rw_.p)
      have HE := Lib.hid (HP.out _ HBE.out.1 hl4 ho4)
      have HRB4 := Lib.hid HX4.out.res
      have HSR := Lib.hid (size_pc ho4)
      have HZR : Hid ((pcells zeroP).toArray.size = (pcells rw_.p).toArray.size) := Lib.hid (by rw [List.size_toArray, List.size_toArray, pcells_length ho4, pcells_length zeroP_ok])
      clear hp4 hl4 ho4 HP HMV HX3 HRB3 HWI
      go_wp2_with (first | (refine wpList_store_row rfl 28 (.tmp 8) (.tmp 28) rfl (G + 1) (pcells rw_.p).toArray rfl rfl 28 _ HRB4.out HSR.out HZR.out (one_pc rw_.p) ?_) | fail)
      refine bodyPost_ret (results_cs Tryz.results41 _ _ (G + 1) 28 _ rfl HBE.out.2 (size_pcl HO4.out)) rfl ?_
      exact HE.out
  · have hre' : ¬ (re : Int) = 0 := by omega
    obtain rfl : r = ⟨zeroP, re, s⟩ := by rw [HR.out, if_pos h0]
    have HBE := Lib.hid (HX2.out.ends zeroP)
    have HE := Lib.hid (HP.out _ HBE.out.1 (HK.out.mono (by omega) HM.out) zeroP_ok)
    clear HP HR h0
    go_wp2_with (first | (refine wpL_val rfl (ex_bld0 rfl) ?_) | (refine wpList_store_row rfl 28 (.tmp 8) (.tmp 16) rfl (G + 1) (pcells zeroP).toArray rfl rfl 28 _ HRB.out HSZ0.out rfl (one_pc zeroP) ?_) | fail)
    refine bodyPost_ret (results_cs Tryz.results41 _ _ (G + 1) 28 _ rfl HBE.out.2 (size_pcl zeroP_ok)) rfl ?_
    exact HE.out
abbrev Bxs := List (Nat × List Value × TypeId)
structure Fr (w : World) (D : Nat) (s : Sh) (bs : Bxs) (X : World) : Prop where
  sh : ∃ L1 v1, ShAt X L1 D s v1 ∧ Lo L1 ∧ (∀ b ∈ bs, L1 b.1 = 0) ∧ ∀ g, g < w.heap.size → L1 g = 0 ∨ L1 g = 10
  bx : ∀ b ∈ bs, Blk X b.1 b.2.1 b.2.2
  bel : Below w.heap.size w X
theorem Fr.below {w : World} {D : Nat} {s : Sh} {bs : Bxs} {X Y : World} (h : Fr w D s bs X) (hb : Below X.heap.size X Y) : Fr w D s bs Y := by
  obtain ⟨⟨L1, v1, h1, h2, h3, h4⟩, k, hl⟩ := h
  exact ⟨⟨L1, v1, h1.below hb, h2, h3, h4⟩, fun b hb' => (k b hb').below hb (k b hb').lt, hl.trans (hb.mono hl.size)⟩
theorem Fr.drew {w : World} {D : Nat} {s : Sh} {bs : Bxs} {X : World} (h : Fr w D s bs X) : Fr w D s bs X.drew := h.below (Below.refl _ _).drew
theorem Fr.call {w : World} {D : Nat} {s : Sh} {bs : Bxs} {X : World} (h : Fr w D s bs X) : ∃ L1 v1, ShAt X L1 D s v1 ∧ Lo L1 ∧ (∀ g, g < w.heap.size → L1 g = 0 ∨ L1 g = 10) ∧ (∀ b ∈ bs, L1 b.1 = 0) ∧ ∀ s' Y, ShPost 5 L1 X D s' Y → Fr w D s' bs Y := by
  obtain ⟨⟨L1, v1, h1, h2, h3, h4⟩, k, hl⟩ := h
  refine ⟨L1, v1, h1, h2, h4, h3, fun s' Y ⟨L2, v2, j1, j2⟩ => ⟨⟨L2, v2, j1, h2.mv j2, fun b hb => (j2.old _ (k b hb).lt).trans (h3 b hb), fun g hg => by rw [j2.old g (Nat.lt_of_lt_of_le hg hl.size)]; exact h4 g hg⟩, fun b hb => j2.blk (k b hb) (h3 b hb), ?_⟩⟩
  refine ⟨j2.chg.os.trans hl.os, j2.chg.tape.trans hl.tape, j2.chg.output.trans hl.output, Nat.le_trans hl.size j2.chg.size, fun g hg => ?_⟩
  rw [j2.chg.block g (Nat.lt_of_lt_of_le hg hl.size) (fun hf => by have := h4 g hg; unfold Foot at hf; omega)]
  exact hl.block g hg
theorem Fr.add {w : World} {D : Nat} {s : Sh} {bs : Bxs} {X Y : World} (h : Fr w D s bs X) (hb : Below X.heap.size X Y) {g : Nat} {cs : List Value} {t : TypeId} (hg : X.heap.size ≤ g) (hn : Blk Y g cs t) : Fr w D s ((g, cs, t) :: bs) Y := by
  have h' := h.below hb
  obtain ⟨⟨L1, v1, h1, h2, h3, h4⟩, k, hl⟩ := h
  obtain ⟨-, k', hl'⟩ := h'
  refine ⟨⟨L1, v1, h1.below hb, h2, fun b hb' => ?_, h4⟩, fun b hb' => ?_, hl'⟩
  · rcases List.mem_cons.1 hb' with rfl | hb'
    · exact h1.not hg
    · exact h3 b hb'
  · rcases List.mem_cons.1 hb' with rfl | hb'
    · exact hn
    · exact k' b hb'
theorem Fr.at {w : World} {D : Nat} {s : Sh} {bs : Bxs} {X : World} (h : Fr w D s bs X) {g : Nat} {cs : List Value} {t : TypeId} (hm : (g, cs, t) ∈ bs) : Blk X g cs t := h.bx _ hm
def sh0 : Sh := ⟨[], [], [], [], -1, []⟩
def v0 : Sv := ⟨.slice none 0 0, .slice none 0 0, .slice none 0 0, .slice none 0 0, .slice none 0 0⟩
theorem fr_new (w : World) (hT : RTab w) : Fr w w.heap.size sh0 [] (w.alloc (.cells (scells v0 (-1)).toArray 50)) := by
  have hb : Below w.heap.size w (w.alloc (.cells (scells v0 (-1)).toArray 50)) := (Below.refl _ _).alloc (Nat.le_refl _) _
  have hgt := hT.lt
  have none0 : ∀ {j : Nat} {L : Nat → Nat}, OwnM (w.alloc (.cells (scells v0 (-1)).toArray 50)) 0 (.slice none 0 0) [] ∧ ∀ g, (Value.slice none 0 0).ownBlock = some g → L g = j := ⟨World.ownsRow_nil _ _ _ _, fun g hg => by cases hg⟩
  refine ⟨⟨fun g => if g = w.heap.size then 1 else if g = 0 then 10 else 0, v0, ⟨Blk.new _ _ _, if_pos rfl, ⟨[], World.ownsRow_nil _ _ _ _, (fun g hg => by cases hg), rfl, fun i u b h => by simp at h, fun u h => by simp at h⟩, ⟨none, 0, rfl, Nat.le_refl _, fun _ => rfl, fun h => by simp [sh0] at h⟩, none0, none0, none0, fun g hg => ?_, fun q h => by simp [sh0] at h, fun q h => by simp [sh0] at h, fun q h => by simp [sh0] at h, hT.alloc _, ?_⟩, fun g => ?_, fun b hb => by simp at hb, fun g hg => ?_⟩, fun b hb => by simp at hb, hb⟩
  · by_cases e : g = w.heap.size
    · subst e; simp
    · rw [if_neg e] at hg
      by_cases e2 : g = 0
      · have := hT.lt; simp; omega
      · rw [if_neg e2] at hg; exact absurd rfl hg
  · rw [if_neg (by omega), if_pos rfl]
  · show (if g = w.heap.size then 1 else if g = 0 then 10 else 0) ≤ 5 ∨ (if g = w.heap.size then 1 else if g = 0 then 10 else 0) = 10
    by_cases e : g = w.heap.size
    · left; rw [if_pos e]; omega
    · rw [if_neg e]
      by_cases e2 : g = 0
      · right; rw [if_pos e2]
      · left; rw [if_neg e2]; omega
  · have hne : ¬ g = w.heap.size := by omega
    show (if g = w.heap.size then 1 else if g = 0 then 10 else 0) = 0 ∨ (if g = w.heap.size then 1 else if g = 0 then 10 else 0) = 10
    rw [if_neg hne]
    by_cases e2 : g = 0
    · right; rw [if_pos e2]
    · left; rw [if_neg e2]
def leafP (n off : Nat) : Pt := ⟨1, 0, 9, off, n, List.replicate 32 0#8, [0, 0, 7, 0]⟩
theorem leafP_ok {n off : Nat} (h1 : n < 18446744073709551616) (h2 : off < 4294967296) : (leafP n off).OK :=
  ⟨by simp [leafP], by simp [leafP], by simp [leafP], h2, h1, by simp [leafP], by simp [leafP], fun x hx => by simp [leafP] at hx; rcases hx with rfl | rfl | rfl | rfl <;> omega⟩
end Go.Proofs.YtjgjohdeeeoeoaaGreatDoor
namespace Go.Proofs.YtjgjohdeeeoeoaaGreatDoor
open Go.RowKit
theorem pt_take (l : Bs) : pt (l.take 64) = pt l := by
  have h : ∀ n m, n + m ≤ 64 → ((l.take 64).drop n).take m = (l.drop n).take m := fun n m hnm => by
    rw [List.drop_take, List.take_take, Nat.min_eq_left (by omega)]
  unfold pt
  rw [h 1 1 (by omega), h 2 2 (by omega), h 4 4 (by omega), h 8 8 (by omega), h 16 32 (by omega), h 48 2 (by omega), h 50 2 (by omega), h 52 2 (by omega), h 54 2 (by omega), List.take_take, Nat.min_eq_left (by omega)]
abbrev RefV (sp : Option Addr) (l : List (BitVec 8)) (cap e : Nat) : Value := .agg #[.slice sp l.length cap, .int .i64 (e : Int)]
def refRes (l : List (BitVec 8)) (e : Nat) (n : Int) : List (BitVec 8) × List (BitVec 8) × Nat :=
  if e ≠ 0 then ([], l, e) else if (l.length : Int) < n then ([], [], 4) else (l.take n.toNat, l.drop n.toNat, 0)
def RefIs (w : World) (K : Nat → Prop) (sp : Option Addr) (l : List (BitVec 8)) (cap : Nat) : Prop := l.length ≤ cap ∧ (sp = none → cap = 0) ∧ SrcX w K sp l
theorem RefIs.low {w w' : World} {K : Nat → Prop} {B : Nat} {sp : Option Addr} {l : List (BitVec 8)} {cap : Nat} (h : RefIs w (fun g => K g ∧ g < B) sp l cap) (hb : Below B w w') : RefIs w' K sp l cap :=
  ⟨h.1, h.2.1, fun h0 => by
    obtain ⟨g, o, e, hk, hg, hc⟩ := h.2.2 h0
    exact ⟨g, o, e, hk.1, Nat.lt_of_lt_of_le hg hb.size, fun j hj => (hb.cell (p := ⟨g, o + j, none⟩) hk.2).trans (hc j hj)⟩⟩
theorem RefIs.up {w : World} {K : Nat → Prop} {sp : Option Addr} {l : List (BitVec 8)} {cap : Nat} (h : RefIs w K sp l cap) : RefIs w (fun g => K g ∧ g < w.heap.size) sp l cap :=
  ⟨h.1, h.2.1, fun h0 => by
    obtain ⟨g, o, e, hk, hg, hc⟩ := h.2.2 h0
    exact ⟨g, o, e, ⟨hk, hg⟩, hg, hc⟩⟩
theorem RefIs.below {w w' : World} {K : Nat → Prop} {sp : Option Addr} {l : List (BitVec 8)} {cap : Nat} (h : RefIs w K sp l cap) (hb : Below w.heap.size w w') : RefIs w' K sp l cap :=
  ⟨h.1, h.2.1, h.2.2.below hb (Nat.le_refl _)⟩
def RawOf (K : Nat → Prop) (l : List (BitVec 8)) (e : Nat) (n : Int) (w : World) (x : Ending) (w' : World) : Prop :=
  ∃ so co sp cap, x = .returned (.tuple #[.slice so (refRes l e n).1.length co, RefV sp (refRes l e n).2.1 cap (refRes l e n).2.2]) ∧ RefIs w' K so (refRes l e n).1 co ∧ RefIs w' K sp (refRes l e n).2.1 cap ∧ Below w.heap.size w w'
set_option maxHeartbeats 1000000 in
theorem refRaw_err (l : List (BitVec 8)) (sp : Option Addr) (cap e : Nat) (n : Int) (w : World) {K : Nat → Prop} (hR : RefIs w K sp l cap) (he : e ≠ 0) :
    Calls Tryz.prog 63 #[.agg #[.slice sp l.length cap, .int .i64 (e : Int)], .int .i64 n] w (RawOf K l e n w) := by
  have hr : refRes l e n = ([], l, e) := if_pos he
  have HP : Hid (∀ w', Below w.heap.size w w' → RawOf K l e n w (.returned (.tuple #[.slice none 0 0, .agg #[.slice sp l.length cap, .int .i64 (e : Int)]])) w') := Lib.hid (fun w' hb => by
    unfold RawOf; rw [hr]
    exact ⟨none, 0, sp, cap, rfl, ⟨by simp, fun _ => rfl, fun h => by simp at h⟩, ⟨hR.1, hR.2.1, hR.2.2.below hb (Nat.le_refl _)⟩, hb⟩)
  have h1 : ((e : Int) != 0) = true := by rw [bne_iff_ne]; omega
  have h3 : ¬ (e : Int) = 0 := by omega
  clear hr hR he
  go_enter Tryz.func63, Tryz.ntmps63
  go_wp2
  go_region
  go_wp2
  exact bodyPost_ret (v := .tuple #[.slice none 0 0, .agg #[.slice sp l.length cap, .int .i64 (e : Int)]]) (by simp [results, Tryz.results63, go_sem]) rfl (HP.out _ (((Below.refl _ _).alloc (Nat.le_refl _) _).alloc (by simp) _).drew)
set_option maxHeartbeats 1000000 in
theorem refRaw_short (l : List (BitVec 8)) (sp : Option Addr) (cap : Nat) (n : Int) (w : World) {K : Nat → Prop} (hs : (l.length : Int) < n) :
    Calls Tryz.prog 63 #[.agg #[.slice sp l.length cap, .int .i64 0], .int .i64 n] w (RawOf K l 0 n w) := by
  have hr : refRes l 0 n = ([], [], 4) := by unfold refRes; rw [if_neg (by omega), if_pos hs]
  have HP : Hid (∀ w', Below w.heap.size w w' → RawOf K l 0 n w (.returned (.tuple #[.slice none 0 0, .agg #[.slice none 0 0, .int .i64 4]])) w') := Lib.hid (fun w' hb => by
    unfold RawOf; rw [hr]
    exact ⟨none, 0, none, 0, rfl, ⟨by simp, fun _ => rfl, fun h => by simp at h⟩, ⟨by simp, fun _ => rfl, fun h => by simp at h⟩, hb⟩)
  have h0 : ¬ n < 0 := by omega
  clear hr
  go_enter Tryz.func63, Tryz.ntmps63
  go_wp2
  exact bodyPost_ret (v := .tuple #[.slice none 0 0, .agg #[.slice none 0 0, .int .i64 4]]) (by simp [results, Tryz.results63, go_sem]) rfl (HP.out _ (((Below.refl _ _).alloc (Nat.le_refl _) _).alloc (by simp) _))
set_option maxHeartbeats 1000000 in
theorem refRaw_ok (l : List (BitVec 8)) (sp : Option Addr) (cap m : Nat) (n : Int) (w : World) {K : Nat → Prop} (hR : RefIs w K sp l cap) (hm : m ≤ l.length) (hn : n = (m : Int)) :
    Calls Tryz.prog 63 #[.agg #[.slice sp l.length cap, .int .i64 0], .int .i64 n] w (RawOf K l 0 n w) := by
  have hr : refRes l 0 n = (l.take m, l.drop m, 0) := by
    unfold refRes; rw [if_neg (by omega), if_neg (by omega), show n.toNat = m by omega]
  obtain ⟨h1, h2, h3⟩ := hR
  obtain ⟨sp2, e2, e3, e4⟩ := sliceFrom sp l.length cap m hm h1
  have e1 := sliceTo sp l.length cap m (by omega)
  have HP : Hid (∀ w', Below w.heap.size w w' → RawOf K l 0 n w (.returned (.tuple #[.slice sp m cap, .agg #[.slice sp2 (l.length - m) (cap - m), .int .i64 0]])) w') := Lib.hid (fun w' hb => by
    have hl : (l.take m).length = m := by simp; omega
    unfold RawOf; rw [hr]
    refine ⟨sp, cap, sp2, cap - m, by simp only [RefV]; rw [hl, List.length_drop]; rfl, ⟨by simp; omega, h2, (h3.take m).below hb (Nat.le_refl _)⟩, ⟨by simp; omega, fun h0 => by have := h2 (e4 h0); omega, (h3.drop m (fun hlt => e3 (by omega))).below hb (Nat.le_refl _)⟩, hb⟩)
  have g1 : (m : Int) ≤ (l.length : Int) := by omega
  have g0 : (0 : Int) ≤ (m : Int) := by omega
  have g2 : ¬ ((l.length : Int) < (m : Int)) := by omega
  have g3 : (m : Int) ≤ (cap : Int) := by omega
  subst hn
  clear h1 h2 h3 e3 e4 hr
  go_enter Tryz.func63, Tryz.ntmps63
  go_wp2
  go_region
  all_goals go_wp2
  all_goals exact bodyPost_ret (v := .tuple #[.slice sp m cap, .agg #[.slice sp2 (l.length - m) (cap - m), .int .i64 0]]) (by simp [results, Tryz.results63, go_sem]) rfl (HP.out _ (((Below.refl _ _).alloc (Nat.le_refl _) _).alloc (by simp) _).drew)
set_option maxHeartbeats 1000000 in
theorem refRaw_neg (l : List (BitVec 8)) (sp : Option Addr) (cap : Nat) (n : Int) (w : World) {K : Nat → Prop} (hR : RefIs w K sp l cap) (hneg : n < 0) :
    Calls Tryz.prog 63 #[.agg #[.slice sp l.length cap, .int .i64 0], .int .i64 n] w (RawOf K l 0 n w) := by
  have hr : refRes l 0 n = ([], l, 0) := by
    unfold refRes; rw [if_neg (by omega), if_neg (by omega), show n.toNat = 0 by omega]; rfl
  obtain ⟨h1, h2, h3⟩ := hR
  have HP : Hid (∀ w', Below w.heap.size w w' → RawOf K l 0 n w (.returned (.tuple #[.slice sp 0 cap, .agg #[.slice sp l.length cap, .int .i64 0]])) w') := Lib.hid (fun w' hb => by
    unfold RawOf; rw [hr]
    exact ⟨sp, cap, sp, cap, rfl, ⟨by simp, h2, fun h => by simp at h⟩, ⟨h1, h2, h3.below hb (Nat.le_refl _)⟩, hb⟩)
  clear h1 h2 h3 hr
  go_enter Tryz.func63, Tryz.ntmps63
  go_wp2
  go_region
  all_goals go_wp2
  all_goals exact bodyPost_ret (v := .tuple #[.slice sp 0 cap, .agg #[.slice sp l.length cap, .int .i64 0]]) (by simp [results, Tryz.results63, go_sem]) rfl (HP.out _ (((Below.refl _ _).alloc (Nat.le_refl _) _).alloc (by simp) _).drew)
theorem refRaw_any (l : List (BitVec 8)) (sp : Option Addr) (cap e : Nat) (n : Int) (w : World) {K : Nat → Prop} (hR : RefIs w K sp l cap) :
    Calls Tryz.prog 63 #[.agg #[.slice sp l.length cap, .int .i64 (e : Int)], .int .i64 n] w (RawOf K l e n w) := by
  by_cases he : e = 0
  · subst he
    by_cases hs : (l.length : Int) < n
    · exact refRaw_short l sp cap n w hs
    · by_cases hneg : n < 0
      · exact refRaw_neg l sp cap n w hR hneg
      · exact refRaw_ok l sp cap n.toNat n w hR (by omega) (by omega)
  · exact refRaw_err l sp cap e n w hR he
def NumOf (K : Nat → Prop) (l : List (BitVec 8)) (e : Nat) (n : Int) (w : World) (x : Ending) (w' : World) : Prop :=
  ∃ sp cap, x = .returned (.tuple #[.int .u64 (val (refRes l e n).1 : Int), RefV sp (refRes l e n).2.1 cap (refRes l e n).2.2]) ∧ RefIs w' K sp (refRes l e n).2.1 cap ∧ Below w.heap.size w w'
theorem refRes_len (l : List (BitVec 8)) (e n : Nat) : (refRes l e n).1.length ≤ n := by
  unfold refRes
  split
  · simp
  · split
    · simp
    · simp; omega
set_option maxRecDepth 100000 in
set_option maxHeartbeats 1000000 in
theorem refNum_any (l : List (BitVec 8)) (sp : Option Addr) (cap e n : Nat) (w : World) {K : Nat → Prop} (hn : n ≤ 8) (hR : RefIs w K sp l cap) :
    Calls Tryz.prog 32 #[.agg #[.slice sp l.length cap, .int .i64 (e : Int)], .int .i64 (n : Int)] w (NumOf K l e n w) := by
  have HR := Lib.hid hR
  have hln := refRes_len l e n
  clear hR
  go_enter Tryz.func32, Tryz.ntmps32
  go_wp2_with fail
  refine (refRaw_any l sp cap e n _ (K := fun g => K g ∧ g < w.heap.size) (HR.out.up.below (((Below.refl _ _).alloc (Nat.le_refl _) _).alloc (by simp) _))).mono ?_
  rintro x w1 ⟨so, co, sp1, cap1, rfl, ho, hr1, hb⟩
  have HO := Lib.hid ho
  have HR1 := Lib.hid hr1
  have HB := Lib.hid hb
  have b5 : Blk w1 (w.heap.size + 1) [.slice none 0 0, .int .i64 0] 87 := (Blk.new' _ _ _ 87 (w.heap.size + 1) (by simp) rfl).below hb (by simp)
  have hsz : w.heap.size + 1 < w1.heap.size := b5.lt
  have HB0 : Hid (Below w.heap.size w w1) := Lib.hid ((((Below.refl _ _).alloc (Nat.le_refl _) _).alloc (by simp) _).trans (hb.mono (by simp; omega)))
  have B5 := Lib.hid b5
  have c0 := b5.cell (j := 0) rfl
  have c1 := b5.cell (j := 1) rfl
  have f0 := b5.free 0
  have f1 := b5.free 1
  have HP : Hid (∀ (v : Int) (w' : World), v = (val (refRes l e n).1 : Int) → Below w.heap.size w1 w' → NumOf K l e n w (.returned (.tuple #[.int .u64 v, RefV sp1 (refRes l e n).2.1 cap1 (refRes l e n).2.2])) w') := Lib.hid (fun v w' hv hb2 => by
    subst hv
    exact ⟨sp1, cap1, rfl, HR1.out.low hb2, HB0.out.trans hb2⟩)
  obtain ⟨out, hout⟩ : ∃ o, (refRes l e (n : Int)).1 = o := ⟨_, rfl⟩
  obtain ⟨l1, hl1⟩ : ∃ o, (refRes l e (n : Int)).2.1 = o := ⟨_, rfl⟩
  obtain ⟨e1, he1⟩ : ∃ o, (refRes l e (n : Int)).2.2 = o := ⟨_, rfl⟩
  have hln8 : out.length ≤ 8 := by rw [← hout]; omega
  rw [hout] at HO
  rw [hl1] at HR1
  rw [hout, hl1, he1] at HP
  rw [hout, hl1, he1]
  obtain ⟨N, hN⟩ : ∃ N, out.length = N := ⟨_, rfl⟩
  have HN := Lib.hid hN
  rw [hN] at hln8 ⊢
  have i1 := IntWalk.i64_in ((N : Int) - 1) (by omega)
  clear ho hr1 hb b5 hln hout hl1 he1 hN HB HR
  go_wp2
  go_loop [8, 9] (fun v i => ∃ j : Nat, j ≤ N ∧ i = .int .i64 ((j : Int) - 1) ∧ v = .int .u64 (val (out.drop j) : Int)) (fun _ i => (intOf i + 1).toNat)
  case atStart => exact ⟨N, Nat.le_refl _, rfl, by rw [List.drop_of_length_le (by rw [HN.out]; omega)]; rfl⟩
  case round =>
    obtain ⟨j, hj, rfl, rfl⟩ := hrel
    by_cases h0 : j = 0
    · subst h0
      have HV : Hid (val (out.drop 0) = val out) := Lib.hid (by rw [List.drop_zero])
      have g1 : ((0 : Nat) : Int) - 1 = -1 := by omega
      rw [g1]
      generalize val (out.drop 0) = v0 at *
      clear i1 g1 hj hln8
      go_wp2
      go_region
      all_goals go_wp2
      have C0 := ((((B5.out.set 0 (.slice sp1 l1.length cap1)).set 1 (.int .i64 (e1 : Int))).alloc (.cells #[.slice sp1 l1.length cap1, .int .i64 (e1 : Int)] 87)).cell (j := 0) rfl)
      have C1 := ((((B5.out.set 0 (.slice sp1 l1.length cap1)).set 1 (.int .i64 (e1 : Int))).alloc (.cells #[.slice sp1 l1.length cap1, .int .i64 (e1 : Int)] 87)).cell (j := 1) rfl)
      exact bodyPost_ret (v := .tuple #[.int .u64 (v0 : Int), .agg #[.slice sp1 l1.length cap1, .int .i64 (e1 : Int)]]) (by simp [results, Tryz.results32, go_sem, C0, C1]) rfl (HP.out _ _ (by rw [HV.out]) (((((Below.refl _ _).setCell (by simp) _).setCell (by simp) _).alloc (by simp; omega) _).drew))
    · obtain ⟨k, rfl⟩ : ∃ k, j = k + 1 := ⟨j - 1, by omega⟩
      obtain ⟨g, o, rfl, _, hg, hcell⟩ := HO.out.2.2 (by rw [HN.out]; omega)
      have cx := hcell k (by rw [HN.out]; omega)
      obtain ⟨x, hx⟩ : ∃ x, out.getD k 0 = x := ⟨_, rfl⟩
      have hvd := val_drop out k (by rw [HN.out]; omega)
      have hv8 := val_lt (out.drop k)
      rw [hx] at cx hvd
      have hl8 : (out.drop k).length ≤ 8 := by rw [List.length_drop, HN.out]; omega
      have hp8 : (2 : Nat) ^ (8 * (out.drop k).length) ≤ 18446744073709551616 := Nat.pow_le_pow_right (by omega) (show 8 * (out.drop k).length ≤ 64 by omega)
      have r1 : IntKind.u64.wrap ((val (out.drop (k + 1)) : Int) * 256) = ((val (out.drop (k + 1)) * 256 : Nat) : Int) := by
        have := u64_in (val (out.drop (k + 1)) * 256) (by omega)
        rw [← this]; simp
      have r2 := cvw64 x
      have r3 : IntKind.u64.wrap (((val (out.drop (k + 1)) * 256 : Nat) : Int) + N8 x) = (val (out.drop k) : Int) := by
        have := u64_in (val (out.drop k)) (by omega)
        rw [← this, hvd]; unfold N8; simp
      have r4 := IntWalk.i64_in ((k : Int) - 1) (by omega)
      have g1 : ((k + 1 : Nat) : Int) - 1 = (k : Int) := by omega
      rw [g1]
      generalize val (out.drop (k + 1)) = v1 at *
      generalize v1 * 256 = v2 at *
      have hk : (k : Int) < (N : Int) := by omega
      have hk0 : (0 : Int) ≤ (k : Int) := by omega
      clear hvd hv8 hl8 hp8 hx g1 hj h0 i1 hcell
      go_wp2
      go_round
      case rel => exact ⟨k, by omega, rfl, rfl⟩
      case measure => simp [intOf]
set_option maxRecDepth 100000 in
set_option maxHeartbeats 8000000 in
theorem qmay_any (p : Pt) (hp : p.OK) (w : World) : Calls Tryz.prog 12 #[.agg (pcells p).toArray] w fun e w' => e = .returned (.bool (mayR p)) ∧ Below w.heap.size w w' := by
  have HB0 : Hid (Below w.heap.size w (w.alloc (.cells (pcells p).toArray 28))) := Lib.hid ((Below.refl _ _).alloc (Nat.le_refl _) _)
  have hG : Blk (w.alloc (.cells (pcells p).toArray 28)) w.heap.size (pcells p) 28 := Blk.new _ _ _
  have hA := rng_ats hG hp.hash
  obtain ⟨k, lv, ob, off, bi, hs, ats⟩ := p
  have hl := hp.len
  match ats, hl with
  | [a, b, c, d], _ =>
  have hh := hp.hash
  clear hp hl
  have cK := hG.cell (j := 0) rfl
  have cL := hG.cell (j := 1) rfl
  have cA : (w.alloc (.cells (pcells ⟨k, lv, ob, off, bi, hs, [a, b, c, d]⟩).toArray 28)).cell? ⟨w.heap.size, 37, none⟩ = some (.int .u16 (a : Int)) := cell_ats hG hh (k := 0) rfl
  have cB : (w.alloc (.cells (pcells ⟨k, lv, ob, off, bi, hs, [a, b, c, d]⟩).toArray 28)).cell? ⟨w.heap.size, 38, none⟩ = some (.int .u16 (b : Int)) := cell_ats hG hh (k := 1) rfl
  have cC : (w.alloc (.cells (pcells ⟨k, lv, ob, off, bi, hs, [a, b, c, d]⟩).toArray 28)).cell? ⟨w.heap.size, 39, none⟩ = some (.int .u16 (c : Int)) := cell_ats hG hh (k := 2) rfl
  have cD : (w.alloc (.cells (pcells ⟨k, lv, ob, off, bi, hs, [a, b, c, d]⟩).toArray 28)).cell? ⟨w.heap.size, 40, none⟩ = some (.int .u16 (d : Int)) := cell_ats hG hh (k := 3) rfl
  have HG := Lib.hid hA
  have HB := HB0
  obtain ⟨P, hP⟩ : ∃ P, (pcells ⟨k, lv, ob, off, bi, hs, [a, b, c, d]⟩).toArray = P := ⟨_, rfl⟩
  rw [hP] at cK cL cA cB cC cD HG HB ⊢
  obtain ⟨m, hm⟩ : ∃ m, mayR ⟨k, lv, ob, off, bi, hs, [a, b, c, d]⟩ = m := ⟨_, rfl⟩
  rw [hm]
  have HM := Lib.hid hm
  clear hG hA HB0 hh hP hm
  go_enter Tryz.func12, Tryz.ntmps12
  go_upto_region 1 with fail
  generalize (w.alloc (.cells P 28)) = W at cK cL cA cB cC cD HG HB ⊢
  by_cases h1 : k < 1
  · have ih1 : (k : Int) < 1 := by omega
    obtain rfl : m = false := by rw [← HM.out]; unfold mayR; simp only [List.getD_cons_zero, List.getD_cons_succ]; rw [if_pos (by omega)]
    go_wp2
    go_ret
    exact ⟨rfl, HB.out⟩
  have ih1 : ¬ (k : Int) < 1 := by omega
  by_cases h5 : 5 < k
  · have ih5 : (5 : Int) < k := by omega
    obtain rfl : m = false := by rw [← HM.out]; unfold mayR; simp only [List.getD_cons_zero, List.getD_cons_succ]; rw [if_pos (by omega)]
    go_wp2
    go_ret
    exact ⟨rfl, HB.out⟩
  have ih5 : ¬ (5 : Int) < k := by omega
  have n1 : ¬ (k < 1 ∨ 5 < k) := by omega
  go_upto_region 3 with fail
  go_cut [33] (fun v wx => v = .bool (decide ((k = 3 ∧ (lv < 1 ∨ 2 < lv)) ∨ (k ≠ 3 ∧ lv ≠ 0))) ∧ wx = W)
  case first =>
    by_cases h3 : k = 3
    · have ih3 : (k : Int) = 3 := by omega
      by_cases l1 : lv < 1
      · have il1 : (lv : Int) < 1 := by omega
        go_wp2
        go_meet
        exact ⟨congrArg Value.bool (by first | exact (decide_eq_true (by omega)).symm | (rw [Bool.eq_iff_iff]; simp; omega)), rfl⟩
      · have il1 : ¬ (lv : Int) < 1 := by omega
        by_cases l2 : 2 < lv
        · have il2 : (2 : Int) < lv := by omega
          go_wp2
          go_meet
          exact ⟨congrArg Value.bool (by first | exact (decide_eq_true (by omega)).symm | (rw [Bool.eq_iff_iff]; simp; omega)), rfl⟩
        · have il2 : ¬ (2 : Int) < lv := by omega
          go_wp2
          go_meet
          exact ⟨congrArg Value.bool (by first | exact (decide_eq_false (by omega)).symm | (rw [Bool.eq_iff_iff]; simp; omega)), rfl⟩
    · have ih3 : ¬ (k : Int) = 3 := by omega
      by_cases l0 : lv = 0
      · have il0 : (lv : Int) = 0 := by omega
        go_wp2
        go_meet
        exact ⟨congrArg Value.bool (by first | exact (decide_eq_false (by omega)).symm | (rw [Bool.eq_iff_iff]; simp; omega)), rfl⟩
      · have il0 : ¬ (lv : Int) = 0 := by omega
        go_wp2
        go_meet
        exact ⟨congrArg Value.bool (by first | exact (decide_eq_true (by omega)).symm | (rw [Bool.eq_iff_iff]; simp; omega)), rfl⟩
  case rest =>
  obtain ⟨rfl, rfl⟩ := hcut
  by_cases h3 : ((k = 3 ∧ (lv < 1 ∨ 2 < lv)) ∨ (k ≠ 3 ∧ lv ≠ 0))
  · rw [decide_eq_true h3]
    obtain rfl : m = false := by rw [← HM.out]; unfold mayR; simp only [List.getD_cons_zero, List.getD_cons_succ]; rw [if_neg n1, if_pos h3]
    go_wp2
    go_ret
    exact ⟨rfl, HB.out⟩
  rw [decide_eq_false h3]
  have HN1 := Lib.hid n1; have HN3 := Lib.hid h3; clear n1 h3
  by_cases z : [a, b, c, d] = [0, 0, 0, 0]
  · have HZ := Lib.hid z; clear z
    obtain rfl : m = false := by rw [← HM.out]; unfold mayR; simp only [List.getD_cons_zero, List.getD_cons_succ]; rw [if_neg HN1.out, if_neg HN3.out, if_pos HZ.out]
    go_wp2_with (first | (refine wpL_val rfl (ex_ld (ty := 26) (cs := [a, b, c, d].map U16) rfl rfl HG.out Tryz.underlying26 rfl sizeAts) ?_) | (refine wpL_val rfl (ex_eqAts (a := [a, b, c, d]) (b := [0, 0, 0, 0]) rfl rfl rfl rfl rfl) ?_; rw [decide_eq_true HZ.out]) | fail)
    go_ret
    exact ⟨rfl, HB.out⟩
  have HZ := Lib.hid z; clear z
  go_upto_region 7 with (first | (refine wpL_val rfl (ex_ld (ty := 26) (cs := [a, b, c, d].map U16) rfl rfl HG.out Tryz.underlying26 rfl sizeAts) ?_) | (refine wpL_val rfl (ex_eqAts (a := [a, b, c, d]) (b := [0, 0, 0, 0]) rfl rfl rfl rfl rfl) ?_; rw [decide_eq_false HZ.out]) | fail); try simp only [pS]
  go_cut [65] (fun v wx => v = .bool (decide ((a ≠ 0 ∧ a = b) ∨ (c ≠ 0 ∧ c = d))) ∧ wx = wc)
  case first =>
    by_cases a0 : a = 0
    · have ia0 : (a : Int) = 0 := by omega
      by_cases c0 : c = 0
      · have ic0 : (c : Int) = 0 := by omega
        go_wp2
        go_meet
        exact ⟨congrArg Value.bool (by first | exact (decide_eq_false (by omega)).symm | (rw [Bool.eq_iff_iff]; simp; omega)), rfl⟩
      · have ic0 : ¬ (c : Int) = 0 := by omega
        by_cases cd : c = d
        · have icd : (c : Int) = d := by omega
          go_wp2
          go_meet
          exact ⟨congrArg Value.bool (by first | exact (decide_eq_true (by omega)).symm | (rw [Bool.eq_iff_iff]; simp; omega)), rfl⟩
        · have icd : ¬ (c : Int) = d := by omega
          go_wp2
          go_meet
          exact ⟨congrArg Value.bool (by first | exact (decide_eq_false (by omega)).symm | (rw [Bool.eq_iff_iff]; simp; omega)), rfl⟩
    · have ia0 : ¬ (a : Int) = 0 := by omega
      by_cases ab : a = b
      · have iab : (a : Int) = b := by omega
        go_wp2
        go_meet
        exact ⟨congrArg Value.bool (by first | exact (decide_eq_true (by omega)).symm | (rw [Bool.eq_iff_iff]; simp; omega)), rfl⟩
      · have iab : ¬ (a : Int) = b := by omega
        by_cases c0 : c = 0
        · have ic0 : (c : Int) = 0 := by omega
          go_wp2
          go_meet
          exact ⟨congrArg Value.bool (by first | exact (decide_eq_false (by omega)).symm | (rw [Bool.eq_iff_iff]; simp; omega)), rfl⟩
        · have ic0 : ¬ (c : Int) = 0 := by omega
          by_cases cd : c = d
          · have icd : (c : Int) = d := by omega
            go_wp2
            go_meet
            exact ⟨congrArg Value.bool (by first | exact (decide_eq_true (by omega)).symm | (rw [Bool.eq_iff_iff]; simp; omega)), rfl⟩
          · have icd : ¬ (c : Int) = d := by omega
            go_wp2
            go_meet
            exact ⟨congrArg Value.bool (by first | exact (decide_eq_false (by omega)).symm | (rw [Bool.eq_iff_iff]; simp; omega)), rfl⟩
  case rest =>
  obtain ⟨rfl, rfl⟩ := hcut
  by_cases h7 : ((a ≠ 0 ∧ a = b) ∨ (c ≠ 0 ∧ c = d))
  · rw [decide_eq_true h7]
    obtain rfl : m = false := by rw [← HM.out]; unfold mayR; simp only [List.getD_cons_zero, List.getD_cons_succ]; rw [if_neg HN1.out, if_neg HN3.out, if_neg HZ.out, if_pos h7]
    go_wp2
    go_ret
    exact ⟨rfl, HB.out⟩
  rw [decide_eq_false h7]
  have HN7 := Lib.hid h7; clear h7
  by_cases k1 : k = 1
  · have ik1 : (k : Int) = 1 := by omega
    by_cases b0 : b = 0
    · have ib0 : (b : Int) = 0 := by omega
      by_cases d0 : d = 0
      · have id0 : (d : Int) = 0 := by omega
        obtain rfl : m = true := by rw [← HM.out]; unfold mayR; simp only [List.getD_cons_zero, List.getD_cons_succ]; rw [if_neg HN1.out, if_neg HN3.out, if_neg HZ.out, if_neg HN7.out]; exact decide_eq_true (by omega)
        go_wp2
        go_ret
        exact ⟨rfl, HB.out⟩
      · have id0 : ¬ (d : Int) = 0 := by omega
        have jd0 : ((d : Int) == 0) = false := by simp; omega
        obtain rfl : m = false := by rw [← HM.out]; unfold mayR; simp only [List.getD_cons_zero, List.getD_cons_succ]; rw [if_neg HN1.out, if_neg HN3.out, if_neg HZ.out, if_neg HN7.out]; exact decide_eq_false (by omega)
        go_wp2
        go_ret
        exact ⟨rfl, HB.out⟩
    · have ib0 : ¬ (b : Int) = 0 := by omega
      obtain rfl : m = false := by rw [← HM.out]; unfold mayR; simp only [List.getD_cons_zero, List.getD_cons_succ]; rw [if_neg HN1.out, if_neg HN3.out, if_neg HZ.out, if_neg HN7.out]; exact decide_eq_false (by omega)
      go_wp2
      go_ret
      exact ⟨rfl, HB.out⟩
  · have ik1 : ¬ (k : Int) = 1 := by omega
    obtain rfl : m = true := by rw [← HM.out]; unfold mayR; simp only [List.getD_cons_zero, List.getD_cons_succ]; rw [if_neg HN1.out, if_neg HN3.out, if_neg HZ.out, if_neg HN7.out]; exact decide_eq_true (by omega)
    go_wp2
    go_ret
    exact ⟨rfl, HB.out⟩
end Go.Proofs.YtjgjohdeeeoeoaaGreatDoor
