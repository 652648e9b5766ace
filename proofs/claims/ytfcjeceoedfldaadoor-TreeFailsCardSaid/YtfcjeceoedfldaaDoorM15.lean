/- A shelf of blocks: as plain data, and in memory, by labels. -/
import Derived.Test.YtfcjeceoedfldaaDoorM14
import Derived.Great.BuildSlice
namespace Go.Proofs.YtfcjeceoedfldaaDoor
open Go.RowKit

structure Sh where
  blocks : List Bs
  bad : List Nat
  made : List Pt
  gone : List Pt
  room : Int
  read0 : List Pt
def at0 (p : Pt) : Nat := p.ats.getD 0 0
/-- What is read: the block, the error, the shelf behind it. -/
def rdB (s : Sh) (p : Pt) : Bs := if s.bad.any (fun x => x == at0 p) = true then [] else if at0 p = 0 ∨ s.blocks.length < at0 p then [] else s.blocks.getD (at0 p - 1) []
def rdE (s : Sh) (p : Pt) : Nat := if s.bad.any (fun x => x == at0 p) = true then 21 else if at0 p = 0 ∨ s.blocks.length < at0 p then 6 else 0
def rdS (s : Sh) (p : Pt) : Sh := { s with read0 := s.read0 ++ [p] }
def oldS (s : Sh) (p : Pt) : Sh := { s with gone := s.gone ++ [p] }
/-- A new block's pointer. -/
def bornP (p : Pt) (n : Nat) : Pt := { p with birth := n, ats := [n, 0, 0, 0] }
def newP (p : Pt) (n : Nat) (b : Bs) : Pt := { bornP p n with hash := digest (tagB (bornP p n) ++ b) }
def fullS (s : Sh) : Prop := s.room = 0 ∨ 30000 ≤ s.blocks.length
instance (s : Sh) : Decidable (fullS s) := by unfold fullS; infer_instance
def nwP (s : Sh) (p : Pt) (b : Bs) : Pt := if fullS s then zeroP else newP p (s.blocks.length + 1) b
def nwE (s : Sh) : Nat := if fullS s then 30 else 0
def nwS (s : Sh) (p : Pt) (b : Bs) : Sh := if fullS s then s else { s with room := max (s.room - 1) (-1), blocks := s.blocks ++ [b], made := s.made ++ [newP p (s.blocks.length + 1) b] }
theorem bornP_ok {p : Pt} (h : p.OK) {n : Nat} (hn : n ≤ 30000) : (bornP p n).OK :=
  ⟨h.kind, h.level, h.obj, h.off, by simp only [bornP]; omega, h.hash, rfl, fun x hx => by simp [bornP] at hx; rcases hx with rfl | rfl <;> omega⟩
theorem newP_ok {p : Pt} (h : p.OK) {n : Nat} (hn : n ≤ 30000) (b : Bs) : (newP p n b).OK :=
  ⟨h.kind, h.level, h.obj, h.off, (bornP_ok h hn).birth, digest_length _, rfl, (bornP_ok h hn).ats⟩
theorem nwP_ok {s : Sh} {p : Pt} (h : p.OK) (b : Bs) : (nwP s p b).OK := by
  unfold nwP
  split
  · exact zeroP_ok
  · rename_i hf; unfold fullS at hf; exact newP_ok h (by omega) b

/-- A shelf's slices. -/
structure Sv where
  bl : Value
  bd : Value
  md : Value
  gn : Value
  rd : Value
def scells (v : Sv) (r : Int) : List Value := [v.bl, v.bd, v.md, v.gn, .int .i64 r, v.rd]
/-- A slice of bytes that nobody turns. -/
def BkV (w : World) (L : Nat → Nat) (v : Value) (b : Bs) : Prop := ∃ sp cap, v = .slice sp b.length cap ∧ b.length ≤ cap ∧ (sp = none → cap = 0) ∧ SrcA w sp b ∧ ∀ a, sp = some a → L a.block = 10
/-- Numbers of 16 bits that lie in memory, and that nobody turns. -/
def SrcN (w : World) (L : Nat → Nat) (v : Value) (l : List Nat) : Prop :=
  ∃ sp cap, v = .slice sp l.length cap ∧ l.length ≤ cap ∧ (sp = none → cap = 0) ∧ (0 < l.length → ∃ g o, sp = some ⟨g, o, none⟩ ∧ g < w.heap.size ∧ L g = 10 ∧ ∀ i x, l[i]? = some x → w.cell? ⟨g, o + i, none⟩ = some (U16 x))
def OwnV (w : World) (v : Value) (vs : List Value) : Prop := w.ownsRow 0 41 1 v vs.length vs
/-- L says whose a block is: 1 the shelf, 2 its blocks' row, 3 what was made, 4 what is gone, 5 what was read, 10 what nobody turns, 0 none of these. -/
structure ShAt (w : World) (L : Nat → Nat) (D : Nat) (s : Sh) (v : Sv) : Prop where
  blk : Blk w D (scells v s.room) 30
  ld : L D = 1
  row : ∃ vs, OwnV w v.bl vs ∧ (∀ g, v.bl.ownBlock = some g → L g = 2) ∧ vs.length = s.blocks.length ∧ (∀ (i : Nat) (u : Value) (b : Bs), vs[i]? = some u → s.blocks[i]? = some b → BkV w L u b) ∧ ∀ u ∈ vs, u.oneCell' = true
  bad : SrcN w L v.bd s.bad
  md : OwnM w 0 v.md s.made ∧ ∀ g, v.md.ownBlock = some g → L g = 3
  gn : OwnM w 0 v.gn s.gone ∧ ∀ g, v.gn.ownBlock = some g → L g = 4
  rd : OwnM w 0 v.rd s.read0 ∧ ∀ g, v.rd.ownBlock = some g → L g = 5
  lt : ∀ g, L g ≠ 0 → g < w.heap.size
  okm : ∀ q ∈ s.made, q.OK
  okg : ∀ q ∈ s.gone, q.OK
  okr : ∀ q ∈ s.read0, q.OK
  tab : RTab w ∧ L 0 = 10
def Foot (k : Nat) (L : Nat → Nat) (g : Nat) : Prop := 1 ≤ L g ∧ L g ≤ k
/-- Only what has a label up to k turned; new labels are such, or 10. -/
structure Mv (k : Nat) (L : Nat → Nat) (w : World) (L' : Nat → Nat) (w' : World) : Prop where
  chg : Chg (Foot k L) w w'
  old : ∀ g, g < w.heap.size → L' g = L g
  new : ∀ g, w.heap.size ≤ g → L' g ≤ k ∨ L' g = 10
section
variable {w w' w1 w2 : World} {L L' L1 L2 : Nat → Nat} {k : Nat}
theorem Mv.trans (h : Mv k L w L1 w1) (j : Mv k L1 w1 L2 w2) : Mv k L w L2 w2 :=
  ⟨h.chg.trans j.chg (fun g hg => by
    by_cases hs : g < w.heap.size
    · left
      unfold Foot at *
      rw [← h.old g hs]; exact hg
    · right; omega), fun g hg => (j.old g (Nat.lt_of_lt_of_le hg h.chg.size)).trans (h.old g hg), fun g hg => by
    by_cases hs : g < w1.heap.size
    · rw [j.old g hs]; exact h.new g hg
    · exact j.new g (by omega)⟩
theorem Mv.mono (h : Mv k L w L1 w1) {j : Nat} (hj : k ≤ j) : Mv j L w L1 w1 := ⟨h.chg.mono (fun g hg => ⟨hg.1, Nat.le_trans hg.2 hj⟩), h.old, fun g hg => by rcases h.new g hg with e | e; left; omega; right; exact e⟩
theorem Mv.of_below (h : Below w.heap.size w w') (hl : ∀ g, L g ≠ 0 → g < w.heap.size) : Mv k L w L w' := ⟨Chg.of_below h, fun _ _ => rfl, fun g hg => by left; have := hl g; omega⟩
theorem Mv.size (h : Mv k L w L1 w1) : w.heap.size ≤ w1.heap.size := h.chg.size
/-- What has no label stays. -/
theorem Mv.blk (h : Mv k L w L1 w1) {g : Nat} {cs : List Value} {t : TypeId} (hb : Blk w g cs t) (hg : L g = 0) : Blk w1 g cs t := hb.chg h.chg (fun hf => by unfold Foot at hf; omega)
theorem SrcA.chgF {F : Nat → Prop} {sp : Option Addr} {b : Bs} (h : SrcA w sp b) (hc : Chg F w w') (hn : ∀ a, sp = some a → ¬ F a.block) : SrcA w' sp b := fun h0 => by
  obtain ⟨g, o, e, hg, hcell⟩ := h h0
  refine ⟨g, o, e, Nat.lt_of_lt_of_le hg hc.size, fun j hj => ?_⟩
  rw [World.cell?_of_block (w := w) (a := ⟨g, o + j, none⟩) (hc.block g hg (hn _ e))]
  exact hcell j hj
theorem BkV.chg {F : Nat → Prop} {v : Value} {b : Bs} (h : BkV w L v b) (hc : Chg F w w') (hn : ∀ g, F g → L g ≠ 10) (hL : ∀ g, g < w.heap.size → L' g = L g) (hlt : ∀ g, L g ≠ 0 → g < w.heap.size) : BkV w' L' v b := by
  obtain ⟨sp, cap, e, h1, h2, h3, h4⟩ := h
  exact ⟨sp, cap, e, h1, h2, h3.chgF hc (fun a ha hf => hn _ hf (h4 a ha)), fun a ha => by rw [hL _ (hlt _ (by rw [h4 a ha]; omega))]; exact h4 a ha⟩
theorem SrcN.chg {F : Nat → Prop} {v : Value} {l : List Nat} (h : SrcN w L v l) (hc : Chg F w w') (hn : ∀ g, F g → L g ≠ 10) (hL : ∀ g, g < w.heap.size → L' g = L g) : SrcN w' L' v l := by
  obtain ⟨sp, cap, e, h1, h2, h3⟩ := h
  refine ⟨sp, cap, e, h1, h2, fun h0 => ?_⟩
  obtain ⟨g, o, e1, hg, hl, hcell⟩ := h3 h0
  refine ⟨g, o, e1, Nat.lt_of_lt_of_le hg hc.size, (hL g hg).trans hl, fun i x hx => ?_⟩
  rw [World.cell?_of_block (w := w) (a := ⟨g, o + i, none⟩) (hc.block g hg (fun hf => hn g hf hl))]
  exact hcell i x hx
variable {D : Nat} {s : Sh} {v : Sv}
/-- What isn't the shelf's has turned, and has got labels. -/
theorem ShAt.out {F : Nat → Prop} (h : ShAt w L D s v) (hc : Chg F w w') (hF : ∀ g, F g → g < w.heap.size → L g = 0 ∨ (6 ≤ L g ∧ L g ≤ 9)) (hL : ∀ g, g < w.heap.size → L' g = L g ∨ ((L g = 0 ∨ (6 ≤ L g ∧ L g ≤ 9)) ∧ (L' g = 0 ∨ (6 ≤ L' g ∧ L' g ≤ 9)))) (hlt : ∀ g, L' g ≠ 0 → g < w'.heap.size) : ShAt w' L' D s v := by
  have lab : ∀ g, (1 ≤ L g ∧ L g ≤ 5) ∨ L g = 10 → g < w.heap.size ∧ L' g = L g := fun g hg => by
    have h1 : g < w.heap.size := h.lt g (by omega)
    refine ⟨h1, ?_⟩
    rcases hL g h1 with e | e
    · exact e
    · omega
  have n : ∀ g, (1 ≤ L g ∧ L g ≤ 5) ∨ L g = 10 → ¬ F g := fun g hg hf => by
    have := hF g hf (lab g hg).1
    omega
  have bk : ∀ u b, BkV w L u b → BkV w' L' u b := fun u b ⟨sp, cap, e, h1, h2, h3, h4⟩ =>
    ⟨sp, cap, e, h1, h2, h3.chgF hc (fun a ha => n _ (.inr (h4 a ha))), fun a ha => by rw [(lab _ (.inr (h4 a ha))).2]; exact h4 a ha⟩
  have ow : ∀ {x : Value} {l : List Pt} {j : Nat}, 1 ≤ j → j ≤ 5 → (OwnM w 0 x l ∧ ∀ g, x.ownBlock = some g → L g = j) → (OwnM w' 0 x l ∧ ∀ g, x.ownBlock = some g → L' g = j) := fun h1 h5 ⟨ha, hb⟩ =>
    ⟨owns_chg ha hc (fun g hg => n _ (.inl (by rw [hb g hg]; omega))), fun g hg => by rw [(lab g (.inl (by rw [hb g hg]; omega))).2]; exact hb g hg⟩
  obtain ⟨vs, r1, r2, r3, r4, r5⟩ := h.row
  refine ⟨h.blk.chg hc (n _ (by rw [h.ld]; omega)), by rw [(lab D (by rw [h.ld]; omega)).2]; exact h.ld, ⟨vs, owns_chg r1 hc (fun g hg => n _ (.inl (by rw [r2 g hg]; omega))), fun g hg => by rw [(lab g (.inl (by rw [r2 g hg]; omega))).2]; exact r2 g hg, r3, fun i u b hu hb => bk _ _ (r4 i u b hu hb), r5⟩, ?_, ow (by omega) (by omega) h.md, ow (by omega) (by omega) h.gn, ow (by omega) (by omega) h.rd, hlt, h.okm, h.okg, h.okr, ?_⟩
  · obtain ⟨sp, cap, e, h1, h2, h3⟩ := h.bad
    refine ⟨sp, cap, e, h1, h2, fun h0 => ?_⟩
    obtain ⟨g, o, e1, hg, hl, hcell⟩ := h3 h0
    refine ⟨g, o, e1, Nat.lt_of_lt_of_le hg hc.size, (lab g (.inr hl)).2.trans hl, fun i x hx => ?_⟩
    rw [World.cell?_of_block (w := w) (a := ⟨g, o + i, none⟩) (hc.block g hg (n g (.inr hl)))]
    exact hcell i x hx
  · exact ⟨h.tab.1.of_heap (hc.block _ h.tab.1.lt (n _ (.inr h.tab.2))), by rw [(lab _ (.inr h.tab.2)).2]; exact h.tab.2⟩
theorem ShAt.below (h : ShAt w L D s v) (hb : Below w.heap.size w w') : ShAt w' L D s v := h.out (F := fun _ => False) (Chg.of_below hb) (fun _ hf => hf.elim) (fun _ _ => .inl rfl) (fun g hg => Nat.lt_of_lt_of_le (h.lt g hg) hb.size)
theorem ShAt.drew (h : ShAt w L D s v) : ShAt w.drew L D s v := h.below (Below.refl _ _).drew
theorem ShAt.not (h : ShAt w L D s v) {g : Nat} (hg : w.heap.size ≤ g) : L g = 0 := by have := h.lt g; omega
/-- A call with this shelf left that one. -/
def ShPost (k : Nat) (L : Nat → Nat) (w : World) (D : Nat) (s' : Sh) (w' : World) : Prop := ∃ L' v', ShAt w' L' D s' v' ∧ Mv k L w L' w'
theorem ShPost.below (h : ShAt w L D s v) (hb : Below w.heap.size w w') : ShPost k L w D s w' := ⟨L, v, h.below hb, Mv.of_below hb h.lt⟩
theorem ShPost.mv {s' : Sh} (h : Mv k L w L1 w1) (j : ShPost k L1 w1 D s' w2) : ShPost k L w D s' w2 := by
  obtain ⟨L2, v2, h2, j2⟩ := j
  exact ⟨L2, v2, h2, h.trans j2⟩
theorem ShPost.pre {s' : Sh} (hb : Below w.heap.size w w1) (hl : ∀ g, L g ≠ 0 → g < w.heap.size) (j : ShPost k L w1 D s' w2) : ShPost k L w D s' w2 := ShPost.mv (Mv.of_below hb hl) j
theorem ShPost.post {s' : Sh} (j : ShPost k L w D s' w1) (hb : Below w1.heap.size w1 w2) : ShPost k L w D s' w2 := by
  obtain ⟨L1, v1, h1, j1⟩ := j
  exact ⟨L1, v1, h1.below hb, j1.trans (Mv.of_below hb h1.lt)⟩
end
end Go.Proofs.YtfcjeceoedfldaaDoor
/- What turns of a shelf; its operations by their values; Old. -/
namespace Go.Proofs.YtfcjeceoedfldaaDoor
open Go.RowKit

attribute [local go_sem] Oper.semAt_some

section
variable {w w' : World} {L L' : Nat → Nat} {D : Nat} {s s' : Sh} {v v' : Sv} {F : Nat → Prop}
def RowAt (w : World) (L : Nat → Nat) (x : Value) (bs : List Bs) : Prop :=
  ∃ vs, OwnV w x vs ∧ (∀ g, x.ownBlock = some g → L g = 2) ∧ vs.length = bs.length ∧ (∀ (i : Nat) (u : Value) (b : Bs), vs[i]? = some u → bs[i]? = some b → BkV w L u b) ∧ ∀ u ∈ vs, u.oneCell' = true
theorem owns_lt {w : World} {B e k n g : Nat} {x : Value} {xs : List Value} (h : w.ownsRow B e k x n xs) (hg : x.ownBlock = some g) : g < w.heap.size := (h.lt g hg).2
theorem own_keep {x : Value} {l : List Pt} {i : Nat} (h : OwnM w 0 x l ∧ ∀ g, x.ownBlock = some g → L g = i) (hc : Chg F w w') (hF : ∀ g, F g → L g ≠ i) (hL : ∀ g, g < w.heap.size → L' g = L g) : OwnM w' 0 x l ∧ ∀ g, x.ownBlock = some g → L' g = i :=
  ⟨owns_chg h.1 hc (fun g hg hf => hF g hf (h.2 g hg)), fun g hg => (hL g (owns_lt h.1 hg)).trans (h.2 g hg)⟩
theorem row_keep {x : Value} {bs : List Bs} (h : RowAt w L x bs) (hc : Chg F w w') (hF : ∀ g, F g → L g ≠ 2 ∧ L g ≠ 10) (hL : ∀ g, g < w.heap.size → L' g = L g) (hlt : ∀ g, L g ≠ 0 → g < w.heap.size) : RowAt w' L' x bs := by
  obtain ⟨vs, h1, h2, h3, h4, h5⟩ := h
  exact ⟨vs, owns_chg h1 hc (fun g hg hf => (hF g hf).1 (h2 g hg)), fun g hg => (hL g (owns_lt h1 hg)).trans (h2 g hg), h3, fun i u b hu hb => (h4 i u b hu hb).chg hc (fun g hg => (hF g hg).2) hL hlt, h5⟩
theorem ShAt.step (h : ShAt w L D s v) (hc : Chg F w w') (hF : ∀ g, F g → L g ≠ 10) (hL : ∀ g, g < w.heap.size → L' g = L g) (hlt : ∀ g, L' g ≠ 0 → g < w'.heap.size) (hblk : Blk w' D (scells v' s'.room) 30) (hrow : RowAt w' L' v'.bl s'.blocks) (hbad : s'.bad = s.bad ∧ v'.bd = v.bd)
    (hmd : OwnM w' 0 v'.md s'.made ∧ ∀ g, v'.md.ownBlock = some g → L' g = 3) (hgn : OwnM w' 0 v'.gn s'.gone ∧ ∀ g, v'.gn.ownBlock = some g → L' g = 4) (hrd : OwnM w' 0 v'.rd s'.read0 ∧ ∀ g, v'.rd.ownBlock = some g → L' g = 5)
    (okm : ∀ q ∈ s'.made, q.OK) (okg : ∀ q ∈ s'.gone, q.OK) (okr : ∀ q ∈ s'.read0, q.OK) : ShAt w' L' D s' v' :=
  ⟨hblk, by rw [hL D h.blk.lt]; exact h.ld, hrow, by rw [hbad.1, hbad.2]; exact h.bad.chg hc hF hL, hmd, hgn, hrd, hlt, okm, okg, okr,
    ⟨h.tab.1.of_heap (hc.block _ h.tab.1.lt (fun hf => hF _ hf h.tab.2)), by rw [hL _ h.tab.1.lt]; exact h.tab.2⟩⟩
/-- The labels behind a row that may be another one. -/
def setL (L : Nat → Nat) (u : Value) (j : Nat) : Nat → Nat := fun g => if u.ownBlock = some g then j else L g
theorem setL_at {L : Nat → Nat} {u : Value} {j g : Nat} (h : u.ownBlock = some g) : setL L u j g = j := if_pos h
theorem setL_old {u u' : Value} {j g : Nat} (hu : ∀ g, u.ownBlock = some g → L g = j) (hn : ∀ g, u'.ownBlock = some g → u.ownBlock = some g ∨ w.heap.size ≤ g) (hg : g < w.heap.size) : setL L u' j g = L g := by
  unfold setL
  split
  · rename_i e
    rcases hn g e with h1 | h1
    · exact (hu g h1).symm
    · omega
  · rfl
theorem setL_lt {u : Value} {j : Nat} (h : ∀ g, L g ≠ 0 → g < w'.heap.size) (hu : ∀ g, u.ownBlock = some g → g < w'.heap.size) : ∀ g, setL L u j g ≠ 0 → g < w'.heap.size := fun g hg => by
  unfold setL at hg
  split at hg
  · rename_i e; exact hu g e
  · exact h g hg
theorem Mv.app {u u' : Value} {j k : Nat} (h1 : 1 ≤ j) (hj : j ≤ k) (hk : 1 ≤ k) (hD : 1 ≤ L D ∧ L D ≤ k) (hu : ∀ g, u.ownBlock = some g → L g = j) (hn : ∀ g, u'.ownBlock = some g → u.ownBlock = some g ∨ w.heap.size ≤ g) (hlt : ∀ g, L g ≠ 0 → g < w.heap.size) (hc : Chg (fun g => g = D ∨ u.ownBlock = some g) w w') : Mv k L w (setL L u' j) w' :=
  ⟨hc.mono (fun g hg => by
    rcases hg with rfl | hg
    · exact hD
    · unfold Foot; rw [hu g hg]; exact ⟨h1, hj⟩), fun g hg => setL_old hu hn hg, fun g hg => by
    unfold setL
    split
    · exact .inl hj
    · left; have := hlt g; omega⟩
/-- The world behind an append to a row that stands in a cell of D. -/
theorem app_world {w w2 w3 : World} {u u' : Value} {l : List Pt} {p : Pt} {D : Nat} {cs : List Value} {t : TypeId} {k : Nat} (hw2 : Below w.heap.size w w2) (ho : OwnM w 0 u l) (hb : Blk w D cs t) (hg : w2.grownBy w3 u.ownBlock) (hnD : u.ownBlock ≠ some D) (hn : u'.ownBlock = u.ownBlock ∨ u'.ownBlock = some w2.heap.size) (ho3 : OwnM w3 0 u' (l ++ [p])) :
    Blk (w3.setCell ⟨D, k, none⟩ u') D (cs.set k u') t ∧ Chg (fun g => g = D ∨ u.ownBlock = some g) w (w3.setCell ⟨D, k, none⟩ u') ∧ OwnM (w3.setCell ⟨D, k, none⟩ u') 0 u' (l ++ [p]) ∧ (∀ g, u'.ownBlock = some g → u.ownBlock = some g ∨ w.heap.size ≤ g) ∧ ∀ g, u'.ownBlock = some g → g < (w3.setCell ⟨D, k, none⟩ u').heap.size := by
  have hc3 : Chg (fun g => g = D ∨ u.ownBlock = some g) w w3 := (Chg.of_below hw2).grown hg (fun g hg => .inl (.inr hg))
  have hDlt := hb.lt
  have hb3 : Blk w3 D cs t := by
    refine hb.chg (((Chg.refl (fun g => u.ownBlock = some g) w).trans' (Chg.of_below hw2)).grown hg (fun g hg => .inl hg)) hnD
  have hnD' : u'.ownBlock ≠ some D := by
    rcases hn with e | e
    · rw [e]; exact hnD
    · rw [e]; intro h; have := hw2.size; injection h; omega
  refine ⟨hb3.set k u', hc3.setCell (.inl (.inl rfl)) k u', ?_, fun g hg' => ?_, fun g hg' => ?_⟩
  · exact owns_chg ho3 (chg1 w3 D k u') (fun g hg' e => hnD' (by rw [← e]; exact hg'))
  · rcases hn with e | e
    · left; rw [← e]; exact hg'
    · right; rw [e] at hg'; have := hw2.size; injection hg'; omega
  · have := owns_lt ho3 hg'
    simpa [World.setCell] using this
end
/-- All orders come to one and the same. -/
theorem wp_join {c : Code} {Q : Exit → Act → World → Prop} {a : Act} {w : World} (h : ∃ A W, c.wp Tryd.prog (fun e a w => e = .normal ∧ a = A ∧ w = W) a w ∧ Q .normal A W) : c.wp Tryd.prog Q a w := by
  obtain ⟨A, W, h1, h2⟩ := h
  exact Code.wp_mono (fun e a w ⟨e1, e2, e3⟩ => by subst e1 e2 e3; exact h2) h1
section
variable {ops : Array Oper} {Q : Exit → Act → World → Prop} {S : World → Prop}
/-- A store. -/
theorem wpG_st {i : Nat} {r : Tr} {a : Act} {w : World} (o : Oper) (hi : ops.toList[i]? = some o) (hw : Region.wanted o (yielded ops a.tmps) = true) (w1 : World) (hrun : (execOp a.eval o).run Tryd.prog w = .ok .skip w1)
    (S' : World → Prop) (hS : S' w1) (hS2 : ∀ w, S' w → S w) (h : wpG Tryd.prog ops Q r S' (a.put o.dst undef) w1) : wpG Tryd.prog ops Q (.step i r) S a w := by
  show wpOp Tryd.prog ops Q i _ a w
  unfold wpOp
  simp only [of_list hi]
  rw [if_pos hw]
  refine .inl ?_
  unfold Oper.wp
  rw [hrun]
  exact ⟨hS2 _ hS, S', hS2, hS, h⟩
end
section
variable {ρ : Operand → Value} {o : Oper} {x y : Operand} {w : World}
theorem ex_faS {b j : Nat} (hj : j < 6) (ho : o.op = .fieldAddr 30 x j) (hx : ρ x = .pointer (some ⟨b, 0, none⟩)) : (execOp ρ o).run Tryd.prog w = .ok (.value (.pointer (some ⟨b, j, none⟩))) w := by
  unfold execOp
  simp only [ho]
  match j, hj with
  | 0, _ | 1, _ | 2, _ | 3, _ | 4, _ | 5, _ => go_simp
theorem ex_nc {b j : Nat} (ho : o.op = .nilCheck x) (hx : ρ x = .pointer (some ⟨b, j, none⟩)) : (execOp ρ o).run Tryd.prog w = .ok (.value (.pointer (some ⟨b, j, none⟩))) w := by
  unfold execOp
  simp only [ho]
  go_simp
theorem ex_ldPs {ad : Addr} {v : Value} (ho : o.op = .load 28 x) (hx : ρ x = .pointer (some ad)) (hc : w.cell? ad = some v) : (execOp ρ o).run Tryd.prog w = .ok (.value v) w := by
  unfold execOp; simp only [ho]; go_simp
theorem ex_appP {v u v' : Value} {w w' : World} (ho : o.op = .call { callee := .builtin .append, args := #[x, y], argTypes := #[28, 28] }) (hx : ρ x = v) (hy : ρ y = u)
    (hr : (Builtin.append_ #[28, 28] o.type #[v, u]).run Tryd.prog w = .ok v' w') : (execOp ρ o).run Tryd.prog w = .ok (.value v') w' := by
  unfold execOp
  simp only [ho, resolve, invoke, builtin, Sem.run_bind, Sem.run_pure, Result.andThen_ok, List.map_toArray, List.map_cons, List.map_nil, hx, hy, hr]
theorem ex_stPs {ad : Addr} {v u : Value} (ho : o.op = .store 28 x y) (hx : ρ x = .pointer (some ad)) (hy : ρ y = v) (hv : ∃ sp n cap, v = .slice sp n cap) (hc : w.cell? ad = some u) (hf : w.frozen? ad = false) :
    (execOp ρ o).run Tryd.prog w = .ok .skip (w.setCell ad v) := by
  obtain ⟨sp, n, cap, rfl⟩ := hv
  unfold execOp
  simp only [ho]
  go_simp
end
end Go.Proofs.YtfcjeceoedfldaaDoor
/- The shelf's Old. -/
namespace Go.Proofs.YtfcjeceoedfldaaDoor
open Go.RowKit

attribute [local go_sem] Oper.semAt_some

theorem fold_splice (off : Nat) (vs : List Value) (cs : Array Value) (h : off + vs.length ≤ cs.size) : (vs.zipIdx 0).foldl (fun cs (x : Value × Nat) => cs.setIfInBounds (off + x.2) x.1) cs = (splice cs.toList off vs).toArray := by
  obtain ⟨h1, h2⟩ := Go.Great.foldl_set off vs 0 cs
  apply Array.ext_getElem?
  intro k
  rw [h2 k]
  simp only [List.getElem?_toArray, splice, Nat.add_zero]
  by_cases hk : k < off
  · rw [if_neg (by omega), List.getElem?_append_left (by simp; omega), List.getElem?_take, if_pos hk]
    simp
  · rw [List.getElem?_append_right (by simp; omega)]
    have e : (cs.toList.take off).length = off := by simp; omega
    rw [e]
    by_cases hk2 : k < off + vs.length
    · rw [if_pos (by omega), List.getElem?_append_left (by omega)]
    · rw [if_neg (by omega), List.getElem?_append_right (by omega), List.getElem?_drop]
      rw [show off + vs.length + (k - off - vs.length) = k by omega]
      simp
theorem fill_whole {pl : Nat → Option (Nat × Nat)} {cells : Array Value} {size : Nat} {v : Value} (hp : pl 0 = some (0, size)) (hv : v.cells.size = size) (hle : cells.size = size) :
    Instr.fill pl cells [(0, v)] = some v.cells := by
  have hf := fold_splice 0 v.cells.toList cells (by simp; omega)
  unfold Instr.fill
  simp only [hp]
  rw [if_neg (by simp [hv]; omega)]
  unfold Instr.fill
  congr 1
  have e : splice cells.toList 0 v.cells.toList = v.cells.toList := by
    unfold splice
    rw [List.drop_of_length_le (by simp; omega)]
    simp
  rw [e] at hf
  rw [← Array.foldl_toList]
  simpa using hf
theorem q_one (p : Pt) {ρ : Operand → Value} {o : Oper} {x : Operand} {w : World} (ho : o.op = .buildSlice 28 1 #[(0, x)]) (hx : ρ x = .agg (pcells p).toArray) (hp : p.OK) :
    (execOp ρ o).run Tryd.prog w = .ok (.value (.slice (some ⟨w.heap.size, 0, none⟩) 1 1)) (w.alloc (.cells (pcells p).toArray 37)) := by
  obtain ⟨i, z, hi, hz, hzs, his, _⟩ := info_partsPt
  have hr := run_buildSlice (P := Tryd.prog) w 28 37 1 #[(0, .agg (pcells p).toArray)] (pcells p).toArray i z Tryd.underlying28 hi hz (by rw [his]; omega) (by rw [his]; omega)
    (fill_whole (size := 41) (by simp [his]) (by simp [Value.cells, pcells_length hp]) (by simp [his]))
  unfold execOp
  simp only [ho]
  rw [show (Array.map (fun x : Nat × Operand => (x.1, ρ x.2)) #[(0, x)]) = #[(0, .agg (pcells p).toArray)] by simp [hx]]
  simp only [Sem.run_bind, hr, Result.andThen_ok]
  rfl

/-- An append of a pointer to a row of pointers in a cell of D, from the world W on. -/
theorem app_here {W : World} {u : Value} {l : List Pt} {p : Pt} {D : Nat} {cs : List Value} {t : TypeId} {k : Nat} (ho : OwnM W 0 u l) (hb : Blk W D cs t) (hnD : u.ownBlock ≠ some D) (hp : p.OK) (hl : l.length < 1000000) (hk : k < cs.length) :
    ∃ v3 w3, (Builtin.append_ #[28, 28] 28 #[u, .slice (some ⟨W.drew.heap.size, 0, none⟩) 1 1]).run Tryd.prog (W.drew.alloc (.cells (pcells p).toArray 37)) = .ok v3 w3 ∧ (∃ sp n cap, v3 = .slice sp n cap) ∧ (∃ c, w3.cell? ⟨D, k, none⟩ = some c) ∧ w3.frozen? ⟨D, k, none⟩ = false ∧
      (∀ {g : Nat} {cs' : List Value} {t' : TypeId}, Blk W g cs' t' → u.ownBlock ≠ some g → Blk w3 g cs' t' ∧ (g ≠ D → Blk (w3.setCell ⟨D, k, none⟩ v3) g cs' t')) ∧
      Blk (w3.setCell ⟨D, k, none⟩ v3) D (cs.set k v3) t ∧ Chg (fun g => g = D ∨ u.ownBlock = some g) W (w3.setCell ⟨D, k, none⟩ v3) ∧ OwnM (w3.setCell ⟨D, k, none⟩ v3) 0 v3 (l ++ [p]) ∧ (∀ g, v3.ownBlock = some g → u.ownBlock = some g ∨ W.heap.size ≤ g) ∧ ∀ g, v3.ownBlock = some g → g < (w3.setCell ⟨D, k, none⟩ v3).heap.size := by
  have hw2 : Below W.heap.size W (W.drew.alloc (.cells (pcells p).toArray 37)) := (Below.refl _ _).drew.alloc (Nat.le_refl _) _
  have ho2 : OwnM (W.drew.alloc (.cells (pcells p).toArray 37)) 0 u l := owns_chg ho (Chg.of_below (F := fun _ => False) hw2) (fun _ _ h => h)
  have hnew : Blk (W.drew.alloc (.cells (pcells p).toArray 37)) W.drew.heap.size (pcells p) 37 := Blk.new _ _ _
  obtain ⟨v3, w3, hr, ho3, hg3, hn3⟩ := ownM_app (w := W.drew.alloc (.cells (pcells p).toArray 37)) (p := p) (adr := ⟨W.drew.heap.size, 0, none⟩) (c := 1) ho2 (Nat.zero_le _) hl hp (fun j x hj => by rw [Addr.add_mid, Nat.zero_add]; exact hnew.cell hj) 28
  obtain ⟨h1, h2, h3, h4, h5⟩ := app_world (k := k) hw2 ho hb hg3 hnD hn3 ho3
  have hoth : ∀ {g : Nat} {cs' : List Value} {t' : TypeId}, Blk W g cs' t' → u.ownBlock ≠ some g → Blk w3 g cs' t' := fun hb' hng => hb'.chg (((Chg.refl (fun g => u.ownBlock = some g) W).trans' (Chg.of_below hw2)).grown hg3 (fun g hg => .inl hg)) hng
  have hbD := hoth hb hnD
  refine ⟨v3, w3, hr, ?_, hbD.has k hk, hbD.free k, fun hb' hng => ⟨hoth hb' hng, fun hne => (hoth hb' hng).other (a := ⟨D, k, none⟩) hne v3⟩, h1, h2, h3, h4, h5⟩
  rcases ho3.2 with ⟨e, _⟩ | ⟨g, cap, cur, e, _⟩
  · exact ⟨_, _, _, e⟩
  · exact ⟨_, _, _, e⟩

theorem ShAt.notD {w : World} {L : Nat → Nat} {D : Nat} {s : Sh} {v : Sv} (h : ShAt w L D s v) {x : Value} {j : Nat} (hx : ∀ g, x.ownBlock = some g → L g = j) (hj : j ≠ 1) : x.ownBlock ≠ some D := fun e => by
  have := hx D e; rw [h.ld] at this; omega
/-- Behind an append to what is gone. -/
theorem ShAt.gone {w w' : World} {L : Nat → Nat} {D : Nat} {s : Sh} {v : Sv} {p : Pt} {v3 : Value} (h : ShAt w L D s v) (hp : p.OK) (h1 : Blk w' D ((scells v s.room).set 3 v3) 30) (h2 : Chg (fun g => g = D ∨ v.gn.ownBlock = some g) w w') (h3 : OwnM w' 0 v3 (s.gone ++ [p]))
    (h4 : ∀ g, v3.ownBlock = some g → v.gn.ownBlock = some g ∨ w.heap.size ≤ g) (h5 : ∀ g, v3.ownBlock = some g → g < w'.heap.size) : ShPost 5 L w D (oldS s p) w' := by
  have hF : ∀ g, (g = D ∨ v.gn.ownBlock = some g) → L g = 1 ∨ L g = 4 := fun g hg => by
    rcases hg with rfl | hg
    · exact .inl h.ld
    · exact .inr (h.gn.2 g hg)
  have hL : ∀ g, g < w.heap.size → setL L v3 4 g = L g := fun g hg => setL_old h.gn.2 h4 hg
  refine ⟨setL L v3 4, { v with gn := v3 }, h.step h2 (fun g hg => by rcases hF g hg with e | e <;> omega) hL (setL_lt (fun g hg => Nat.lt_of_lt_of_le (h.lt g hg) h2.size) h5) h1 (row_keep h.row h2 (fun g hg => by rcases hF g hg with e | e <;> omega) hL h.lt) ⟨rfl, rfl⟩
    (own_keep h.md h2 (fun g hg => by rcases hF g hg with e | e <;> omega) hL) ⟨h3, fun g hg => setL_at hg⟩ (own_keep h.rd h2 (fun g hg => by rcases hF g hg with e | e <;> omega) hL) h.okm (fun q hq => ?_) h.okr, Mv.app (by omega) (by omega) (by omega) (by rw [h.ld]; omega) h.gn.2 h4 h.lt h2⟩
  simp only [oldS, List.mem_append, List.mem_singleton] at hq
  rcases hq with hq | rfl
  · exact h.okg q hq
  · exact hp
/-- .. to what was read. -/
theorem ShAt.readd {w w' : World} {L : Nat → Nat} {D : Nat} {s : Sh} {v : Sv} {p : Pt} {v3 : Value} (h : ShAt w L D s v) (hp : p.OK) (h1 : Blk w' D ((scells v s.room).set 5 v3) 30) (h2 : Chg (fun g => g = D ∨ v.rd.ownBlock = some g) w w') (h3 : OwnM w' 0 v3 (s.read0 ++ [p]))
    (h4 : ∀ g, v3.ownBlock = some g → v.rd.ownBlock = some g ∨ w.heap.size ≤ g) (h5 : ∀ g, v3.ownBlock = some g → g < w'.heap.size) : ShAt w' (setL L v3 5) D (rdS s p) { v with rd := v3 } ∧ Mv 5 L w (setL L v3 5) w' := by
  have hF : ∀ g, (g = D ∨ v.rd.ownBlock = some g) → L g = 1 ∨ L g = 5 := fun g hg => by
    rcases hg with rfl | hg
    · exact .inl h.ld
    · exact .inr (h.rd.2 g hg)
  have hL : ∀ g, g < w.heap.size → setL L v3 5 g = L g := fun g hg => setL_old h.rd.2 h4 hg
  refine ⟨h.step h2 (fun g hg => by rcases hF g hg with e | e <;> omega) hL (setL_lt (fun g hg => Nat.lt_of_lt_of_le (h.lt g hg) h2.size) h5) h1 (row_keep h.row h2 (fun g hg => by rcases hF g hg with e | e <;> omega) hL h.lt) ⟨rfl, rfl⟩
    (own_keep h.md h2 (fun g hg => by rcases hF g hg with e | e <;> omega) hL) (own_keep h.gn h2 (fun g hg => by rcases hF g hg with e | e <;> omega) hL) ⟨h3, fun g hg => setL_at hg⟩ h.okm h.okg (fun q hq => ?_), Mv.app (by omega) (by omega) (by omega) (by rw [h.ld]; omega) h.rd.2 h4 h.lt h2⟩
  simp only [rdS, List.mem_append, List.mem_singleton] at hq
  rcases hq with hq | rfl
  · exact h.okr q hq
  · exact hp
/-- .. to what was made. -/
theorem ShAt.madee {w w' : World} {L : Nat → Nat} {D : Nat} {s : Sh} {v : Sv} {p : Pt} {v3 : Value} (h : ShAt w L D s v) (hp : p.OK) (h1 : Blk w' D ((scells v s.room).set 2 v3) 30) (h2 : Chg (fun g => g = D ∨ v.md.ownBlock = some g) w w') (h3 : OwnM w' 0 v3 (s.made ++ [p]))
    (h4 : ∀ g, v3.ownBlock = some g → v.md.ownBlock = some g ∨ w.heap.size ≤ g) (h5 : ∀ g, v3.ownBlock = some g → g < w'.heap.size) : ShPost 5 L w D { s with made := s.made ++ [p] } w' := by
  have hF : ∀ g, (g = D ∨ v.md.ownBlock = some g) → L g = 1 ∨ L g = 3 := fun g hg => by
    rcases hg with rfl | hg
    · exact .inl h.ld
    · exact .inr (h.md.2 g hg)
  have hL : ∀ g, g < w.heap.size → setL L v3 3 g = L g := fun g hg => setL_old h.md.2 h4 hg
  refine ⟨setL L v3 3, { v with md := v3 }, h.step (s' := { s with made := s.made ++ [p] }) h2 (fun g hg => by rcases hF g hg with e | e <;> omega) hL (setL_lt (fun g hg => Nat.lt_of_lt_of_le (h.lt g hg) h2.size) h5) h1 (row_keep h.row h2 (fun g hg => by rcases hF g hg with e | e <;> omega) hL h.lt) ⟨rfl, rfl⟩
    ⟨h3, fun g hg => setL_at hg⟩ (own_keep h.gn h2 (fun g hg => by rcases hF g hg with e | e <;> omega) hL) (own_keep h.rd h2 (fun g hg => by rcases hF g hg with e | e <;> omega) hL) (fun q hq => ?_) h.okg h.okr, Mv.app (by omega) (by omega) (by omega) (by rw [h.ld]; omega) h.md.2 h4 h.lt h2⟩
  simp only [List.mem_append, List.mem_singleton] at hq
  rcases hq with hq | rfl
  · exact h.okm q hq
  · exact hp
/-- The same, where what turned is new. -/
theorem shOld_any {w : World} {L : Nat → Nat} {D : Nat} {s : Sh} {v : Sv} (p : Pt) (hp : p.OK) (h : ShAt w L D s v) (hl : s.gone.length < 1000000) : Calls Tryd.prog 93 #[.pointer (some ⟨D, 0, none⟩), .agg (pcells p).toArray] w fun e w' => e = .returned (.tuple #[]) ∧ ShPost 5 L w D (oldS s p) w' := by
  have HPO := Lib.hid hp
  have hw1 : Below w.heap.size w (w.alloc (.cells (pcells p).toArray 37)) := (Below.refl _ _).alloc (Nat.le_refl _) _
  have H1 := Lib.hid (h.below hw1)
  have HB : Hid (Blk (w.alloc (.cells (pcells p).toArray 37)) w.heap.size (pcells p) 37) := Lib.hid (Blk.new _ _ _)
  have HLT := Lib.hid h.lt
  have HL := Lib.hid hl
  have HQ : Hid (∀ w', ShPost 5 L (w.alloc (.cells (pcells p).toArray 37)) D (oldS s p) w' → ShPost 5 L w D (oldS s p) w') := Lib.hid fun w' h2 => ShPost.pre hw1 h.lt h2
  generalize hPost : (fun e w' => e = Ending.returned (.tuple #[]) ∧ ShPost 5 L w D (oldS s p) w') = Post
  have HP : Hid (∀ w', ShPost 5 L (w.alloc (.cells (pcells p).toArray 37)) D (oldS s p) w' → Post (.returned (.tuple #[])) w') := Lib.hid fun w' h2 => by rw [← hPost]; exact ⟨rfl, HQ.out w' h2⟩
  clear h hp hl hw1 HQ hPost
  go_enter Tryd.func93, Tryd.ntmps93
  go_upto_region 1 with fail
  obtain ⟨G, hG⟩ : ∃ G, w.heap.size = G := ⟨_, rfl⟩
  rw [hG] at HB ⊢
  generalize (w.alloc (.cells (pcells p).toArray 37)) = W at H1 HB HP ⊢
  have hnD := H1.out.notD H1.out.gn.2 (by omega)
  have hGn : v.gn.ownBlock ≠ some G := fun e => by have h1 := H1.out.gn.2 G e; have := HLT.out G (by omega); omega
  have hGD : G ≠ D := fun e => by have h1 := H1.out.ld; rw [← e] at h1; have := HLT.out G (by omega); omega
  obtain ⟨v3, w3, hr, hsl, ⟨_, hcell⟩, hfree, hoth, k1, k2, k3, k4, k5⟩ := app_here (k := 3) H1.out.gn.1 H1.out.blk hnD HPO.out HL.out (by simp [scells])
  have hS3 := (hoth HB.out hGn).1
  have hS4 := (hoth HB.out hGn).2 hGD
  have HEND := Lib.hid (HP.out _ (H1.out.gone HPO.out k1 k2 k3 k4 k5))
  clear k1 k2 k3 k4 k5 hoth HP
  have hc1 : W.drew.cell? ⟨D, 3, none⟩ = some v.gn := H1.out.blk.cell rfl
  have hc2 : (W.drew.alloc (.cells (pcells p).toArray 37)).cell? ⟨D, 3, none⟩ = some v.gn := (H1.out.blk.drew.alloc _).cell rfl
  have hS2 : Blk (W.drew.alloc (.cells (pcells p).toArray 37)) G (pcells p) 37 := HB.out.drew.alloc _
  obtain ⟨W2, hW2⟩ : ∃ W2, W.drew.alloc (.cells (pcells p).toArray 37) = W2 := ⟨_, rfl⟩
  have hone : ∀ {ρ : Operand → Value} {o : Oper} {x : Operand}, o.op = .buildSlice 28 1 #[(0, x)] → ρ x = .agg (pcells p).toArray → (execOp ρ o).run Tryd.prog W.drew = .ok (.value (.slice (some ⟨W.drew.heap.size, 0, none⟩) 1 1)) W2 := fun h1 h2 => by rw [← hW2]; exact q_one p h1 h2 HPO.out
  rw [hW2] at hr hc2 hS2
  refine wp_join ?_
  apply Exists.intro
  apply Exists.intro
  constructor
  · refine wp_region_sched (.take 0 (.take 1 (.take 2 (.take 3 (.take 5 (.fork 4 (.step 6 (.step 7 (.take 8 (.take 9 (.step 10 (.nil)))))) 6 (.step 4 (.step 7 (.take 8 (.take 9 (.step 10 (.nil)))))))))))) (by kernel_rfl) (by kernel_rfl) (fun d _ _ _ _ h => by cases h.1) (fun X => Blk X G (pcells p) 37) (HB.out.drew) ?_
    refine wpG_take _ (.pointer (some ⟨D, 0, none⟩)) rfl (by rfl) (fun X hX => by first | rfl | go_simp) ?_
    (try simp only [Act.put, List.setIfInBounds_toArray, List.set_cons_zero, List.set_cons_succ])
    refine wpG_take _ (.pointer (some ⟨D, 0, none⟩)) rfl (by rfl) (fun X hX => by first | rfl | go_simp) ?_
    (try simp only [Act.put, List.setIfInBounds_toArray, List.set_cons_zero, List.set_cons_succ])
    refine wpG_take _ (.pointer (some ⟨D, 0, none⟩)) rfl (by rfl) (fun X hX => ex_nc rfl rfl) ?_
    (try simp only [Act.put, List.setIfInBounds_toArray, List.set_cons_zero, List.set_cons_succ])
    refine wpG_take _ (.pointer (some ⟨D, 3, none⟩)) rfl (by rfl) (fun X hX => ex_faS (by omega) rfl rfl) ?_
    (try simp only [Act.put, List.setIfInBounds_toArray, List.set_cons_zero, List.set_cons_succ])
    refine wpG_take _ (.agg (pcells p).toArray) rfl (by rfl) (fun X hX => ex_ldP HPO.out hX rfl rfl) ?_
    (try simp only [Act.put, List.setIfInBounds_toArray, List.set_cons_zero, List.set_cons_succ])
    refine wpG_fork (wpG_mk _ rfl (by rfl) v.gn W.drew (ex_ldPs rfl rfl hc1) (fun X => Blk X G (pcells p) 37) (HB.out.drew) (fun _ h => h) ?_) ?_
    (try simp only [Act.put, List.setIfInBounds_toArray, List.set_cons_zero, List.set_cons_succ])
    refine wpG_mk _ rfl (by rfl) (.slice (some ⟨W.drew.heap.size, 0, none⟩) 1 1) W2 (hone rfl rfl) (fun X => Blk X G (pcells p) 37) hS2 (fun _ h => h) ?_
    (try simp only [Act.put, List.setIfInBounds_toArray, List.set_cons_zero, List.set_cons_succ])
    rotate_left
    refine wpG_mk _ rfl (by rfl) (.slice (some ⟨W.drew.heap.size, 0, none⟩) 1 1) W2 (hone rfl rfl) (fun X => Blk X G (pcells p) 37) hS2 (fun _ h => h) ?_
    (try simp only [Act.put, List.setIfInBounds_toArray, List.set_cons_zero, List.set_cons_succ])
    refine wpG_mk _ rfl (by rfl) v.gn W2 (ex_ldPs rfl rfl hc2) (fun X => Blk X G (pcells p) 37) hS2 (fun _ h => h) ?_
    (try simp only [Act.put, List.setIfInBounds_toArray, List.set_cons_zero, List.set_cons_succ])
    all_goals
      refine wpG_mk _ rfl (by rfl) v3 w3 (ex_appP rfl rfl rfl hr) (fun X => Blk X G (pcells p) 37) hS3 (fun _ h => h) ?_
      (try simp only [Act.put, List.setIfInBounds_toArray, List.set_cons_zero, List.set_cons_succ])
      refine wpG_take _ (.pointer (some ⟨D, 0, none⟩)) rfl (by rfl) (fun X hX => ex_nc rfl rfl) ?_
      (try simp only [Act.put, List.setIfInBounds_toArray, List.set_cons_zero, List.set_cons_succ])
      refine wpG_take _ (.pointer (some ⟨D, 3, none⟩)) rfl (by rfl) (fun X hX => ex_faS (by omega) rfl rfl) ?_
      (try simp only [Act.put, List.setIfInBounds_toArray, List.set_cons_zero, List.set_cons_succ])
      refine wpG_st _ rfl (by rfl) (w3.setCell ⟨D, 3, none⟩ v3) (ex_stPs rfl rfl rfl hsl hcell hfree) (fun X => Blk X G (pcells p) 37) hS4 (fun _ h => h) ?_
      refine wpG_nil ?_
      exact ⟨rfl, rfl, rfl⟩
  clear hcell hfree hS3 hS4 hr hc1 hc2 hS2 hone hW2 hsl
  go_wp2_with fail
  go_end0
  exact HEND.out
end Go.Proofs.YtfcjeceoedfldaaDoor
