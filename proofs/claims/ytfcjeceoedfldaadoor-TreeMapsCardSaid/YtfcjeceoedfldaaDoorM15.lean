/- Pointers that came in; the tables as they are laid. -/
import Derived.Test.YtfcjeceoedfldaaDoorM05
import Derived.Test.YtfcjeceoedfldaaDoorM07
import Derived.Test.YtfcjeceoedfldaaDoorM14
import Derived.ProofKit
import Derived.LaidMore
import Derived.OpenShut
import Derived.Stop.Joined
namespace Go.Proofs.YtfcjeceoedfldaaDoor
open Go.ChangeShapes Go.WideShapes Go.ChangeAt Go.WideMaps Go.WideElems Go.RowKit

theorem tRu : (Tryd.prog.globals[0]?).map (·.type) = some 91 := by kernel_rfl
theorem cellsRu : Tryd.prog.cellsOf 82 = 3 := by kernel_rfl
theorem cellsRus : Tryd.prog.cellsOf 91 = 18 := by kernel_rfl
theorem cellsInt : Tryd.prog.cellsOf 3 = 1 := by kernel_rfl
section
variable {H : Type} {enc : TypeId × Value → H} {W : World} {spare : Nat → Bool} {held : Bool} {b' : Nat}
theorem three {α : Type} : ∀ cs : List α, cs.length = 3 → ∃ a b c, cs = [a, b, c]
  | [a, b, c], _ => ⟨a, b, c, rfl⟩
set_option maxRecDepth 100000 in
theorem trod_rule {fuel : Nat} {cs : List Value} {x : DataW H × List MemPlace} (h : DataW.trod enc Tryd.prog W b' spare held fuel 82 cs = some x) : ∃ a b c, cs = [.int .i64 a, .int .u8 b, .int .u8 c] ∧ x.1 = .agg [.lit (.int .i64 a), .lit (.int .u8 b), .lit (.int .u8 c)] := by
  obtain ⟨xs, k, _, rfl, hl, hxl, hfl⟩ := DataW.trod_struct Tryd.underlying82 h
  rw [cellsRu] at hl
  obtain ⟨c0, c1, c2, rfl⟩ := three cs hl
  match xs, hxl with
  | [y0, y1, y2], _ =>
    have g0 := hfl 0 _ rfl
    have g1 := hfl 1 _ rfl
    have g2 := hfl 2 _ rfl
    simp [cellsB, cellsInt] at g0 g1 g2
    obtain ⟨z0, e0, f0, _⟩ := DataW.trod_int Tryd.underlying3 g0
    obtain ⟨z1, e1, f1, _⟩ := DataW.trod_int Tryd.underlying5 g1
    obtain ⟨z2, e2, f2, _⟩ := DataW.trod_int Tryd.underlying5 g2
    refine ⟨z0, z1, z2, ?_, ?_⟩
    · simp at e0 e1 e2
      rw [e0, e1, e2]
    · rw [f0, f1, f2]; rfl
theorem cut18 (cs : List Value) (hl : cs.length = 18) : cs = cs.take 3 ++ ((cs.drop 3).take 3 ++ ((cs.drop 6).take 3 ++ ((cs.drop 9).take 3 ++ ((cs.drop 12).take 3 ++ (cs.drop 15).take 3)))) := by
  have g : ∀ n m, (cs.drop n).take m ++ cs.drop (n + m) = cs.drop n := fun n m => by rw [← List.drop_drop, List.take_append_drop]
  have h1 : (cs.drop 15).take 3 = cs.drop 15 := List.take_of_length_le (by simp [hl])
  rw [h1, g 12 3, g 9 3, g 6 3, g 3 3, List.take_append_drop]
set_option maxRecDepth 100000 in
theorem trod_rules {fuel : Nat} {cs : List Value} {x : DataW H × List MemPlace} (h : DataW.trod enc Tryd.prog W b' spare held fuel 91 cs = some x) (hx : x.1 = Rows.laid_kintsugi_ptr_rules) : cs = (List.range 6).flatMap rcell := by
  obtain ⟨xs, m, rfl, rfl, hl, hn, hel⟩ := DataW.trod_array Tryd.underlying91 h
  rw [cellsRus] at hl
  rw [cellsRu] at hel
  match xs, hn with
  | [y0, y1, y2, y3, y4, y5], _ =>
    obtain ⟨a0, b0, c0, e0, f0⟩ := trod_rule (x := y0) (hel 0 (by omega))
    obtain ⟨a1, b1, c1, e1, f1⟩ := trod_rule (x := y1) (hel 1 (by omega))
    obtain ⟨a2, b2, c2, e2, f2⟩ := trod_rule (x := y2) (hel 2 (by omega))
    obtain ⟨a3, b3, c3, e3, f3⟩ := trod_rule (x := y3) (hel 3 (by omega))
    obtain ⟨a4, b4, c4, e4, f4⟩ := trod_rule (x := y4) (hel 4 (by omega))
    obtain ⟨a5, b5, c5, e5, f5⟩ := trod_rule (x := y5) (hel 5 (by omega))
    simp only [List.map_cons, List.map_nil, f0, f1, f2, f3, f4, f5, Rows.laid_kintsugi_ptr_rules, DataW.agg.injEq, List.cons.injEq, DataW.lit.injEq, Lit.int.injEq, true_and, and_true] at hx
    rw [cut18 cs hl]
    simp only [Nat.zero_mul, List.drop_zero] at e0
    rw [e0, e1, e2, e3, e4, e5]
    obtain ⟨⟨rfl, rfl, rfl⟩, ⟨rfl, rfl, rfl⟩, ⟨rfl, rfl, rfl⟩, ⟨rfl, rfl, rfl⟩, ⟨rfl, rfl, rfl⟩, ⟨rfl, rfl, rfl⟩⟩ := hx
    rfl
end
theorem row_of {W : World} {n : String} {g : Nat} {cs : Array Value} (hg : Tryd.prog.globalNamed n = some g) (hv : W.var? Tryd.prog n = some cs) : ∃ t fr, W.heap[g]? = some (.cells cs t fr) := by
  unfold World.var? at hv
  rw [hg] at hv
  simp only [Option.bind_some] at hv
  split at hv
  · rename_i cs' t fr hh
    obtain rfl := Option.some.inj hv
    exact ⟨t, fr, hh⟩
  · cases hv
end Go.Proofs.YtfcjeceoedfldaaDoor
/- A shelf of blocks: as plain data, and in memory, by labels. -/
namespace Go.Proofs.YtfcjeceoedfldaaDoor
open Go.RowKit

structure Sh where
  blocks : List Bs
  bad : List Nat
  made : List Pt
  gone : List Pt
  room : Int
  read0 : List Pt
def at0 (p : Pt) : Nat := p.ats.getD 0 0
/-- What is read: the block, the error, the shelf behind it. -/
def rdB (s : Sh) (p : Pt) : Bs := if s.bad.any (fun x => x == at0 p) = true then [] else if at0 p = 0 ∨ s.blocks.length < at0 p then [] else s.blocks.getD (at0 p - 1) []
def rdE (s : Sh) (p : Pt) : Nat := if s.bad.any (fun x => x == at0 p) = true then 21 else if at0 p = 0 ∨ s.blocks.length < at0 p then 6 else 0
def rdS (s : Sh) (p : Pt) : Sh := { s with read0 := s.read0 ++ [p] }
def oldS (s : Sh) (p : Pt) : Sh := { s with gone := s.gone ++ [p] }
/-- A new block's pointer. -/
def bornP (p : Pt) (n : Nat) : Pt := { p with birth := n, ats := [n, 0, 0, 0] }
def newP (p : Pt) (n : Nat) (b : Bs) : Pt := { bornP p n with hash := digest (tagB (bornP p n) ++ b) }
def fullS (s : Sh) : Prop := s.room = 0 ∨ 30000 ≤ s.blocks.length
instance (s : Sh) : Decidable (fullS s) := by unfold fullS; infer_instance
def nwP (s : Sh) (p : Pt) (b : Bs) : Pt := if fullS s then zeroP else newP p (s.blocks.length + 1) b
def nwE (s : Sh) : Nat := if fullS s then 30 else 0
def nwS (s : Sh) (p : Pt) (b : Bs) : Sh := if fullS s then s else { s with room := max (s.room - 1) (-1), blocks := s.blocks ++ [b], made := s.made ++ [newP p (s.blocks.length + 1) b] }
theorem bornP_ok {p : Pt} (h : p.OK) {n : Nat} (hn : n ≤ 30000) : (bornP p n).OK :=
  ⟨h.kind, h.level, h.obj, h.off, by simp only [bornP]; omega, h.hash, rfl, fun x hx => by simp [bornP] at hx; rcases hx with rfl | rfl <;> omega⟩
theorem newP_ok {p : Pt} (h : p.OK) {n : Nat} (hn : n ≤ 30000) (b : Bs) : (newP p n b).OK :=
  ⟨h.kind, h.level, h.obj, h.off, (bornP_ok h hn).birth, digest_length _, rfl, (bornP_ok h hn).ats⟩
theorem nwP_ok {s : Sh} {p : Pt} (h : p.OK) (b : Bs) : (nwP s p b).OK := by
  unfold nwP
  split
  · exact zeroP_ok
  · rename_i hf; unfold fullS at hf; exact newP_ok h (by omega) b

/-- A shelf's slices. -/
structure Sv where
  bl : Value
  bd : Value
  md : Value
  gn : Value
  rd : Value
def scells (v : Sv) (r : Int) : List Value := [v.bl, v.bd, v.md, v.gn, .int .i64 r, v.rd]
/-- A slice of bytes that nobody turns. -/
def BkV (w : World) (L : Nat → Nat) (v : Value) (b : Bs) : Prop := ∃ sp cap, v = .slice sp b.length cap ∧ b.length ≤ cap ∧ (sp = none → cap = 0) ∧ SrcA w sp b ∧ ∀ a, sp = some a → L a.block = 10
/-- Numbers of 16 bits that lie in memory, and that nobody turns. -/
def SrcN (w : World) (L : Nat → Nat) (v : Value) (l : List Nat) : Prop :=
  ∃ sp cap, v = .slice sp l.length cap ∧ l.length ≤ cap ∧ (sp = none → cap = 0) ∧ (0 < l.length → ∃ g o, sp = some ⟨g, o, none⟩ ∧ g < w.heap.size ∧ L g = 10 ∧ ∀ i x, l[i]? = some x → w.cell? ⟨g, o + i, none⟩ = some (U16 x))
def OwnV (w : World) (v : Value) (vs : List Value) : Prop := w.ownsRow 0 41 1 v vs.length vs
/-- L says whose a block is: 1 the shelf, 2 its blocks' row, 3 what was made, 4 what is gone, 5 what was read, 10 what nobody turns, 0 none of these. -/
structure ShAt (w : World) (L : Nat → Nat) (D : Nat) (s : Sh) (v : Sv) : Prop where
  blk : Blk w D (scells v s.room) 30
  ld : L D = 1
  row : ∃ vs, OwnV w v.bl vs ∧ (∀ g, v.bl.ownBlock = some g → L g = 2) ∧ vs.length = s.blocks.length ∧ (∀ (i : Nat) (u : Value) (b : Bs), vs[i]? = some u → s.blocks[i]? = some b → BkV w L u b) ∧ ∀ u ∈ vs, u.oneCell' = true
  bad : SrcN w L v.bd s.bad
  md : OwnM w 0 v.md s.made ∧ ∀ g, v.md.ownBlock = some g → L g = 3
  gn : OwnM w 0 v.gn s.gone ∧ ∀ g, v.gn.ownBlock = some g → L g = 4
  rd : OwnM w 0 v.rd s.read0 ∧ ∀ g, v.rd.ownBlock = some g → L g = 5
  lt : ∀ g, L g ≠ 0 → g < w.heap.size
  okm : ∀ q ∈ s.made, q.OK
  okg : ∀ q ∈ s.gone, q.OK
  okr : ∀ q ∈ s.read0, q.OK
  tab : RTab w ∧ L 0 = 10
def Foot (k : Nat) (L : Nat → Nat) (g : Nat) : Prop := 1 ≤ L g ∧ L g ≤ k
/-- Only what has a label up to k turned; new labels are such, or 10. -/
structure Mv (k : Nat) (L : Nat → Nat) (w : World) (L' : Nat → Nat) (w' : World) : Prop where
  chg : Chg (Foot k L) w w'
  old : ∀ g, g < w.heap.size → L' g = L g
  new : ∀ g, w.heap.size ≤ g → L' g ≤ k ∨ L' g = 10
section
variable {w w' w1 w2 : World} {L L' L1 L2 : Nat → Nat} {k : Nat}
theorem Mv.trans (h : Mv k L w L1 w1) (j : Mv k L1 w1 L2 w2) : Mv k L w L2 w2 :=
  ⟨h.chg.trans j.chg (fun g hg => by
    by_cases hs : g < w.heap.size
    · left
      unfold Foot at *
      rw [← h.old g hs]; exact hg
    · right; omega), fun g hg => (j.old g (Nat.lt_of_lt_of_le hg h.chg.size)).trans (h.old g hg), fun g hg => by
    by_cases hs : g < w1.heap.size
    · rw [j.old g hs]; exact h.new g hg
    · exact j.new g (by omega)⟩
theorem Mv.mono (h : Mv k L w L1 w1) {j : Nat} (hj : k ≤ j) : Mv j L w L1 w1 := ⟨h.chg.mono (fun g hg => ⟨hg.1, Nat.le_trans hg.2 hj⟩), h.old, fun g hg => by rcases h.new g hg with e | e; left; omega; right; exact e⟩
theorem Mv.of_below (h : Below w.heap.size w w') (hl : ∀ g, L g ≠ 0 → g < w.heap.size) : Mv k L w L w' := ⟨Chg.of_below h, fun _ _ => rfl, fun g hg => by left; have := hl g; omega⟩
theorem Mv.size (h : Mv k L w L1 w1) : w.heap.size ≤ w1.heap.size := h.chg.size
/-- What has no label stays. -/
theorem Mv.blk (h : Mv k L w L1 w1) {g : Nat} {cs : List Value} {t : TypeId} (hb : Blk w g cs t) (hg : L g = 0) : Blk w1 g cs t := hb.chg h.chg (fun hf => by unfold Foot at hf; omega)
theorem SrcA.chgF {F : Nat → Prop} {sp : Option Addr} {b : Bs} (h : SrcA w sp b) (hc : Chg F w w') (hn : ∀ a, sp = some a → ¬ F a.block) : SrcA w' sp b := fun h0 => by
  obtain ⟨g, o, e, hg, hcell⟩ := h h0
  refine ⟨g, o, e, Nat.lt_of_lt_of_le hg hc.size, fun j hj => ?_⟩
  rw [World.cell?_of_block (w := w) (a := ⟨g, o + j, none⟩) (hc.block g hg (hn _ e))]
  exact hcell j hj
theorem BkV.chg {F : Nat → Prop} {v : Value} {b : Bs} (h : BkV w L v b) (hc : Chg F w w') (hn : ∀ g, F g → L g ≠ 10) (hL : ∀ g, g < w.heap.size → L' g = L g) (hlt : ∀ g, L g ≠ 0 → g < w.heap.size) : BkV w' L' v b := by
  obtain ⟨sp, cap, e, h1, h2, h3, h4⟩ := h
  exact ⟨sp, cap, e, h1, h2, h3.chgF hc (fun a ha hf => hn _ hf (h4 a ha)), fun a ha => by rw [hL _ (hlt _ (by rw [h4 a ha]; omega))]; exact h4 a ha⟩
theorem SrcN.chg {F : Nat → Prop} {v : Value} {l : List Nat} (h : SrcN w L v l) (hc : Chg F w w') (hn : ∀ g, F g → L g ≠ 10) (hL : ∀ g, g < w.heap.size → L' g = L g) : SrcN w' L' v l := by
  obtain ⟨sp, cap, e, h1, h2, h3⟩ := h
  refine ⟨sp, cap, e, h1, h2, fun h0 => ?_⟩
  obtain ⟨g, o, e1, hg, hl, hcell⟩ := h3 h0
  refine ⟨g, o, e1, Nat.lt_of_lt_of_le hg hc.size, (hL g hg).trans hl, fun i x hx => ?_⟩
  rw [World.cell?_of_block (w := w) (a := ⟨g, o + i, none⟩) (hc.block g hg (fun hf => hn g hf hl))]
  exact hcell i x hx
variable {D : Nat} {s : Sh} {v : Sv}
/-- What isn't the shelf's has turned, and has got labels. -/
theorem ShAt.out {F : Nat → Prop} (h : ShAt w L D s v) (hc : Chg F w w') (hF : ∀ g, F g → g < w.heap.size → L g = 0 ∨ (6 ≤ L g ∧ L g ≤ 9)) (hL : ∀ g, g < w.heap.size → L' g = L g ∨ ((L g = 0 ∨ (6 ≤ L g ∧ L g ≤ 9)) ∧ (L' g = 0 ∨ (6 ≤ L' g ∧ L' g ≤ 9)))) (hlt : ∀ g, L' g ≠ 0 → g < w'.heap.size) : ShAt w' L' D s v := by
  have lab : ∀ g, (1 ≤ L g ∧ L g ≤ 5) ∨ L g = 10 → g < w.heap.size ∧ L' g = L g := fun g hg => by
    have h1 : g < w.heap.size := h.lt g (by omega)
    refine ⟨h1, ?_⟩
    rcases hL g h1 with e | e
    · exact e
    · omega
  have n : ∀ g, (1 ≤ L g ∧ L g ≤ 5) ∨ L g = 10 → ¬ F g := fun g hg hf => by
    have := hF g hf (lab g hg).1
    omega
  have bk : ∀ u b, BkV w L u b → BkV w' L' u b := fun u b ⟨sp, cap, e, h1, h2, h3, h4⟩ =>
    ⟨sp, cap, e, h1, h2, h3.chgF hc (fun a ha => n _ (.inr (h4 a ha))), fun a ha => by rw [(lab _ (.inr (h4 a ha))).2]; exact h4 a ha⟩
  have ow : ∀ {x : Value} {l : List Pt} {j : Nat}, 1 ≤ j → j ≤ 5 → (OwnM w 0 x l ∧ ∀ g, x.ownBlock = some g → L g = j) → (OwnM w' 0 x l ∧ ∀ g, x.ownBlock = some g → L' g = j) := fun h1 h5 ⟨ha, hb⟩ =>
    ⟨owns_chg ha hc (fun g hg => n _ (.inl (by rw [hb g hg]; omega))), fun g hg => by rw [(lab g (.inl (by rw [hb g hg]; omega))).2]; exact hb g hg⟩
  obtain ⟨vs, r1, r2, r3, r4, r5⟩ := h.row
  refine ⟨h.blk.chg hc (n _ (by rw [h.ld]; omega)), by rw [(lab D (by rw [h.ld]; omega)).2]; exact h.ld, ⟨vs, owns_chg r1 hc (fun g hg => n _ (.inl (by rw [r2 g hg]; omega))), fun g hg => by rw [(lab g (.inl (by rw [r2 g hg]; omega))).2]; exact r2 g hg, r3, fun i u b hu hb => bk _ _ (r4 i u b hu hb), r5⟩, ?_, ow (by omega) (by omega) h.md, ow (by omega) (by omega) h.gn, ow (by omega) (by omega) h.rd, hlt, h.okm, h.okg, h.okr, ?_⟩
  · obtain ⟨sp, cap, e, h1, h2, h3⟩ := h.bad
    refine ⟨sp, cap, e, h1, h2, fun h0 => ?_⟩
    obtain ⟨g, o, e1, hg, hl, hcell⟩ := h3 h0
    refine ⟨g, o, e1, Nat.lt_of_lt_of_le hg hc.size, (lab g (.inr hl)).2.trans hl, fun i x hx => ?_⟩
    rw [World.cell?_of_block (w := w) (a := ⟨g, o + i, none⟩) (hc.block g hg (n g (.inr hl)))]
    exact hcell i x hx
  · exact ⟨h.tab.1.of_heap (hc.block _ h.tab.1.lt (n _ (.inr h.tab.2))), by rw [(lab _ (.inr h.tab.2)).2]; exact h.tab.2⟩
theorem ShAt.below (h : ShAt w L D s v) (hb : Below w.heap.size w w') : ShAt w' L D s v := h.out (F := fun _ => False) (Chg.of_below hb) (fun _ hf => hf.elim) (fun _ _ => .inl rfl) (fun g hg => Nat.lt_of_lt_of_le (h.lt g hg) hb.size)
theorem ShAt.drew (h : ShAt w L D s v) : ShAt w.drew L D s v := h.below (Below.refl _ _).drew
theorem ShAt.not (h : ShAt w L D s v) {g : Nat} (hg : w.heap.size ≤ g) : L g = 0 := by have := h.lt g; omega
/-- A call with this shelf left that one. -/
def ShPost (k : Nat) (L : Nat → Nat) (w : World) (D : Nat) (s' : Sh) (w' : World) : Prop := ∃ L' v', ShAt w' L' D s' v' ∧ Mv k L w L' w'
theorem ShPost.below (h : ShAt w L D s v) (hb : Below w.heap.size w w') : ShPost k L w D s w' := ⟨L, v, h.below hb, Mv.of_below hb h.lt⟩
theorem ShPost.mv {s' : Sh} (h : Mv k L w L1 w1) (j : ShPost k L1 w1 D s' w2) : ShPost k L w D s' w2 := by
  obtain ⟨L2, v2, h2, j2⟩ := j
  exact ⟨L2, v2, h2, h.trans j2⟩
theorem ShPost.pre {s' : Sh} (hb : Below w.heap.size w w1) (hl : ∀ g, L g ≠ 0 → g < w.heap.size) (j : ShPost k L w1 D s' w2) : ShPost k L w D s' w2 := ShPost.mv (Mv.of_below hb hl) j
theorem ShPost.post {s' : Sh} (j : ShPost k L w D s' w1) (hb : Below w1.heap.size w1 w2) : ShPost k L w D s' w2 := by
  obtain ⟨L1, v1, h1, j1⟩ := j
  exact ⟨L1, v1, h1.below hb, j1.trans (Mv.of_below hb h1.lt)⟩
end
end Go.Proofs.YtfcjeceoedfldaaDoor
/- What turns of a shelf; its operations by their values; Old. -/
namespace Go.Proofs.YtfcjeceoedfldaaDoor
open Go.RowKit

attribute [local go_sem] Oper.semAt_some

section
variable {w w' : World} {L L' : Nat → Nat} {D : Nat} {s s' : Sh} {v v' : Sv} {F : Nat → Prop}
def RowAt (w : World) (L : Nat → Nat) (x : Value) (bs : List Bs) : Prop :=
  ∃ vs, OwnV w x vs ∧ (∀ g, x.ownBlock = some g → L g = 2) ∧ vs.length = bs.length ∧ (∀ (i : Nat) (u : Value) (b : Bs), vs[i]? = some u → bs[i]? = some b → BkV w L u b) ∧ ∀ u ∈ vs, u.oneCell' = true
theorem owns_lt {w : World} {B e k n g : Nat} {x : Value} {xs : List Value} (h : w.ownsRow B e k x n xs) (hg : x.ownBlock = some g) : g < w.heap.size := (h.lt g hg).2
theorem own_keep {x : Value} {l : List Pt} {i : Nat} (h : OwnM w 0 x l ∧ ∀ g, x.ownBlock = some g → L g = i) (hc : Chg F w w') (hF : ∀ g, F g → L g ≠ i) (hL : ∀ g, g < w.heap.size → L' g = L g) : OwnM w' 0 x l ∧ ∀ g, x.ownBlock = some g → L' g = i :=
  ⟨owns_chg h.1 hc (fun g hg hf => hF g hf (h.2 g hg)), fun g hg => (hL g (owns_lt h.1 hg)).trans (h.2 g hg)⟩
theorem row_keep {x : Value} {bs : List Bs} (h : RowAt w L x bs) (hc : Chg F w w') (hF : ∀ g, F g → L g ≠ 2 ∧ L g ≠ 10) (hL : ∀ g, g < w.heap.size → L' g = L g) (hlt : ∀ g, L g ≠ 0 → g < w.heap.size) : RowAt w' L' x bs := by
  obtain ⟨vs, h1, h2, h3, h4, h5⟩ := h
  exact ⟨vs, owns_chg h1 hc (fun g hg hf => (hF g hf).1 (h2 g hg)), fun g hg => (hL g (owns_lt h1 hg)).trans (h2 g hg), h3, fun i u b hu hb => (h4 i u b hu hb).chg hc (fun g hg => (hF g hg).2) hL hlt, h5⟩
theorem ShAt.step (h : ShAt w L D s v) (hc : Chg F w w') (hF : ∀ g, F g → L g ≠ 10) (hL : ∀ g, g < w.heap.size → L' g = L g) (hlt : ∀ g, L' g ≠ 0 → g < w'.heap.size) (hblk : Blk w' D (scells v' s'.room) 30) (hrow : RowAt w' L' v'.bl s'.blocks) (hbad : s'.bad = s.bad ∧ v'.bd = v.bd)
    (hmd : OwnM w' 0 v'.md s'.made ∧ ∀ g, v'.md.ownBlock = some g → L' g = 3) (hgn : OwnM w' 0 v'.gn s'.gone ∧ ∀ g, v'.gn.ownBlock = some g → L' g = 4) (hrd : OwnM w' 0 v'.rd s'.read0 ∧ ∀ g, v'.rd.ownBlock = some g → L' g = 5)
    (okm : ∀ q ∈ s'.made, q.OK) (okg : ∀ q ∈ s'.gone, q.OK) (okr : ∀ q ∈ s'.read0, q.OK) : ShAt w' L' D s' v' :=
  ⟨hblk, by rw [hL D h.blk.lt]; exact h.ld, hrow, by rw [hbad.1, hbad.2]; exact h.bad.chg hc hF hL, hmd, hgn, hrd, hlt, okm, okg, okr,
    ⟨h.tab.1.of_heap (hc.block _ h.tab.1.lt (fun hf => hF _ hf h.tab.2)), by rw [hL _ h.tab.1.lt]; exact h.tab.2⟩⟩
/-- The labels behind a row that may be another one. -/
def setL (L : Nat → Nat) (u : Value) (j : Nat) : Nat → Nat := fun g => if u.ownBlock = some g then j else L g
theorem setL_at {L : Nat → Nat} {u : Value} {j g : Nat} (h : u.ownBlock = some g) : setL L u j g = j := if_pos h
theorem setL_old {u u' : Value} {j g : Nat} (hu : ∀ g, u.ownBlock = some g → L g = j) (hn : ∀ g, u'.ownBlock = some g → u.ownBlock = some g ∨ w.heap.size ≤ g) (hg : g < w.heap.size) : setL L u' j g = L g := by
  unfold setL
  split
  · rename_i e
    rcases hn g e with h1 | h1
    · exact (hu g h1).symm
    · omega
  · rfl
theorem setL_lt {u : Value} {j : Nat} (h : ∀ g, L g ≠ 0 → g < w'.heap.size) (hu : ∀ g, u.ownBlock = some g → g < w'.heap.size) : ∀ g, setL L u j g ≠ 0 → g < w'.heap.size := fun g hg => by
  unfold setL at hg
  split at hg
  · rename_i e; exact hu g e
  · exact h g hg
theorem Mv.app {u u' : Value} {j k : Nat} (h1 : 1 ≤ j) (hj : j ≤ k) (hk : 1 ≤ k) (hD : 1 ≤ L D ∧ L D ≤ k) (hu : ∀ g, u.ownBlock = some g → L g = j) (hn : ∀ g, u'.ownBlock = some g → u.ownBlock = some g ∨ w.heap.size ≤ g) (hlt : ∀ g, L g ≠ 0 → g < w.heap.size) (hc : Chg (fun g => g = D ∨ u.ownBlock = some g) w w') : Mv k L w (setL L u' j) w' :=
  ⟨hc.mono (fun g hg => by
    rcases hg with rfl | hg
    · exact hD
    · unfold Foot; rw [hu g hg]; exact ⟨h1, hj⟩), fun g hg => setL_old hu hn hg, fun g hg => by
    unfold setL
    split
    · exact .inl hj
    · left; have := hlt g; omega⟩
/-- The world behind an append to a row that stands in a cell of D. -/
theorem app_world {w w2 w3 : World} {u u' : Value} {l : List Pt} {p : Pt} {D : Nat} {cs : List Value} {t : TypeId} {k : Nat} (hw2 : Below w.heap.size w w2) (ho : OwnM w 0 u l) (hb : Blk w D cs t) (hg : w2.grownBy w3 u.ownBlock) (hnD : u.ownBlock ≠ some D) (hn : u'.ownBlock = u.ownBlock ∨ u'.ownBlock = some w2.heap.size) (ho3 : OwnM w3 0 u' (l ++ [p])) :
    Blk (w3.setCell ⟨D, k, none⟩ u') D (cs.set k u') t ∧ Chg (fun g => g = D ∨ u.ownBlock = some g) w (w3.setCell ⟨D, k, none⟩ u') ∧ OwnM (w3.setCell ⟨D, k, none⟩ u') 0 u' (l ++ [p]) ∧ (∀ g, u'.ownBlock = some g → u.ownBlock = some g ∨ w.heap.size ≤ g) ∧ ∀ g, u'.ownBlock = some g → g < (w3.setCell ⟨D, k, none⟩ u').heap.size := by
  have hc3 : Chg (fun g => g = D ∨ u.ownBlock = some g) w w3 := (Chg.of_below hw2).grown hg (fun g hg => .inl (.inr hg))
  have hDlt := hb.lt
  have hb3 : Blk w3 D cs t := by
    refine hb.chg (((Chg.refl (fun g => u.ownBlock = some g) w).trans' (Chg.of_below hw2)).grown hg (fun g hg => .inl hg)) hnD
  have hnD' : u'.ownBlock ≠ some D := by
    rcases hn with e | e
    · rw [e]; exact hnD
    · rw [e]; intro h; have := hw2.size; injection h; omega
  refine ⟨hb3.set k u', hc3.setCell (.inl (.inl rfl)) k u', ?_, fun g hg' => ?_, fun g hg' => ?_⟩
  · exact owns_chg ho3 (chg1 w3 D k u') (fun g hg' e => hnD' (by rw [← e]; exact hg'))
  · rcases hn with e | e
    · left; rw [← e]; exact hg'
    · right; rw [e] at hg'; have := hw2.size; injection hg'; omega
  · have := owns_lt ho3 hg'
    simpa [World.setCell] using this
end
/-- All orders come to one and the same. -/
theorem wp_join {c : Code} {Q : Exit → Act → World → Prop} {a : Act} {w : World} (h : ∃ A W, c.wp Tryd.prog (fun e a w => e = .normal ∧ a = A ∧ w = W) a w ∧ Q .normal A W) : c.wp Tryd.prog Q a w := by
  obtain ⟨A, W, h1, h2⟩ := h
  exact Code.wp_mono (fun e a w ⟨e1, e2, e3⟩ => by subst e1 e2 e3; exact h2) h1
section
variable {ops : Array Oper} {Q : Exit → Act → World → Prop} {S : World → Prop}
/-- A store. -/
theorem wpG_st {i : Nat} {r : Tr} {a : Act} {w : World} (o : Oper) (hi : ops.toList[i]? = some o) (hw : Region.wanted o (yielded ops a.tmps) = true) (w1 : World) (hrun : (execOp a.eval o).run Tryd.prog w = .ok .skip w1)
    (S' : World → Prop) (hS : S' w1) (hS2 : ∀ w, S' w → S w) (h : wpG Tryd.prog ops Q r S' (a.put o.dst undef) w1) : wpG Tryd.prog ops Q (.step i r) S a w := by
  show wpOp Tryd.prog ops Q i _ a w
  unfold wpOp
  simp only [of_list hi]
  rw [if_pos hw]
  refine .inl ?_
  unfold Oper.wp
  rw [hrun]
  exact ⟨hS2 _ hS, S', hS2, hS, h⟩
end
section
variable {ρ : Operand → Value} {o : Oper} {x y : Operand} {w : World}
theorem ex_faS {b j : Nat} (hj : j < 6) (ho : o.op = .fieldAddr 30 x j) (hx : ρ x = .pointer (some ⟨b, 0, none⟩)) : (execOp ρ o).run Tryd.prog w = .ok (.value (.pointer (some ⟨b, j, none⟩))) w := by
  unfold execOp
  simp only [ho]
  match j, hj with
  | 0, _ | 1, _ | 2, _ | 3, _ | 4, _ | 5, _ => go_simp
theorem ex_nc {b j : Nat} (ho : o.op = .nilCheck x) (hx : ρ x = .pointer (some ⟨b, j, none⟩)) : (execOp ρ o).run Tryd.prog w = .ok (.value (.pointer (some ⟨b, j, none⟩))) w := by
  unfold execOp
  simp only [ho]
  go_simp
theorem ex_ldPs {ad : Addr} {v : Value} (ho : o.op = .load 28 x) (hx : ρ x = .pointer (some ad)) (hc : w.cell? ad = some v) : (execOp ρ o).run Tryd.prog w = .ok (.value v) w := by
  unfold execOp; simp only [ho]; go_simp
theorem ex_appP {v u v' : Value} {w w' : World} (ho : o.op = .call { callee := .builtin .append, args := #[x, y], argTypes := #[28, 28] }) (hx : ρ x = v) (hy : ρ y = u)
    (hr : (Builtin.append_ #[28, 28] o.type #[v, u]).run Tryd.prog w = .ok v' w') : (execOp ρ o).run Tryd.prog w = .ok (.value v') w' := by
  unfold execOp
  simp only [ho, resolve, invoke, builtin, Sem.run_bind, Sem.run_pure, Result.andThen_ok, List.map_toArray, List.map_cons, List.map_nil, hx, hy, hr]
theorem ex_stPs {ad : Addr} {v u : Value} (ho : o.op = .store 28 x y) (hx : ρ x = .pointer (some ad)) (hy : ρ y = v) (hv : ∃ sp n cap, v = .slice sp n cap) (hc : w.cell? ad = some u) (hf : w.frozen? ad = false) :
    (execOp ρ o).run Tryd.prog w = .ok .skip (w.setCell ad v) := by
  obtain ⟨sp, n, cap, rfl⟩ := hv
  unfold execOp
  simp only [ho]
  go_simp
end
end Go.Proofs.YtfcjeceoedfldaaDoor
