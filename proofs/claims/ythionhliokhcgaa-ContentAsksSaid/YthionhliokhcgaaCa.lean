/- Content: what lies in memory; what its calls turn. -/
import Derived.Test.YthionhliokhcgaaSl
import Derived.Test.YthionhliokhcgaaChg
import Derived.Deep.MidRow
import Derived.Maps.AppendAt
import Derived.Handy
import Derived.RangeFuncWrites
namespace Go.Proofs.Ythionhliokhcgaa
open Go.RowKit

abbrev B8 := List (BitVec 8)
abbrev U32v (x : Nat) : Value := .int .u32 (x : Int)
abbrev OwnQ (w : World) (B : Nat) (v : Value) (l : List Nat) : Prop := w.ownsRow B 34 1 v l.length (l.map U32v)
theorem c_owns_chg {F : Nat → Prop} {w w' : World} {B e k n : Nat} {v : Value} {xs : List Value} (h : w.ownsRow B e k v n xs) (hc : Chg F w w') (hn : ∀ g, v.ownBlock = some g → ¬ F g) : w'.ownsRow B e k v n xs := by
  refine ⟨h.1, ?_⟩
  rcases h.2 with hx | ⟨g, cap, cur, rfl, hb, hgg, rest⟩
  · exact .inl hx
  · refine .inr ⟨g, cap, cur, rfl, hb, ?_, rest⟩
    rw [hc.block g (Array.getElem?_eq_some_iff.1 hgg).1 (hn g rfl)]
    exact hgg
theorem c_owns_lt {w : World} {B e k n g : Nat} {x : Value} {xs : List Value} (h : w.ownsRow B e k x n xs) (hg : x.ownBlock = some g) : g < w.heap.size := (h.lt g hg).2
theorem c_owns_lo {w : World} {B e k n g : Nat} {x : Value} {xs : List Value} (h : w.ownsRow B e k x n xs) (hg : x.ownBlock = some g) : B ≤ g := (h.lt g hg).1
theorem c_owns_form {w : World} {B e k n : Nat} {x : Value} {xs : List Value} (h : w.ownsRow B e k x n xs) : ∃ sp cap, x = .slice sp n cap ∧ n ≤ cap ∧ cap ≤ maxLen ∧ (0 < n → ∃ g, sp = some ⟨g, 0, none⟩ ∧ g < w.heap.size ∧ x.ownBlock = some g) := by
  rcases h.2 with ⟨rfl, hn⟩ | ⟨g, cap, cur, rfl, _, hgg, hc, hm, _⟩
  · exact ⟨none, 0, by rw [hn], by omega, by unfold maxLen; omega, fun h0 => by omega⟩
  · exact ⟨_, cap, rfl, hc, hm, fun _ => ⟨g, rfl, (Array.getElem?_eq_some_iff.1 hgg).1, rfl⟩⟩
/-- The block that a row lies in has the row's type. -/
theorem c_owns_ty {w : World} {B e k n : Nat} {v : Value} {xs : List Value} (h : w.ownsRow B e k v n xs) {g : Nat} (hg : v.ownBlock = some g) : ∃ cs, Blk w g cs e := by
  rcases h.2 with ⟨rfl, _⟩ | ⟨a, cap, cur, rfl, _, ha, _⟩
  · cases hg
  · have e1 : a = g := by injection hg
    subst e1
    exact ⟨cur.toList, by unfold Blk; simpa using ha⟩
theorem c_own_ne {w : World} {B e k n : Nat} {v : Value} {xs : List Value} (h : w.ownsRow B e k v n xs) {g : Nat} {cs : List Value} {t : TypeId} (hb : Blk w g cs t) (ht : t ≠ e) : v.ownBlock ≠ some g := fun hg => by
  obtain ⟨cs', h'⟩ := c_owns_ty h hg
  exact ht (hb.same h')
theorem c_own_ty {w : World} {B e e' k k' n n' : Nat} {B' : Nat} {v v' : Value} {xs xs' : List Value} (h : w.ownsRow B e k v n xs) (h' : w.ownsRow B' e' k' v' n' xs') (hne : e ≠ e') {g : Nat} (hg : v.ownBlock = some g) : v'.ownBlock ≠ some g := by
  obtain ⟨cs, hb⟩ := c_owns_ty h hg
  exact c_own_ne h' hb hne
theorem c_val {ops : Array Oper} {rest : List Oper} {o : Oper} {a : Act} {Q : Exit → Act → World → Prop} {w w' : World} {v : Value} (hg : o.guard = none) (hrun : (execOp a.eval o).run Try.prog w = .ok (.value v) w')
    (hK : wpList Try.prog ops Q rest (a.put o.dst v) w') : wpList Try.prog ops Q (o :: rest) a w := by
  refine wpList_plain hg fun K' hK' => ?_
  unfold Oper.wp
  rw [hrun]
  exact hK' _ _ hK
theorem c_valG {ops : Array Oper} {rest : List Oper} {o : Oper} {a : Act} {Q : Exit → Act → World → Prop} {w w' : World} {v : Value} (hw : Region.wanted o (yielded ops a.tmps) = true) (hrun : (execOp a.eval o).run Try.prog w = .ok (.value v) w')
    (hK : wpList Try.prog ops Q rest (a.put o.dst v) w') : wpList Try.prog ops Q (o :: rest) a w := by
  unfold wpList
  rw [if_pos hw]
  refine .inl ?_
  unfold Oper.wp
  rw [hrun]
  exact hK
theorem infoQ : (Try.prog.info? 34).map (fun i => (i.zero, i.size, i.bytes)) = some (some (.int .u32 0), 1, 4) := by kernel_rfl
theorem ownQ_app {w : World} {B : Nat} {v : Value} {l : List Nat} (h : OwnQ w B v l) (hB : B ≤ w.heap.size) (hl : l.length < 1000000) (x : Nat) {g : Nat} {t : TypeId} (hg : Blk w g [U32v x] t) (ty : TypeId) :
    ∃ v' w', (Builtin.append_ #[31, 31] ty #[v, .slice (some ⟨g, 0, none⟩) 1 1]).run Try.prog w = .ok v' w' ∧ OwnQ w' B v' (l ++ [x]) ∧ w.grownBy w' v.ownBlock ∧ (v'.ownBlock = v.ownBlock ∨ v'.ownBlock = some w.heap.size) := by
  obtain ⟨i0, hi, hz0, hz1, hz2⟩ := info_parts infoQ
  obtain ⟨v', w', hr, h2, h3, _, h5⟩ := run_append_own_at (P := Try.prog) w B 31 ty 34 i0 (.int .u32 0) 1 4 Try.underlying31 hi hz0 hz1 hz2 rfl (by decide) v l.length (l.map U32v) h ⟨g, 0, none⟩ 1 1 [U32v x] rfl (fun j y hj => by
    rw [Addr.add_mid, Nat.zero_add]
    exact hg.cell hj) (fun u hu => by simp at hu; subst hu; rfl) (by unfold maxLen; omega) (by omega) hB
  refine ⟨v', w', hr, ?_, h3, h5⟩
  unfold OwnQ
  rw [List.map_append, List.length_append]
  exact h2
/-- Leaves in memory: their rows, which can't be read, which were asked for. -/
structure ShW (w : World) (B D : Nat) (vs : List Value) (m : List B8) (bad : Nat) (av : Value) (aq : List Nat) : Prop where
  d : Blk w D (vs ++ [.int .u64 (bad : Int), av]) 33
  vl : vs.length = 64
  ml : m.length = 64
  row : ∀ (k : Nat) (v : Value) (l : B8), vs[k]? = some v → m[k]? = some l → OwnB w 0 v l
  q : OwnQ w B av aq
  lo : B ≤ D
  bad : bad < 18446744073709551616
/-- What a call that asks may turn. -/
structure CMv (D : Nat) (av : Value) (w : World) (av' : Value) (w' : World) : Prop where
  chg : Chg (fun g => g = D ∨ av.ownBlock = some g) w w'
  own : ∀ g, av'.ownBlock = some g → av.ownBlock = some g ∨ w.heap.size ≤ g
section
variable {w w' w2 : World} {B D : Nat} {vs : List Value} {m : List B8} {bad : Nat} {av av' av2 : Value} {aq : List Nat}
theorem CMv.refl (D : Nat) (av : Value) (w : World) : CMv D av w av w := ⟨Chg.refl _ _, fun _ h => .inl h⟩
theorem CMv.of_below (D : Nat) (av : Value) (h : Below w.heap.size w w') : CMv D av w av w' := ⟨Chg.of_below h, fun _ h => .inl h⟩
theorem CMv.trans (h : CMv D av w av' w') (k : CMv D av' w' av2 w2) : CMv D av w av2 w2 :=
  ⟨h.chg.trans k.chg (fun i hi => by
    rcases hi with rfl | hi
    · exact .inl (.inl rfl)
    · rcases h.own i hi with e | e
      · exact .inl (.inr e)
      · exact .inr e), fun g hg => by
    rcases k.own g hg with e | e
    · exact h.own g e
    · exact .inr (Nat.le_trans h.chg.size e)⟩
theorem CMv.blk (h : CMv D av w av' w') {g : Nat} {cs : List Value} {t : TypeId} (hb : Blk w g cs t) (hD : g ≠ D) (ha : av.ownBlock ≠ some g) : Blk w' g cs t := hb.chg h.chg (fun hf => by rcases hf with e | e; exact hD e; exact ha e)
theorem ShW.blk_u8 (h : ShW w B D vs m bad av aq) {g : Nat} {cs : List Value} {t : TypeId} (hb : Blk w g cs t) (h1 : t ≠ 33) (h2 : t ≠ 34) : g ≠ D ∧ av.ownBlock ≠ some g :=
  ⟨fun e => by subst e; exact h1 (hb.same h.d), c_own_ne h.q hb h2⟩
theorem ShW.keep (h : ShW w B D vs m bad av aq) (hm : CMv D av w av' w') {g : Nat} {cs : List Value} {t : TypeId} (hb : Blk w g cs t) (h1 : t ≠ 33) (h2 : t ≠ 34) : Blk w' g cs t :=
  hm.blk hb (h.blk_u8 hb h1 h2).1 (h.blk_u8 hb h1 h2).2
theorem ShW.own (h : ShW w B D vs m bad av aq) (hm : CMv D av w av' w') {B' e k n : Nat} {v : Value} {xs : List Value} (hv : w.ownsRow B' e k v n xs) (h1 : e ≠ 33) (h2 : e ≠ 34) : w'.ownsRow B' e k v n xs :=
  c_owns_chg hv hm.chg (fun g hg hf => by
    obtain ⟨cs, hb⟩ := c_owns_ty hv hg
    rcases hf with e | e
    · exact (h.blk_u8 hb h1 h2).1 e
    · exact (h.blk_u8 hb h1 h2).2 e)
theorem ShW.below (h : ShW w B D vs m bad av aq) (hb : Below w.heap.size w w') : ShW w' B D vs m bad av aq :=
  have hc := Chg.of_below (F := fun _ => False) hb
  ⟨h.d.below hb h.d.lt, h.vl, h.ml, fun k v l hv hl => c_owns_chg (h.row k v l hv hl) hc (fun _ _ h => h), c_owns_chg h.q hc (fun _ _ h => h), h.lo, h.bad⟩
theorem ShW.cell (h : ShW w B D vs m bad av aq) {k : Nat} {v : Value} (hv : vs[k]? = some v) : w.cell? ⟨D, k, none⟩ = some v := h.d.cell (by
  have := (List.getElem?_eq_some_iff.1 hv).1
  rw [List.getElem?_append_left this]; exact hv)
theorem ShW.cell64 (h : ShW w B D vs m bad av aq) : w.cell? ⟨D, 64, none⟩ = some (.int .u64 (bad : Int)) := h.d.cell (by rw [List.getElem?_append_right (by rw [h.vl]; omega), h.vl]; rfl)
theorem ShW.cell65 (h : ShW w B D vs m bad av aq) : w.cell? ⟨D, 65, none⟩ = some av := h.d.cell (by rw [List.getElem?_append_right (by rw [h.vl]; omega), h.vl]; rfl)
/-- The row of what was asked for may be another one. -/
theorem ShW.asked (h : ShW w B D vs m bad av aq) (hc : Chg (fun g => av.ownBlock = some g) w w') {aq' : List Nat} (ho : OwnQ w' B av' aq') (hn : ∀ g, av'.ownBlock = some g → av.ownBlock = some g ∨ w.heap.size ≤ g) :
    ShW (w'.setCell ⟨D, 65, none⟩ av') B D vs m bad av' aq' ∧ CMv D av w av' (w'.setCell ⟨D, 65, none⟩ av') ∧ w'.frozen? ⟨D, 65, none⟩ = false ∧ ∃ c, w'.cell? ⟨D, 65, none⟩ = some c := by
  have hnD : av.ownBlock ≠ some D := c_own_ne h.q h.d (by decide)
  have hd1 : Blk w' D (vs ++ [.int .u64 (bad : Int), av]) 33 := h.d.chg hc hnD
  have hd2 := hd1.set 65 av'
  have e : (vs ++ [.int .u64 (bad : Int), av]).set 65 av' = vs ++ [.int .u64 (bad : Int), av'] := by
    rw [List.set_append_right _ _ (by rw [h.vl]; omega), h.vl]; rfl
  rw [e] at hd2
  have hm : CMv D av w av' (w'.setCell ⟨D, 65, none⟩ av') := ⟨(hc.mono (fun g hg => .inr hg)).setCell (.inl (.inl rfl)) 65 av', hn⟩
  refine ⟨⟨hd2, h.vl, h.ml, fun k v l hv hl => h.own hm (h.row k v l hv hl) (by decide) (by decide), ?_, h.lo, h.bad⟩, hm, hd1.free 65, hd1.has 65 (by simp [h.vl])⟩
  exact c_owns_chg ho (chg1 w' D 65 av') (fun g hg e => by
    subst e
    exact c_own_ne ho hd1 (by decide) hg)
theorem cask_here (h : ShW w B D vs m bad av aq) (k : Nat) (hB : B ≤ w.heap.size) (hl : aq.length < 1000000) :
    ∃ sp cap sp' cap' av' w3, av = .slice sp aq.length cap ∧ av' = .slice sp' (aq.length + 1) cap' ∧ (Builtin.append_ #[31, 31] 31 #[av, .slice (some ⟨w.heap.size, 0, none⟩) 1 1]).run Try.prog (w.alloc (.cells #[U32v k] 34)) = .ok av' w3 ∧ (∃ c, w3.cell? ⟨D, 65, none⟩ = some c) ∧ w3.frozen? ⟨D, 65, none⟩ = false ∧
      ShW (w3.setCell ⟨D, 65, none⟩ av') B D vs m bad av' (aq ++ [k]) ∧ CMv D av w av' (w3.setCell ⟨D, 65, none⟩ av') := by
  have hw2 : Below w.heap.size w (w.alloc (.cells #[U32v k] 34)) := (Below.refl _ _).alloc (Nat.le_refl _) _
  have ha2 := c_owns_chg h.q (Chg.of_below (F := fun _ => False) hw2) (fun _ _ h => h)
  have hnew : Blk (w.alloc (.cells #[U32v k] 34)) w.heap.size [U32v k] 34 := Blk.new' _ _ _ _ _ rfl rfl
  obtain ⟨v3, w3, hr, ho3, hg3, hn3⟩ := ownQ_app ha2 (by simp; omega) hl k hnew 31
  obtain ⟨sp, cap, e, _⟩ := c_owns_form h.q
  obtain ⟨sp3, cap3, e3, _⟩ := c_owns_form ho3
  have hc3 : Chg (fun g => av.ownBlock = some g) w w3 := (Chg.of_below hw2).grown hg3 (fun g hg => .inl hg)
  have hnx : ∀ g, v3.ownBlock = some g → av.ownBlock = some g ∨ w.heap.size ≤ g := fun g hg => by
    rcases hn3 with e | e
    · left; rw [← e]; exact hg
    · right; rw [e] at hg; injection hg; simp at *; omega
  obtain ⟨k1, k2, k3, k4⟩ := h.asked hc3 ho3 hnx
  refine ⟨sp, cap, sp3, cap3, v3, w3, e, ?_, hr, k4, k3, k1, k2⟩
  rw [e3]; simp
end
/-- Is a leaf one that can't be read? -/
def badAt (bad k : Nat) : Bool := bad / 2 ^ k % 2 == 1
end Go.Proofs.Ythionhliokhcgaa
