/- A walk in memory; its closures. -/
import Derived.Test.YtkbkmfmekjpleaaDoorM24
namespace Go.Proofs.YtkbkmfmekjpleaaDoor
open Go.RowKit

attribute [local go_sem] Oper.semAt_some

abbrev Lf := Nat × Pt
def lcells (x : Lf) : List Value := .int .u32 (x.1 : Int) :: pcells x.2
def Lf.OK (x : Lf) : Prop := x.1 < 4294967296 ∧ x.2.OK
theorem lcells_length {x : Lf} (h : x.2.OK) : (lcells x).length = 42 := by simp [lcells, pcells_length h]
def lrows (l : List Lf) : List Value := l.flatMap lcells
theorem lrows_snoc (l : List Lf) (x : Lf) : lrows (l ++ [x]) = lrows l ++ lcells x := by simp [lrows]
abbrev OwnL (w : World) (B : Nat) (v : Value) (l : List Lf) : Prop := w.ownsRow B 45 42 v l.length (lrows l)
theorem infoLf : (Tryd.prog.info? 45).map (fun i => (i.zero.map (·.cells.size), i.size, i.bytes)) = some (some 42, 42, 64) := by kernel_rfl
theorem info_partsLf : ∃ i z, Tryd.prog.info? 45 = some i ∧ i.zero = some z ∧ z.cells.size = 42 ∧ i.size = 42 ∧ i.bytes = 64 := by
  obtain ⟨i, h1, h2⟩ := Option.map_eq_some_iff.1 infoLf
  simp only [Prod.mk.injEq] at h2
  obtain ⟨z, hz, hz2⟩ := Option.map_eq_some_iff.1 h2.1
  exact ⟨i, z, h1, hz, hz2, h2.2.1, h2.2.2⟩
theorem sizeLf : (Tryd.prog.info? 45).map (·.size) = some 42 := by kernel_rfl
theorem one_lcells (x : Lf) : ∀ u ∈ lcells x, u.oneCell' = true := fun u hu => by
  simp only [lcells, List.mem_cons] at hu
  rcases hu with rfl | hu
  · rfl
  · exact one_pcells x.2 u hu
theorem ownL_app {w : World} {B : Nat} {v : Value} {l : List Lf} (h : OwnL w B v l) (hB : B ≤ w.heap.size) (hl : l.length < 1000000) {x : Lf} (hx : x.2.OK) {g : Nat} {t : TypeId} (hg : Blk w g (lcells x) t) (ty : TypeId) :
    ∃ v' w', (Builtin.append_ #[39, 39] ty #[v, .slice (some ⟨g, 0, none⟩) 1 1]).run Tryd.prog w = .ok v' w' ∧ OwnL w' B v' (l ++ [x]) ∧ w.grownBy w' v.ownBlock ∧ (v'.ownBlock = v.ownBlock ∨ v'.ownBlock = some w.heap.size) := by
  obtain ⟨i0, z, hi, hz0, hz1, hz2, hz3⟩ := info_partsLf
  obtain ⟨v', w', hr, h2, h3, _, h5⟩ := run_append_own_at (P := Tryd.prog) w B 39 ty 45 i0 z 42 64 Tryd.underlying39 hi hz0 hz2 hz3 hz1 (by decide) v l.length (lrows l) h ⟨g, 0, none⟩ 1 1 (lcells x) (by rw [lcells_length hx]) (fun j y hj => by
    rw [Addr.add_mid, Nat.zero_add]
    exact hg.cell hj) (one_lcells x) (by unfold maxLen; omega) (by omega) hB
  refine ⟨v', w', hr, ?_, h3, h5⟩
  unfold OwnL
  rw [lrows_snoc, List.length_append]
  exact h2
section
variable {ρ : Operand → Value} {o : Oper} {x y : Operand} {w : World}
theorem ex_ldLs {ad : Addr} {v : Value} (ho : o.op = .load 39 x) (hx : ρ x = .pointer (some ad)) (hc : w.cell? ad = some v) : (execOp ρ o).run Tryd.prog w = .ok (.value v) w := by
  unfold execOp; simp only [ho]; go_simp
theorem ex_ldLf {l : Lf} (hl : l.2.OK) {g : Nat} {t' : TypeId} (hB : Blk w g (lcells l) t') (ho : o.op = .load 45 x) (hx : ρ x = .pointer (some ⟨g, 0, none⟩)) : (execOp ρ o).run Tryd.prog w = .ok (.value (.agg (lcells l).toArray)) w :=
  ex_ld (ty := 45) (cs := lcells l) ho hx (rng_all hB) Tryd.underlying45 rfl (by rw [sizeLf, lcells_length hl])
theorem ex_oneL {l : Lf} (hl : l.2.OK) (ho : o.op = .buildSlice 39 1 #[(0, x)]) (hx : ρ x = .agg (lcells l).toArray) :
    (execOp ρ o).run Tryd.prog w = .ok (.value (.slice (some ⟨w.heap.size, 0, none⟩) 1 1)) (w.alloc (.cells (lcells l).toArray 45)) := by
  obtain ⟨i, z, hi, hz, hzs, his, _⟩ := info_partsLf
  have hr := run_buildSlice (P := Tryd.prog) w 39 45 1 #[(0, .agg (lcells l).toArray)] (lcells l).toArray i z Tryd.underlying39 hi hz (by rw [his]; omega) (by rw [his]; omega)
    (fill_whole (size := 42) (by simp [his]) (by simp [Value.cells, lcells_length hl]) (by simp [his]))
  unfold execOp
  simp only [ho]
  rw [show (Array.map (fun x : Nat × Operand => (x.1, ρ x.2)) #[(0, x)]) = #[(0, .agg (lcells l).toArray)] by simp [hx]]
  simp only [Sem.run_bind, hr, Result.andThen_ok]
  rfl
theorem ex_appL {v u v' : Value} {w w' : World} (ho : o.op = .call { callee := .builtin .append, args := #[x, y], argTypes := #[39, 39] }) (hx : ρ x = v) (hy : ρ y = u)
    (hr : (Builtin.append_ #[39, 39] o.type #[v, u]).run Tryd.prog w = .ok v' w') : (execOp ρ o).run Tryd.prog w = .ok (.value v') w' := by
  unfold execOp
  simp only [ho, resolve, invoke, builtin, Sem.run_bind, Sem.run_pure, Result.andThen_ok, List.map_toArray, List.map_cons, List.map_nil, hx, hy, hr]
end
def lastP (l : List Lf) : Pt := (l.getLast?.map (·.2)).getD zeroP
theorem lastP_snoc (l : List Lf) (x : Lf) : lastP (l ++ [x]) = x.2 := by simp [lastP]
/-- What a walk's closure has gathered: Get's (false) the last one, All's (true) all. -/
def GaAt (w : World) (L : Nat → Nat) (md : Bool) (Bx : Nat) (ls : List Lf) : Prop :=
  if md then ∃ sv, Blk w Bx [sv] 39 ∧ OwnL w 0 sv ls ∧ ∀ g, sv.ownBlock = some g → L g = 9 else Blk w Bx (pcells (lastP ls)) 37
def leafF (md : Bool) (Bx : Nat) : Value := fval (if md then 20 else 22) #[.pointer (some ⟨Bx, 0, none⟩)]
def wkcells (D fr tt : Nat) (nv : Value) (md : Bool) (Bx : Nat) : List Value := [shI D, .int .u32 (fr : Int), .int .u32 (tt : Int), nv, leafF md Bx]
/-- A walk on a shelf. Labels: 6 its closure's box, 7 the walk, 8 its nodes' row, 9 its leaves' row. -/
structure WkAt (w : World) (L : Nat → Nat) (D Wk Bx : Nat) (md : Bool) (fr tt : Nat) (s : Sh) (ns : List Pt) (ls : List Lf) : Prop where
  sh : ∃ v, ShAt w L D s v
  wk : ∃ nv, Blk w Wk (wkcells D fr tt nv md Bx) 71 ∧ OwnM w 0 nv ns ∧ ∀ g, nv.ownBlock = some g → L g = 8
  ga : GaAt w L md Bx ls
  l7 : L Wk = 7
  l6 : L Bx = 6
  okn : ∀ q ∈ ns, q.OK
  okl : ∀ x ∈ ls, Lf.OK x
section
variable {w w' : World} {L L' : Nat → Nat} {D Wk Bx fr tt : Nat} {md : Bool} {s s' : Sh} {ns : List Pt} {ls : List Lf}
theorem GaAt.chg {F : Nat → Prop} (h : GaAt w L md Bx ls) (hc : Chg F w w') (hB : ¬ F Bx) (hF : ∀ g, F g → L g ≠ 9) (hL : ∀ g, g < w.heap.size → L' g = L g) : GaAt w' L' md Bx ls := by
  unfold GaAt at *
  cases md
  · exact Blk.chg h hc hB
  · obtain ⟨sv, h1, h2, h3⟩ := h
    exact ⟨sv, h1.chg hc hB, owns_chg h2 hc (fun g hg hf => hF g hf (h3 g hg)), fun g hg => (hL g (owns_lt h2 hg)).trans (h3 g hg)⟩
theorem GaAt.lt (h : GaAt w L md Bx ls) : Bx < w.heap.size := by
  unfold GaAt at h
  cases md
  · exact Blk.lt h
  · obtain ⟨sv, h1, _⟩ := h; exact h1.lt
/-- The shelf has turned. -/
theorem WkAt.shelf {v' : Sv} (h : WkAt w L D Wk Bx md fr tt s ns ls) (hs : ShAt w' L' D s' v') (hm : Mv 5 L w L' w') : WkAt w' L' D Wk Bx md fr tt s' ns ls := by
  obtain ⟨nv, h1, h2, h3⟩ := h.wk
  have hf : ∀ g, 6 ≤ L g → ¬ Foot 5 L g := fun g hg hf => by unfold Foot at hf; omega
  refine ⟨⟨v', hs⟩, ⟨nv, h1.chg hm.chg (hf _ (by rw [h.l7]; omega)), owns_chg h2 hm.chg (fun g hg => hf g (by rw [h3 g hg]; omega)), fun g hg => (hm.old g (owns_lt h2 hg)).trans (h3 g hg)⟩, h.ga.chg hm.chg (hf _ (by rw [h.l6]; omega)) (fun g hg e => hf g (by omega) hg) hm.old, (hm.old _ h1.lt).trans h.l7, (hm.old _ h.ga.lt).trans h.l6, h.okn, h.okl⟩
theorem WkAt.below (h : WkAt w L D Wk Bx md fr tt s ns ls) (hb : Below w.heap.size w w') : WkAt w' L D Wk Bx md fr tt s ns ls := by
  obtain ⟨v, hs⟩ := h.sh
  exact h.shelf (hs.below hb) (Mv.of_below hb hs.lt)
theorem WkAt.drew (h : WkAt w L D Wk Bx md fr tt s ns ls) : WkAt w.drew L D Wk Bx md fr tt s ns ls := h.below (Below.refl _ _).drew
def WkPost (L : Nat → Nat) (w : World) (D Wk Bx : Nat) (md : Bool) (fr tt : Nat) (s' : Sh) (ns' : List Pt) (ls' : List Lf) (w' : World) : Prop := ∃ L', WkAt w' L' D Wk Bx md fr tt s' ns' ls' ∧ Mv 9 L w L' w'
theorem WkPost.of_below (h : WkAt w L D Wk Bx md fr tt s ns ls) (hb : Below w.heap.size w w') : WkPost L w D Wk Bx md fr tt s ns ls w' := by
  obtain ⟨v, hs⟩ := h.sh
  exact ⟨L, h.below hb, Mv.of_below hb hs.lt⟩
theorem WkPost.mv {w1 w2 : World} {L1 : Nat → Nat} {s' : Sh} {ns' : List Pt} {ls' : List Lf} (h : Mv 9 L w L1 w1) (k : WkPost L1 w1 D Wk Bx md fr tt s' ns' ls' w2) : WkPost L w D Wk Bx md fr tt s' ns' ls' w2 := by
  obtain ⟨L2, h2, k2⟩ := k
  exact ⟨L2, h2, h.trans k2⟩
theorem WkPost.pre {w1 w2 : World} {s' : Sh} {ns' : List Pt} {ls' : List Lf} (h : WkAt w L D Wk Bx md fr tt s ns ls) (hb : Below w.heap.size w w1) (k : WkPost L w1 D Wk Bx md fr tt s' ns' ls' w2) : WkPost L w D Wk Bx md fr tt s' ns' ls' w2 := by
  obtain ⟨v, hs⟩ := h.sh
  exact WkPost.mv (Mv.of_below hb hs.lt) k
end
/-- Get's closure. -/
theorem getC_any {w : World} {L : Nat → Nat} {D Wk Bx fr tt : Nat} {s : Sh} {ns : List Pt} {ls : List Lf} (x : Lf) (hx : Lf.OK x) (h : WkAt w L D Wk Bx false fr tt s ns ls) :
    Calls Tryd.prog 22 #[.agg (lcells x).toArray, .pointer (some ⟨Bx, 0, none⟩)] w fun e w' => e = .returned (.tuple #[]) ∧ WkPost L w D Wk Bx false fr tt s ns (ls ++ [x]) w' := by
  have HX := Lib.hid hx
  have hw1 : Below w.heap.size w (w.alloc (.cells (lcells x).toArray 45)) := (Below.refl _ _).alloc (Nat.le_refl _) _
  have HB : Hid (Blk (w.alloc (.cells (lcells x).toArray 45)) w.heap.size (lcells x) 45) := Lib.hid (Blk.new _ _ _)
  have h1 := h.below hw1
  have HG : Hid (Blk (w.alloc (.cells (lcells x).toArray 45)) Bx (pcells (lastP ls)) 37) := Lib.hid h1.ga
  have HLP : Hid ((pcells (lastP ls)).toArray.size = (pcells x.2).toArray.size) := Lib.hid (by
    have e : (lastP ls).OK := by
      unfold lastP
      cases hl : ls.getLast? with
      | none => exact zeroP_ok
      | some y => exact (h.okl y (List.mem_of_getLast? hl)).2
    rw [List.size_toArray, List.size_toArray, pcells_length e, pcells_length hx.2])
  have HSP := Lib.hid (size_pc hx.2)
  have HR : Hid ((w.alloc (.cells (lcells x).toArray 45)).rangeAt w.heap.size 1 (pcells x.2)) := Lib.hid (by
    have := (Blk.new w (lcells x) 45).rng [.int .u32 (x.1 : Int)] (pcells x.2) [] (by simp [lcells])
    exact this)
  generalize hPost : (fun e w' => e = Ending.returned (.tuple #[]) ∧ WkPost L w D Wk Bx false fr tt s ns (ls ++ [x]) w') = Post
  have HP : Hid (Post (.returned (.tuple #[])) ((w.alloc (.cells (lcells x).toArray 45)).setRow Bx (pcells x.2).toArray)) := Lib.hid (by
    rw [← hPost]
    refine ⟨rfl, ?_⟩
    generalize (w.alloc (.cells (lcells x).toArray 45)) = W at h1 hw1 HG
    obtain ⟨v, hs⟩ := h1.sh
    obtain ⟨nv, k1, k2, k3⟩ := h1.wk
    have hc := chgR W Bx (pcells x.2).toArray
    have hz : (W.setRow Bx (pcells x.2).toArray).heap.size = W.heap.size := by simp
    have hs2 : ShAt (W.setRow Bx (pcells x.2).toArray) L D s v := hs.out hc (fun g e _ => .inr (by rw [e, h1.l6]; omega)) (fun _ _ => .inl rfl) (fun g hg => by rw [hz]; exact hs.lt g hg)
    refine ⟨L, ⟨⟨v, hs2⟩, ⟨nv, k1.chg hc (fun e => by have h6 := h1.l6; rw [← e, h1.l7] at h6; omega), owns_chg k2 hc (fun g hg e => by have h6 := h1.l6; rw [← e, k3 g hg] at h6; omega), k3⟩, ?_, h1.l7, h1.l6, h1.okn, fun y hy => ?_⟩, ?_⟩
    · show Blk _ Bx (pcells (lastP (ls ++ [x]))) 37
      rw [lastP_snoc]
      exact HG.out.row _
    · rcases List.mem_append.1 hy with hy | hy
      · exact h1.okl y hy
      · simp at hy; subst hy; exact hx
    · obtain ⟨v0, hs0⟩ := h.sh
      refine (Mv.of_below hw1 hs0.lt).trans ⟨hc.mono (fun g e => ?_), fun _ _ => rfl, fun g hg => ?_⟩
      · have e : g = Bx := e
        unfold Foot; rw [e, h1.l6]; omega
      · left; have := hs.lt g; omega)
  clear hx h h1 hw1 hPost
  go_enter Tryd.func22, Tryd.ntmps22
  go_upto_region 1 with fail
  obtain ⟨G, hG⟩ : ∃ G, w.heap.size = G := ⟨_, rfl⟩
  rw [hG] at HB HR ⊢
  generalize (w.alloc (.cells (lcells x).toArray 45)) = W at HB HG HR HP ⊢
  go_wp2_with (first | (refine wpL_val rfl (ex_ld (ty := 37) (cs := pcells x.2) rfl rfl HR.out Tryd.underlying37 rfl (by rw [sizeP, pcells_length HX.out.2])) ?_) | (refine wpList_store_row rfl 37 (.tmp 1) (.tmp 4) rfl Bx (pcells x.2).toArray rfl rfl 37 _ HG.out HSP.out HLP.out (one_pc x.2) ?_) | fail)
  go_end0
  exact HP.out
end Go.Proofs.YtkbkmfmekjpleaaDoor
/- All's closure; the closure of a walk. -/
namespace Go.Proofs.YtkbkmfmekjpleaaDoor
open Go.RowKit

attribute [local go_sem] Oper.semAt_some

/-- An append of a leaf to the row that stands in a box. -/
theorem leaf_here {W w2 : World} {L : Nat → Nat} {D Wk Bx fr tt : Nat} {s : Sh} {ns : List Pt} {ls : List Lf} (x : Lf) (hx : Lf.OK x) (h : WkAt W L D Wk Bx true fr tt s ns ls) (hw2 : w2 = W.alloc (.cells (lcells x).toArray 45)) (hl : ls.length < 1000000) :
    ∃ sp n cap sp3 n3 cap3 w3, W.cell? ⟨Bx, 0, none⟩ = some (.slice sp n cap) ∧ (Builtin.append_ #[39, 39] 39 #[.slice sp n cap, .slice (some ⟨W.heap.size, 0, none⟩) 1 1]).run Tryd.prog w2 = .ok (.slice sp3 n3 cap3) w3 ∧ (∃ c, w3.cell? ⟨Bx, 0, none⟩ = some c) ∧ w3.frozen? ⟨Bx, 0, none⟩ = false ∧
      WkPost L W D Wk Bx true fr tt s ns (ls ++ [x]) (w3.setCell ⟨Bx, 0, none⟩ (.slice sp3 n3 cap3)) := by
  subst hw2
  have hw2 : Below W.heap.size W (W.alloc (.cells (lcells x).toArray 45)) := (Below.refl _ _).alloc (Nat.le_refl _) _
  obtain ⟨v, hs⟩ := h.sh
  obtain ⟨nv, k1, k2, k3⟩ := h.wk
  obtain ⟨sv, g1, g2, g3⟩ := h.ga
  have g2' : OwnL (W.alloc (.cells (lcells x).toArray 45)) 0 sv ls := owns_chg g2 (Chg.of_below (F := fun _ => False) hw2) (fun _ _ h => h)
  have hnew : Blk (W.alloc (.cells (lcells x).toArray 45)) W.heap.size (lcells x) 45 := Blk.new _ _ _
  obtain ⟨v3, w3, hr, ho3, hg3, hn3⟩ := ownL_app g2' (Nat.zero_le _) hl hx.2 hnew 39
  obtain ⟨sp, cap, e, _⟩ := owns_form g2
  obtain ⟨sp3, cap3, e3, _⟩ := owns_form ho3
  have hnB : sv.ownBlock ≠ some Bx := fun e => by have := g3 Bx e; rw [h.l6] at this; omega
  have hc3 : Chg (fun g => sv.ownBlock = some g) W w3 := (Chg.of_below hw2).grown hg3 (fun g hg => .inl hg)
  have hB3 : Blk w3 Bx [sv] 39 := g1.chg hc3 hnB
  have hc4 : Chg (fun g => g = Bx ∨ sv.ownBlock = some g) W (w3.setCell ⟨Bx, 0, none⟩ v3) := (hc3.mono (fun g hg => .inr hg)).setCell (.inl (.inl rfl)) 0 v3
  have hnx : ∀ g, v3.ownBlock = some g → sv.ownBlock = some g ∨ W.heap.size ≤ g := fun g hg => by
    rcases hn3 with e | e
    · left; rw [← e]; exact hg
    · right; rw [e] at hg; injection hg; simp at *; omega
  have hL : ∀ g, g < W.heap.size → setL L v3 9 g = L g := fun g hg => setL_old g3 hnx hg
  have hz : (w3.setCell ⟨Bx, 0, none⟩ v3).heap.size = w3.heap.size := by simp [World.setCell]
  have hlt : ∀ g, setL L v3 9 g ≠ 0 → g < (w3.setCell ⟨Bx, 0, none⟩ v3).heap.size := setL_lt (fun g hg => Nat.lt_of_lt_of_le (hs.lt g hg) hc4.size) (fun g hg => by rw [hz]; exact owns_lt ho3 hg)
  have hF : ∀ g, (g = Bx ∨ sv.ownBlock = some g) → L g = 6 ∨ L g = 9 := fun g hg => by
    rcases hg with rfl | hg
    · exact .inl h.l6
    · exact .inr (g3 g hg)
  have hnB3 : v3.ownBlock ≠ some Bx := fun e => by
    rcases hnx Bx e with e1 | e1
    · exact hnB e1
    · have := g1.lt; omega
  refine ⟨sp, ls.length, cap, sp3, (ls ++ [x]).length, cap3, w3, by rw [← e]; exact g1.cell rfl, by rw [← e, ← e3]; exact hr, hB3.has 0 (by simp), hB3.free 0, ?_⟩
  rw [← e3]
  refine ⟨setL L v3 9, ⟨⟨v, hs.out hc4 (fun g hg _ => .inr (by rcases hF g hg with e | e <;> omega)) (fun g hg => .inl (hL g hg)) hlt⟩, ⟨nv, k1.chg hc4 (fun e => by rcases hF _ e with e | e <;> (rw [h.l7] at e; omega)), owns_chg k2 hc4 (fun g hg hf => by have := k3 g hg; rcases hF _ hf with e | e <;> omega), fun g hg => (hL g (owns_lt k2 hg)).trans (k3 g hg)⟩, ⟨v3, hB3.set 0 v3, owns_chg ho3 (chg1 w3 Bx 0 v3) (fun g hg e => hnB3 (by rw [← e]; exact hg)), fun g hg => setL_at hg⟩, (hL _ k1.lt).trans h.l7, (hL _ g1.lt).trans h.l6, h.okn, fun y hy => ?_⟩, ⟨hc4.mono (fun g hg => by rcases hF g hg with e | e <;> (unfold Foot; omega)), hL, fun g hg => ?_⟩⟩
  · rcases List.mem_append.1 hy with hy | hy
    · exact h.okl y hy
    · simp at hy; subst hy; exact hx
  · unfold setL
    split
    · left; omega
    · left; have := hs.lt g; omega
theorem allC_any {w : World} {L : Nat → Nat} {D Wk Bx fr tt : Nat} {s : Sh} {ns : List Pt} {ls : List Lf} (x : Lf) (hx : Lf.OK x) (h : WkAt w L D Wk Bx true fr tt s ns ls) (hl : ls.length < 1000000) :
    Calls Tryd.prog 20 #[.agg (lcells x).toArray, .pointer (some ⟨Bx, 0, none⟩)] w fun e w' => e = .returned (.tuple #[]) ∧ WkPost L w D Wk Bx true fr tt s ns (ls ++ [x]) w' := by
  have HX := Lib.hid hx
  have hw1 : Below w.heap.size w (w.alloc (.cells (lcells x).toArray 45)) := (Below.refl _ _).alloc (Nat.le_refl _) _
  have HB : Hid (Blk (w.alloc (.cells (lcells x).toArray 45)) w.heap.size (lcells x) 45) := Lib.hid (Blk.new _ _ _)
  have H1 := Lib.hid (h.below hw1)
  have HPR : Hid (∀ w', WkPost L (w.alloc (.cells (lcells x).toArray 45)) D Wk Bx true fr tt s ns (ls ++ [x]) w' → WkPost L w D Wk Bx true fr tt s ns (ls ++ [x]) w') := Lib.hid fun w' h2 => WkPost.pre h hw1 h2
  have HL := Lib.hid hl
  generalize hPost : (fun e w' => e = Ending.returned (.tuple #[]) ∧ WkPost L w D Wk Bx true fr tt s ns (ls ++ [x]) w') = Post
  have HP : Hid (∀ w', WkPost L (w.alloc (.cells (lcells x).toArray 45)) D Wk Bx true fr tt s ns (ls ++ [x]) w' → Post (.returned (.tuple #[])) w') := Lib.hid fun w' h2 => by rw [← hPost]; exact ⟨rfl, HPR.out w' h2⟩
  clear hx h hl hw1 hPost HPR
  go_enter Tryd.func20, Tryd.ntmps20
  go_upto_region 1 with fail
  obtain ⟨G, hG⟩ : ∃ G, w.heap.size = G := ⟨_, rfl⟩
  rw [hG] at HB ⊢
  generalize (w.alloc (.cells (lcells x).toArray 45)) = W at HB H1 HP ⊢
  obtain ⟨sp, n, cap, sp3, n3, cap3, w3, c0, hr, ⟨_, hc⟩, hf, hp⟩ := leaf_here (w2 := W.alloc (.cells (lcells x).toArray 45)) x HX.out H1.out rfl HL.out
  have HE := Lib.hid (HP.out _ hp)
  have HRR := Lib.hid hr
  clear hp hr HP
  go_wp2_with (first | (refine wpL_val rfl (ex_ldLf HX.out.2 HB.out rfl rfl) ?_) | (refine wpL_val rfl (ex_oneL HX.out.2 rfl rfl) ?_) | (at_builtin; refine wpL_val rfl (ex_appL rfl rfl rfl HRR.out) ?_) | fail)
  go_end0
  exact HE.out
/-- A walk's closure, called. -/
theorem leafC_any {w : World} {L : Nat → Nat} {D Wk Bx fr tt : Nat} {md : Bool} {s : Sh} {ns : List Pt} {ls : List Lf} (x : Lf) (hx : Lf.OK x) (h : WkAt w L D Wk Bx md fr tt s ns ls) (hl : ls.length < 1000000) :
    Calls Tryd.prog (if md then 20 else 22) #[.agg (lcells x).toArray, .pointer (some ⟨Bx, 0, none⟩)] w fun e w' => e = .returned (.tuple #[]) ∧ WkPost L w D Wk Bx md fr tt s ns (ls ++ [x]) w' := by
  cases md
  · exact getC_any x hx h
  · exact allC_any x hx h hl
/-- One node more is noted. -/
theorem node_here {W : World} {L : Nat → Nat} {D Wk Bx fr tt : Nat} {md : Bool} {s : Sh} {ns : List Pt} {ls : List Lf} {p : Pt} (hp : p.OK) (h : WkAt W L D Wk Bx md fr tt s ns ls) (hl : ns.length < 1000000) :
    ∃ u v3 w3, (∀ X, Below W.heap.size W X → X.cell? ⟨Wk, 3, none⟩ = some u) ∧ (Builtin.append_ #[28, 28] 28 #[u, .slice (some ⟨W.drew.heap.size, 0, none⟩) 1 1]).run Tryd.prog (W.drew.alloc (.cells (pcells p).toArray 37)) = .ok v3 w3 ∧ (∃ sp n cap, v3 = .slice sp n cap) ∧ (∃ c, w3.cell? ⟨Wk, 3, none⟩ = some c) ∧ w3.frozen? ⟨Wk, 3, none⟩ = false ∧
      (∀ {g : Nat} {cs' : List Value} {t' : TypeId}, Blk W g cs' t' → L g = 0 → Blk w3 g cs' t' ∧ Blk (w3.setCell ⟨Wk, 3, none⟩ v3) g cs' t') ∧ WkPost L W D Wk Bx md fr tt s (ns ++ [p]) ls (w3.setCell ⟨Wk, 3, none⟩ v3) := by
  obtain ⟨v, hs⟩ := h.sh
  obtain ⟨nv, k1, k2, k3⟩ := h.wk
  have hnD : nv.ownBlock ≠ some Wk := fun e => by have := k3 Wk e; rw [h.l7] at this; omega
  obtain ⟨v3, w3, hr, hsl, hcell, hfree, hoth, j1, j2, j3, j4, j5⟩ := app_here (k := 3) k2 k1 hnD hp hl (by simp [wkcells])
  have hL : ∀ g, g < W.heap.size → setL L v3 8 g = L g := fun g hg => setL_old k3 j4 hg
  have hF : ∀ g, (g = Wk ∨ nv.ownBlock = some g) → L g = 7 ∨ L g = 8 := fun g hg => by
    rcases hg with rfl | hg
    · exact .inl h.l7
    · exact .inr (k3 g hg)
  refine ⟨nv, v3, w3, fun X hX => (k1.below hX k1.lt).cell rfl, hr, hsl, hcell, hfree, fun hb hg => ?_, setL L v3 8, ⟨⟨v, hs.out j2 (fun g hg _ => .inr (by rcases hF g hg with e | e <;> omega)) (fun g hg => .inl (hL g hg)) (setL_lt (fun g hg => Nat.lt_of_lt_of_le (hs.lt g hg) j2.size) j5)⟩, ⟨v3, j1, j3, fun g hg => setL_at hg⟩, h.ga.chg j2 (fun e => by rcases hF _ e with e | e <;> (rw [h.l6] at e; omega)) (fun g hg => by rcases hF g hg with e | e <;> omega) hL, (hL _ k1.lt).trans h.l7, (hL _ h.ga.lt).trans h.l6, fun q hq => ?_, h.okl⟩, ⟨j2.mono (fun g hg => by rcases hF g hg with e | e <;> (unfold Foot; omega)), hL, fun g hg => ?_⟩⟩
  · have hne : nv.ownBlock ≠ some _ := fun e => by have := k3 _ e; rw [hg] at this; omega
    have h2 := hoth hb hne
    exact ⟨h2.1, h2.2 (fun e => by rw [e, h.l7] at hg; omega)⟩
  · rcases List.mem_append.1 hq with hq | hq
    · exact h.okn q hq
    · simp at hq; subst hq; exact hp
  · unfold setL
    split
    · left; omega
    · left; have := hs.lt g; omega
end Go.Proofs.YtkbkmfmekjpleaaDoor
