/- The shelf's New. -/
import Derived.Test.YtjgjohdeeeoeoaaGreatDoorM14
namespace Go.Proofs.YtjgjohdeeeoeoaaGreatDoor
open Go.RowKit
attribute [local go_sem] Oper.semAt_some
theorem infoBb : (Tryz.prog.info? 29).map (fun i => (i.zero, i.size, i.bytes)) = some (some (.slice none 0 0), 1, 24) := by kernel_rfl
theorem info_partsBb : ∃ i, Tryz.prog.info? 29 = some i ∧ i.zero = some (.slice none 0 0) ∧ i.size = 1 ∧ i.bytes = 24 := by
  obtain ⟨i, h1, h2⟩ := Option.map_eq_some_iff.1 infoBb
  simp only [Prod.mk.injEq] at h2
  exact ⟨i, h1, h2.1, h2.2.1, h2.2.2⟩
theorem row_app {w : World} {x : Value} {vs : List Value} (h : OwnV w x vs) (hl : vs.length ≤ 100000000) {u : Value} (hu : u.oneCell' = true) {g : Nat} {t : TypeId} (hg : Blk w g [u] t) (ty : TypeId) :
    ∃ x' w', (Builtin.append_ #[46, 46] ty #[x, .slice (some ⟨g, 0, none⟩) 1 1]).run Tryz.prog w = .ok x' w' ∧ OwnV w' x' (vs ++ [u]) ∧ w.grownBy w' x.ownBlock ∧ (x'.ownBlock = x.ownBlock ∨ x'.ownBlock = some w.heap.size) := by
  obtain ⟨i0, hi, hz0, hz1, hz2⟩ := info_partsBb
  obtain ⟨v', w', hr, h2, h3, _, h5⟩ := run_append_own_at (P := Tryz.prog) w 0 46 ty 29 i0 (.slice none 0 0) 1 24 Tryz.underlying46 hi hz0 hz1 hz2 rfl (by decide) x vs.length vs h ⟨g, 0, none⟩ 1 1 [u] rfl (fun j y hj => by
    rw [Addr.add_mid, Nat.zero_add]
    exact hg.cell hj) (by intro y hy; simp at hy; subst hy; exact hu) (by unfold maxLen; omega) (by omega) (Nat.zero_le _)
  refine ⟨v', w', hr, ?_, h3, h5⟩
  unfold OwnV
  rw [List.length_append]
  exact h2
section
variable {ρ : Operand → Value} {o : Oper} {x y : Operand} {w : World}
theorem ex_appV {v u v' : Value} {w w' : World} (ho : o.op = .call { callee := .builtin .append, args := #[x, y], argTypes := #[46, 46] }) (hx : ρ x = v) (hy : ρ y = u)
    (hr : (Builtin.append_ #[46, 46] o.type #[v, u]).run Tryz.prog w = .ok v' w') : (execOp ρ o).run Tryz.prog w = .ok (.value v') w' := by
  unfold execOp
  simp only [ho, resolve, invoke, builtin, Sem.run_bind, Sem.run_pure, Result.andThen_ok, List.map_toArray, List.map_cons, List.map_nil, hx, hy, hr]
theorem ex_stV {ad : Addr} {v u : Value} (ho : o.op = .store 46 x y) (hx : ρ x = .pointer (some ad)) (hy : ρ y = v) (hv : ∃ sp n cap, v = .slice sp n cap) (hc : w.cell? ad = some u) (hf : w.frozen? ad = false) :
    (execOp ρ o).run Tryz.prog w = .ok .skip (w.setCell ad v) := by
  obtain ⟨sp, n, cap, rfl⟩ := hv
  unfold execOp
  simp only [ho]
  go_simp
theorem ex_oneV {sp : Option Addr} {n cap : Nat} (ho : o.op = .buildSlice 46 1 #[(0, x)]) (hx : ρ x = .slice sp n cap) :
    (execOp ρ o).run Tryz.prog w = .ok (.value (.slice (some ⟨w.heap.size, 0, none⟩) 1 1)) (w.alloc (.cells #[.slice sp n cap] 29)) := by
  unfold execOp
  simp only [ho]
  go_simp
end
theorem ShAt.roomed {w : World} {L : Nat → Nat} {D : Nat} {s : Sh} {v : Sv} (h : ShAt w L D s v) (r : Int) : ShAt (w.setCell ⟨D, 4, none⟩ (.int .i64 r)) L D { s with room := r } v ∧ Mv 5 L w L (w.setCell ⟨D, 4, none⟩ (.int .i64 r)) := by
  have hc := chg1 w D 4 (.int .i64 r)
  have hs : (w.setCell ⟨D, 4, none⟩ (.int .i64 r)).heap.size = w.heap.size := by simp [World.setCell]
  have n : ∀ {j : Nat}, j ≠ 1 → ∀ g, g = D → L g ≠ j := fun hj g hg => by subst hg; rw [h.ld]; exact fun e => hj e.symm
  exact ⟨h.step (s' := { s with room := r }) hc (fun g hg => n (by omega) g hg) (fun _ _ => rfl) (fun g hg => by rw [hs]; exact h.lt g hg) (h.blk.set 4 _) (row_keep h.row hc (fun g hg => ⟨n (by omega) g hg, n (by omega) g hg⟩) (fun _ _ => rfl) h.lt) ⟨rfl, rfl⟩ (own_keep h.md hc (fun g hg => n (by omega) g hg) (fun _ _ => rfl)) (own_keep h.gn hc (fun g hg => n (by omega) g hg) (fun _ _ => rfl)) (own_keep h.rd hc (fun g hg => n (by omega) g hg) (fun _ _ => rfl)) h.okm h.okg h.okr,
    ⟨hc.mono (fun g hg => by subst hg; unfold Foot; rw [h.ld]; omega), fun _ _ => rfl, fun g hg => by left; have := h.lt g; omega⟩⟩
theorem row_here {W : World} {L : Nat → Nat} {D : Nat} {s : Sh} {v : Sv} {b : Bs} {sp : Option Addr} {cap : Nat} (h : ShAt W L D s v) (hS : SrcA W sp b) (hz : sp = none → cap = 0) (hb : b.length ≤ 4000) (hbl : s.blocks.length < 30000) :
    ∃ v2 w2 x4 w4, (Builtin.append_ #[29, 29] 29 #[.slice none 0 0, .slice sp b.length cap]).run Tryz.prog W.drew = .ok v2 w2 ∧ (∃ sp2 cap2, v2 = .slice sp2 b.length cap2) ∧ Below W.heap.size W w2 ∧
      (Builtin.append_ #[46, 46] 46 #[v.bl, .slice (some ⟨w2.heap.size, 0, none⟩) 1 1]).run Tryz.prog (w2.alloc (.cells #[v2] 29)) = .ok x4 w4 ∧ (∃ sp n cap, x4 = .slice sp n cap) ∧ (∃ c, w4.cell? ⟨D, 0, none⟩ = some c) ∧ w4.frozen? ⟨D, 0, none⟩ = false ∧
      ∃ L', ShAt (w4.setCell ⟨D, 0, none⟩ x4) L' D { s with blocks := s.blocks ++ [b] } { v with bl := x4 } ∧ Mv 5 L W L' (w4.setCell ⟨D, 0, none⟩ x4) := by
  obtain ⟨v2, w2, hr2, ho2, hb2⟩ := ownB_src (w := W.drew) (B := W.heap.size) (v := .slice none 0 0) (l := []) (m := b) (sp := sp) (cap := cap) (World.ownsRow_nil _ _ _ _) (Nat.le_refl _) (by simp; omega) hS.drew hz 29
  rw [List.nil_append] at ho2
  have hbw : Below W.heap.size W w2 := (Below.refl _ _).drew.trans hb2
  obtain ⟨sp2, cap2, e2, f1, f2, f3, f4, f5⟩ := OwnB.form ho2
  have hb3 : Below W.heap.size W (w2.alloc (.cells #[v2] 29)) := hbw.alloc hbw.size _
  obtain ⟨vs, r1, r2, r3, r4, r5⟩ := h.row
  have r1' : OwnV (w2.alloc (.cells #[v2] 29)) v.bl vs := owns_chg r1 (Chg.of_below (F := fun _ => False) hb3) (fun _ _ h => h)
  have hnew : Blk (w2.alloc (.cells #[v2] 29)) w2.heap.size [v2] 29 := Blk.new' _ _ _ _ _ rfl rfl
  obtain ⟨x4, w4, hr4, ho4, hg4, hn4⟩ := row_app r1' (by omega) (u := v2) (by rw [e2]; rfl) hnew 46
  have hnD : v.bl.ownBlock ≠ some D := fun e => by have := r2 D e; rw [h.ld] at this; omega
  have hc3 : Chg (fun g => v.bl.ownBlock = some g) W w4 := (Chg.of_below hb3).grown hg4 (fun g hg => .inl hg)
  have hD4 : Blk w4 D (scells v s.room) 50 := h.blk.chg hc3 hnD
  have hc4 : Chg (fun g => g = D ∨ v.bl.ownBlock = some g) W (w4.setCell ⟨D, 0, none⟩ x4) := (hc3.mono (fun g hg => .inr hg)).setCell (.inl (.inl rfl)) 0 x4
  have hs4 : (w4.setCell ⟨D, 0, none⟩ x4).heap.size = w4.heap.size := by simp [World.setCell]
  have h24 : w2.heap.size < w4.heap.size := by have := hg4.size; simp at this; omega
  have hnx : ∀ g, x4.ownBlock = some g → v.bl.ownBlock = some g ∨ w2.heap.size < g := fun g hg => by
    rcases hn4 with e | e
    · left; rw [← e]; exact hg
    · right; rw [e] at hg; injection hg; simp at *; omega
  have hnx' : ∀ g, x4.ownBlock = some g → v.bl.ownBlock = some g ∨ W.heap.size ≤ g := fun g hg => by
    rcases hnx g hg with e | e
    · exact .inl e
    · right; have := hbw.size; omega
  have hv2 : ∀ g, v2.ownBlock = some g → W.heap.size ≤ g ∧ g < w2.heap.size := fun g hg => by
    rw [e2] at hg
    cases sp2 with
    | none => cases hg
    | some a => simp [Value.ownBlock] at hg; have := f5 a rfl; omega
  have hL0 : ∀ g, g < W.heap.size → setL L v2 10 g = L g := fun g hg => by
    unfold setL; rw [if_neg (fun e => by have := hv2 g e; omega)]
  have hL : ∀ g, g < W.heap.size → setL (setL L v2 10) x4 2 g = L g := fun g hg => by
    refine (setL_old (L := setL L v2 10) (w := W) (u := v.bl) (fun g hg' => ?_) hnx' hg).trans (hL0 g hg)
    rw [hL0 g (owns_lt r1 hg')]; exact r2 g hg'
  have hF : ∀ g, (g = D ∨ v.bl.ownBlock = some g) → L g = 1 ∨ L g = 2 := fun g hg => by
    rcases hg with rfl | hg
    · exact .inl h.ld
    · exact .inr (r2 g hg)
  refine ⟨v2, w2, x4, w4, hr2, ⟨sp2, cap2, e2⟩, hbw, hr4, ?_, hD4.has 0 (by simp [scells]), hD4.free 0, setL (setL L v2 10) x4 2, ?_, ⟨hc4.mono (fun g hg => by rcases hF g hg with e | e <;> (unfold Foot; omega)), hL, fun g hg => ?_⟩⟩
  · obtain ⟨sp, cap, e, _⟩ := owns_form ho4
    exact ⟨_, _, _, e⟩
  · have hlt : ∀ g, setL (setL L v2 10) x4 2 g ≠ 0 → g < (w4.setCell ⟨D, 0, none⟩ x4).heap.size := fun g hg => by
      rw [hs4]
      unfold setL at hg
      split at hg
      · rename_i e; exact owns_lt ho4 e
      · split at hg
        · rename_i e; have := hv2 g e; omega
        · have := h.lt g hg; have := hbw.size; omega
    refine h.step (s' := { s with blocks := s.blocks ++ [b] }) (v' := { v with bl := x4 }) hc4 (fun g hg => by rcases hF g hg with e | e <;> omega) hL hlt (hD4.set 0 x4) ?_ ⟨rfl, rfl⟩ (own_keep h.md hc4 (fun g hg => by rcases hF g hg with e | e <;> omega) hL) (own_keep h.gn hc4 (fun g hg => by rcases hF g hg with e | e <;> omega) hL) (own_keep h.rd hc4 (fun g hg => by rcases hF g hg with e | e <;> omega) hL) h.okm h.okg h.okr
    refine ⟨vs ++ [v2], owns_chg ho4 (chg1 w4 D 0 x4) (fun g hg e => ?_), fun g hg => setL_at hg, by simp [r3], fun i u b' hu hb' => ?_, fun u hu => ?_⟩
    · subst e
      rcases hnx g hg with e | e
      · exact hnD e
      · have := h.blk.lt; have := hbw.size; omega
    · by_cases hi : i < vs.length
      · rw [List.getElem?_append_left hi] at hu
        rw [List.getElem?_append_left (by omega)] at hb'
        exact (r4 i u b' hu hb').chg hc4 (fun g hg => by rcases hF g hg with e | e <;> omega) hL h.lt
      · have hlen := (List.getElem?_eq_some_iff.1 hu).1
        simp at hlen
        obtain rfl : i = vs.length := by omega
        rw [List.getElem?_append_right (Nat.le_refl _)] at hu
        rw [List.getElem?_append_right (by omega), r3] at hb'
        simp at hu hb'
        subst hu hb'
        refine ⟨sp2, cap2, e2, f1, f4, ?_, fun a ha => ?_⟩
        · refine (f3.chgF (F := fun g => v.bl.ownBlock = some g) (((Chg.refl (fun g => v.bl.ownBlock = some g) w2).alloc (.cells #[v2] 29)).grown hg4 (fun g hg => .inl hg)) (fun a ha e => by have := owns_lt r1 e; have := (f5 a ha).1; omega)).chgF (chg1 w4 D 0 x4) (fun a ha e => ?_)
          have h1 := f5 a ha
          have := h.blk.lt
          have e : a.block = D := e
          omega
        · have h1 := f5 a ha
          have hx4 : ¬ x4.ownBlock = some a.block := fun e => by
            rcases hnx _ e with e' | e'
            · have := owns_lt r1 e'; have := h1.1; omega
            · omega
          unfold setL
          rw [if_neg hx4, if_pos (by rw [e2, ha]; rfl)]
    · rcases List.mem_append.1 hu with hu | hu
      · exact r5 u hu
      · simp at hu; subst hu; rw [e2]; rfl
  · unfold setL
    split
    · left; omega
    · split
      · right; rfl
      · left; have := h.lt g; omega
theorem pc_birth (p : Pt) (n : Nat) : (pcells p).set 4 (.int .u64 (n : Int)) = pcells { p with birth := n } := by
  simp [pcells, pnums]
theorem pc_ats {p : Pt} (hp : p.OK) (l : List Nat) (hl : l.length = 4) : (pcells p).take 37 ++ l.map U16 ++ (pcells p).drop (37 + (l.map U16).length) = pcells { p with ats := l } := by
  have h1 : (pnums p ++ p.hash.map V8).length = 37 := by simp [pnums, hp.hash]
  have e : pcells p = (pnums p ++ p.hash.map V8) ++ p.ats.map U16 := by simp [pcells]
  rw [e, List.take_left' h1, List.drop_of_length_le (by simp [hl, pnums, hp.hash, hp.len])]
  simp [pcells, pnums]
structure NeS (w : World) (L : Nat → Nat) (D G R : Nat) (s1 : Sh) (p1 : Pt) (b : Bs) (sp : Option Addr) (X : World) : Prop where
  sh : ∃ L1 v1, ShAt X L1 D s1 v1 ∧ Mv 5 L w L1 X ∧ L1 G = 0 ∧ L1 R = 0
  box : Blk X G (pcells p1) 28
  res : Blk X R (pcells zeroP) 28
  src : SrcA X sp b
  lo : w.heap.size ≤ G
theorem NeS.below {w : World} {L : Nat → Nat} {D G R : Nat} {s1 : Sh} {p1 : Pt} {b : Bs} {sp : Option Addr} {X Y : World} (h : NeS w L D G R s1 p1 b sp X) (hb : Below X.heap.size X Y) : NeS w L D G R s1 p1 b sp Y := by
  obtain ⟨⟨L1, v1, h1, h2, h3, h4⟩, hg, hr, hs, hlo⟩ := h
  exact ⟨⟨L1, v1, h1.below hb, h2.trans (Mv.of_below hb h1.lt), h3, h4⟩, hg.below hb hg.lt, hr.below hb hr.lt, hs.grown hb, hlo⟩
theorem NeS.boxed {w : World} {L : Nat → Nat} {D G R : Nat} {s1 : Sh} {p1 p2 : Pt} {b : Bs} {sp : Option Addr} {X Y : World} (h : NeS w L D G R s1 p1 b sp X) (hc : Chg (fun g => g = G) X Y) (hs : Y.heap.size = X.heap.size) (hb : Blk Y G (pcells p2) 28) (hGR : R ≠ G) (hsp : ∀ a, sp = some a → a.block ≠ G) : NeS w L D G R s1 p2 b sp Y := by
  obtain ⟨⟨L1, v1, h1, h2, h3, h4⟩, hg, hr, hsr, hlo⟩ := h
  have hf : ∀ g, g = G → L1 g = 0 := fun g e => by rw [e]; exact h3
  refine ⟨⟨L1, v1, h1.out hc (fun g hg _ => .inl (hf g hg)) (fun _ _ => .inl rfl) (fun g hg => by rw [hs]; exact h1.lt g hg), ?_, h3, h4⟩, hb, hr.chg hc hGR, hsr.chgF hc hsp, hlo⟩
  exact ⟨h2.chg.trans hc (fun g e => by
    by_cases hw : g < w.heap.size
    · exfalso
      have : g = G := e
      omega
    · right; omega), h2.old, h2.new⟩
theorem NeS.roomed {w : World} {L : Nat → Nat} {D G R : Nat} {s1 : Sh} {p1 : Pt} {b : Bs} {sp : Option Addr} {X : World} (h : NeS w L D G R s1 p1 b sp X) (r : Int) (hD : D < G) (hGR : G < R) (hsp : ∀ a, sp = some a → a.block ≠ D) : NeS w L D G R { s1 with room := r } p1 b sp (X.setCell ⟨D, 4, none⟩ (.int .i64 r)) := by
  obtain ⟨⟨L1, v1, h1, h2, h3, h4⟩, hg, hr, hs, hlo⟩ := h
  obtain ⟨k1, k2⟩ := h1.roomed r
  exact ⟨⟨L1, v1, k1, h2.trans k2, h3, h4⟩, hg.other (by show G ≠ D; omega) _, hr.other (by show R ≠ D; omega) _, hs.chgF (chg1 X D 4 _) (fun a ha e => hsp a ha e), hlo⟩
theorem NeS.moved {w : World} {L : Nat → Nat} {D G R : Nat} {s1 s2 : Sh} {p1 : Pt} {b : Bs} {sp : Option Addr} {X Y : World} {L1 L2 : Nat → Nat} {v2 : Sv} (h : NeS w L D G R s1 p1 b sp X) (h0 : Mv 5 L w L1 X) (hG : L1 G = 0) (hR : L1 R = 0) (h1 : ShAt Y L2 D s2 v2) (h2 : Mv 5 L1 X L2 Y) (hsp : ∀ a, sp = some a → L1 a.block = 0 ∨ L1 a.block = 10) : NeS w L D G R s2 p1 b sp Y :=
  ⟨⟨L2, v2, h1, h0.trans h2, (h2.old G h.box.lt).trans hG, (h2.old R h.res.lt).trans hR⟩, h2.blk h.box hG, h2.blk h.res hR, h.src.chgF h2.chg (fun a ha hf => by unfold Foot at hf; have := hsp a ha; omega), h.lo⟩
theorem Chg.setsG (F : Nat → Prop) {G : Nat} (hG : F G) : ∀ (vs : List Value) (o : Nat) (w : World), Chg F w (w.setCells G o vs)
  | [], _, w => Chg.refl F w
  | v :: r, o, w => ((Chg.refl F w).setCell (.inl hG) o v).trans' (Chg.setsG F hG r (o + 1) _)
theorem setCells_size (G : Nat) : ∀ (vs : List Value) (o : Nat) (w : World), (w.setCells G o vs).heap.size = w.heap.size
  | [], _, _ => rfl
  | v :: r, o, w => (setCells_size G r (o + 1) _).trans (by simp [World.setCell])
theorem one_v8a (l : Bs) : ((l.map V8).toArray).all (·.oneCell') = true := one_ints V8 (fun _ => rfl) l
theorem results_cs {fn : Func} {p u : Tmp} (h : fn.results = #[.cell p 28, .tmp u]) (tmps : Array Value) (w : World) (g t : Nat) (cs : List Value)
    (hp : tmps.getD p undef = .pointer (some ⟨g, 0, none⟩)) (hg : Blk w g cs t) (hi : (Tryz.prog.info? 28).map (·.size) = some cs.length) :
    (results fn tmps).run Tryz.prog w = .ok (.tuple #[.agg cs.toArray, tmps.getD u undef]) w := by
  rw [results_cell_tmp h, hp]
  simp only [asAddr, Sem.run_pure, Result.andThen_ok, run_loadVar_row w g t 28 cs.toArray (0, 0) _ hg Tryz.underlying28 rfl (by simpa using hi)]
theorem chgR (w : World) (g : Nat) (c : Array Value) : Chg (fun k => k = g) w (w.setRow g c) := (Chg.refl (fun k => k = g) w).setRow (.inl rfl) c
theorem size_pcl {p : Pt} (h : p.OK) : (Tryz.prog.info? 28).map (·.size) = some (pcells p).length := by rw [pcells_length h]; exact sizeP
theorem NeS.ends {w : World} {L : Nat → Nat} {D G R : Nat} {s1 : Sh} {p1 : Pt} {b : Bs} {sp : Option Addr} {X : World} (h : NeS w L D G R s1 p1 b sp X) (hR : w.heap.size ≤ R) (q : Pt) : ShPost 5 L w D s1 (X.setRow R (pcells q).toArray) ∧ Blk (X.setRow R (pcells q).toArray) R (pcells q) 28 := by
  obtain ⟨⟨L1, v1, h1, h2, h3, h4⟩, hg, hr, hs, hlo⟩ := h
  have hc := chgR X R (pcells q).toArray
  have hz : (X.setRow R (pcells q).toArray).heap.size = X.heap.size := by simp
  refine ⟨⟨L1, v1, h1.out hc (fun g e _ => .inl (by rw [e]; exact h4)) (fun _ _ => .inl rfl) (fun g hg => by rw [hz]; exact h1.lt g hg), ?_⟩, hr.row _⟩
  exact ⟨h2.chg.trans hc (fun g e => by right; have : g = R := e; omega), h2.old, h2.new⟩
def NwPost (L : Nat → Nat) (w : World) (D : Nat) (s : Sh) (p : Pt) (b : Bs) (e : Ending) (w' : World) : Prop := e = .returned (.tuple #[.agg (pcells (nwP s p b)).toArray, .int .i64 (nwE s : Int)]) ∧ ShPost 5 L w D (nwS s p b) w'
set_option maxRecDepth 100000 in
set_option maxHeartbeats 8000000 in
theorem shNew_any {w : World} {L : Nat → Nat} {D : Nat} {s : Sh} {v : Sv} (p : Pt) (hp : p.OK) (b : Bs) (sp : Option Addr) (cap : Nat) (h : ShAt w L D s v) (hl : s.made.length < 100000000) (hbl : s.blocks.length ≤ 30000) (hr : -1 ≤ s.room ∧ s.room ≤ 1000) (hb : b.length ≤ 4000) (hS : SrcA w sp b) (hz : sp = none → cap = 0) (hspL : ∀ a, sp = some a → a.block < w.heap.size ∧ (L a.block = 0 ∨ L a.block = 10)) :
    Calls Tryz.prog 150 #[.pointer (some ⟨D, 0, none⟩), .agg (pcells p).toArray, .slice sp b.length cap] w (NwPost L w D s p b) := by
  have HPO := Lib.hid hp
  have HX : Hid (∀ z, z = (pcells zeroP).toArray → NeS w L D w.heap.size (w.heap.size + 1) s p b sp ((w.alloc (.cells (pcells p).toArray 28)).alloc (.cells z 28))) := Lib.hid (fun z hz => by
    subst hz
    have hw1 : Below w.heap.size w ((w.alloc (.cells (pcells p).toArray 28)).alloc (.cells (pcells zeroP).toArray 28)) := ((Below.refl _ _).alloc (Nat.le_refl _) _).alloc (by simp) _
    exact ⟨⟨L, v, h.below hw1, Mv.of_below hw1 h.lt, h.not (Nat.le_refl _), h.not (by omega)⟩, (Blk.new _ _ _).alloc _, Blk.new' _ _ _ _ _ (by simp) rfl, hS.grown hw1, Nat.le_refl _⟩)
  have HDG : Hid (D < w.heap.size) := Lib.hid h.blk.lt
  have HL := Lib.hid hl; have HBL := Lib.hid hbl; have HR := Lib.hid hr; have HB := Lib.hid hb; have HZ := Lib.hid hz; have HSL := Lib.hid hspL
  have H0 := Lib.hid h
  generalize hPost : NwPost L w D s p b = Post
  have HPE : Hid (∀ X, fullS s → NeS w L D w.heap.size (w.heap.size + 1) s p b sp X → Post (.returned (.tuple #[.agg (pcells zeroP).toArray, .int .i64 30])) (X.setRow (w.heap.size + 1) (pcells zeroP).toArray)) := Lib.hid fun X hf hX => by
    rw [← hPost]
    unfold NwPost nwP nwE nwS
    rw [if_pos hf, if_pos hf, if_pos hf]
    exact ⟨rfl, (hX.ends (by omega) zeroP).1⟩
  have HPG : Hid (∀ X, ¬ fullS s → NeS w L D w.heap.size (w.heap.size + 1) (nwS s p b) (newP p (s.blocks.length + 1) b) b sp X → Post (.returned (.tuple #[.agg (pcells (newP p (s.blocks.length + 1) b)).toArray, .int .i64 0])) (X.setRow (w.heap.size + 1) (pcells (newP p (s.blocks.length + 1) b)).toArray)) := Lib.hid fun X hf hX => by
    rw [← hPost]
    refine ⟨?_, (hX.ends (by omega) _).1⟩
    unfold nwP nwE
    rw [if_neg hf, if_neg hf]
    rfl
  clear hp h hl hbl hr hb hS hz hspL hPost
  go_enter Tryz.func150, Tryz.ntmps150
  go_upto_region 1 with fail
  refine (fun (k : ∀ W, NeS w L D w.heap.size (w.heap.size + 1) s p b sp W → Code.wp _ _ _ _ W) => k _ (HX.out _ rfl)) ?_
  intro W hW
  clear HX
  have HX := Lib.hid hW
  obtain ⟨G, hG⟩ : ∃ G, w.heap.size = G := ⟨_, rfl⟩
  rw [hG] at HX HPE HPG HDG ⊢
  clear hW
  obtain ⟨M, hM⟩ : ∃ M, s.blocks.length = M := ⟨_, rfl⟩
  obtain ⟨rm, hrm⟩ : ∃ r, s.room = r := ⟨_, rfl⟩
  obtain ⟨⟨L1, v1, h1, -⟩, -⟩ := HX.out
  have c4 := h1.blk.cell (j := 4) rfl
  have c0 := h1.blk.cell (j := 0) rfl
  have f4 := h1.blk.free 4
  obtain ⟨vs, ho, -, hvl, -⟩ := h1.row
  obtain ⟨sp2, cap2, e2, hc2, -⟩ := owns_form ho
  rw [hvl, hM] at e2
  rw [e2] at c0
  rw [hrm] at c4
  have HM := Lib.hid hM; have HRM := Lib.hid hrm
  clear h1 ho hvl e2 hM hrm hc2 vs
  have HSZ := Lib.hid (size_pc zeroP_ok)
  have HRB := Lib.hid HX.out.res
  by_cases hr0 : rm = 0
  · have HEND := Lib.hid (HPE.out W (.inl (by rw [HRM.out]; exact hr0)) HX.out)
    have HBE := Lib.hid ((HX.out.ends (by have := HX.out.lo; omega) zeroP).2)
    subst hr0
    go_wp2_with (first | (refine wpL_val rfl (ex_bld0 rfl) ?_) | (refine wpList_store_row rfl 28 (.tmp 6) (.tmp 21) rfl (G + 1) (pcells zeroP).toArray rfl rfl 28 _ HRB.out HSZ.out rfl (one_pc zeroP) ?_) | fail)
    refine bodyPost_ret (results_cs Tryz.results150 _ _ (G + 1) 28 _ rfl HBE.out (size_pcl zeroP_ok)) rfl ?_
    exact HEND.out
  · by_cases hmx : (30000 : Int) ≤ (M : Int)
    · have HEND := Lib.hid (HPE.out W (.inr (by rw [HM.out]; omega)) HX.out)
      have HBE := Lib.hid ((HX.out.ends (by have := HX.out.lo; omega) zeroP).2)
      go_wp2_with (first | (refine wpL_val rfl (ex_bld0 rfl) ?_) | (refine wpList_store_row rfl 28 (.tmp 6) (.tmp 21) rfl (G + 1) (pcells zeroP).toArray rfl rfl 28 _ HRB.out HSZ.out rfl (one_pc zeroP) ?_) | fail)
      refine bodyPost_ret (results_cs Tryz.results150 _ _ (G + 1) 28 _ rfl HBE.out (size_pcl zeroP_ok)) rfl ?_
      exact HEND.out
    · have HNF : Hid (¬ fullS s) := Lib.hid (by unfold fullS; rw [HRM.out, HM.out]; omega)
      have wr1 := IntWalk.i64_in (rm - 1) (by have := HR.out; rw [HRM.out] at this; omega)
      have hmf : decide ((30000 : Int) ≤ (M : Int)) = false := decide_eq_false hmx
      have hrf : ((rm : Int) == 0) = false := by simp [hr0]
      clear hmx hr0
      go_upto_region 4 with fail
      obtain ⟨r1, hr1⟩ : ∃ r1 : Int, max (rm - 1) (-1) = r1 := ⟨_, rfl⟩
      have HSN : Hid (nwS s p b = { s with room := r1, blocks := s.blocks ++ [b], made := s.made ++ [newP p (M + 1) b] }) := Lib.hid (by unfold nwS; rw [if_neg HNF.out, HRM.out, HM.out, hr1])
      rw [hr1]
      have HSP : Hid (∀ a, sp = some a → a.block < G ∧ (L a.block = 0 ∨ L a.block = 10)) := Lib.hid (by rw [← hG]; exact HSL.out)
      have HSD : Hid (∀ a, sp = some a → a.block ≠ D) := Lib.hid (fun a ha e => by have h1 := HSP.out a ha; rw [e, H0.out.ld] at h1; omega)
      refine (fun (k : ∀ X, NeS w L D G (G + 1) { s with room := r1 } p b sp X → Code.wp _ _ _ _ X) => k _ (HX.out.roomed r1 HDG.out (by omega) HSD.out)) ?_
      intro X hX
      clear c4 c0 f4 hr1 wr1 hmf hrf HRB HX HPE
      obtain ⟨L1, v1, h1, h2, h3, h4⟩ := hX.sh
      obtain ⟨v2, w2, x4, w4, hr2, ⟨spb, capb, e2⟩, hb2, hr4, hsl, ⟨_, hcell⟩, hfree, L2, h5, h6⟩ := row_here h1 hX.src HZ.out HB.out (by have := HNF.out; unfold fullS at this; rw [HM.out] at this; show s.blocks.length < 30000; rw [HM.out]; omega)
      have HY : Hid (NeS w L D G (G + 1) { s with room := r1, blocks := s.blocks ++ [b] } p b sp (w4.setCell ⟨D, 0, none⟩ x4)) := Lib.hid (hX.moved h2 h3 h4 h5 h6 (fun a ha => by have h7 := HSP.out a ha; rw [h2.old a.block (by rw [hG]; exact h7.1)]; exact h7.2))
      obtain ⟨x0, hx0⟩ : ∃ x0, v1.bl = x0 := ⟨_, rfl⟩
      have k0 : X.drew.cell? ⟨D, 0, none⟩ = some x0 := by rw [← hx0]; exact h1.blk.cell rfl
      have k2 : w2.cell? ⟨D, 0, none⟩ = some x0 := by rw [← hx0]; exact (h1.blk.below hb2 h1.blk.lt).cell rfl
      have k3 : (w2.alloc (.cells #[v2] 29)).cell? ⟨D, 0, none⟩ = some x0 := by rw [← hx0]; exact ((h1.blk.below hb2 h1.blk.lt).alloc _).cell rfl
      rw [hx0] at hr4
      clear h1 h2 h3 h4 h5 h6 hX hb2 hx0
      obtain ⟨w3, hw3⟩ : ∃ w3, w2.alloc (.cells #[v2] 29) = w3 := ⟨_, rfl⟩
      have hone : ∀ {ρ : Operand → Value} {o : Oper} {x : Operand}, o.op = .buildSlice 46 1 #[(0, x)] → ρ x = v2 → (execOp ρ o).run Tryz.prog w2 = .ok (.value (.slice (some ⟨w2.heap.size, 0, none⟩) 1 1)) w3 := fun h1 h2 => by rw [← hw3, e2]; exact ex_oneV h1 (by rw [h2, e2])
      rw [hw3] at hr4 k3
      clear e2
      refine wp_join ?_
      apply Exists.intro
      apply Exists.intro
      constructor
      · refine wp_region_sched (.take 0 (.take 1 (.take 2 (.take 3 (.take 5 (.fork 4 (.step 6 (.step 7 (.step 8 (.take 9 (.take 10 (.step 11 (.nil))))))) 6 (.fork 4 (.step 7 (.step 8 (.take 9 (.take 10 (.step 11 (.nil)))))) 7 (.step 4 (.step 8 (.take 9 (.take 10 (.step 11 (.nil))))))))))))) (by kernel_rfl) (by kernel_rfl) (fun d _ _ _ _ h => by cases h.1) (fun _ => True) trivial ?_
        refine gT (.pointer (some ⟨D, 0, none⟩)) ?_; try simp only [pS]
        refine gT (.pointer (some ⟨D, 0, none⟩)) ?_; try simp only [pS]
        refine wpG_take _ (.pointer (some ⟨D, 0, none⟩)) rfl (by rfl) (fun X hX => ex_nc rfl rfl) ?_; try simp only [pS]
        refine wpG_take _ (.pointer (some ⟨D, 0, none⟩)) rfl (by rfl) (fun X hX => ex_faS (by omega) rfl rfl) ?_; try simp only [pS]
        refine gT (.slice sp b.length cap) ?_; try simp only [pS]
        refine wpG_fork ?_ ?_
        · refine wpG_mk _ rfl (by rfl) x0 X.drew (ex_ldBbs rfl rfl k0) (fun _ => True) trivial (fun _ h => h) ?_; try simp only [pS]
          refine wpG_mk _ rfl (by rfl) v2 w2 (ex_appB rfl rfl rfl hr2) (fun _ => True) trivial (fun _ h => h) ?_; try simp only [pS]
          refine wpG_mk _ rfl (by rfl) (.slice (some ⟨w2.heap.size, 0, none⟩) 1 1) w3 (hone rfl rfl) (fun _ => True) trivial (fun _ h => h) ?_; try simp only [pS]
          refine wpG_mk _ rfl (by rfl) x4 w4 (ex_appV rfl rfl rfl hr4) (fun _ => True) trivial (fun _ h => h) ?_; try simp only [pS]
          refine wpG_take _ (.pointer (some ⟨D, 0, none⟩)) rfl (by rfl) (fun X hX => ex_nc rfl rfl) ?_; try simp only [pS]
          refine wpG_take _ (.pointer (some ⟨D, 0, none⟩)) rfl (by rfl) (fun X hX => ex_faS (by omega) rfl rfl) ?_; try simp only [pS]
          refine wpG_st _ rfl (by rfl) (w4.setCell ⟨D, 0, none⟩ x4) (ex_stV rfl rfl rfl hsl hcell hfree) (fun _ => True) trivial (fun _ h => h) ?_
          refine wpG_nil ?_
          exact ⟨rfl, rfl, rfl⟩
        · refine wpG_mk _ rfl (by rfl) v2 w2 (ex_appB rfl rfl rfl hr2) (fun _ => True) trivial (fun _ h => h) ?_; try simp only [pS]
          refine wpG_fork ?_ ?_
          · refine wpG_mk _ rfl (by rfl) x0 w2 (ex_ldBbs rfl rfl k2) (fun _ => True) trivial (fun _ h => h) ?_; try simp only [pS]
            refine wpG_mk _ rfl (by rfl) (.slice (some ⟨w2.heap.size, 0, none⟩) 1 1) w3 (hone rfl rfl) (fun _ => True) trivial (fun _ h => h) ?_; try simp only [pS]
            refine wpG_mk _ rfl (by rfl) x4 w4 (ex_appV rfl rfl rfl hr4) (fun _ => True) trivial (fun _ h => h) ?_; try simp only [pS]
            refine wpG_take _ (.pointer (some ⟨D, 0, none⟩)) rfl (by rfl) (fun X hX => ex_nc rfl rfl) ?_; try simp only [pS]
            refine wpG_take _ (.pointer (some ⟨D, 0, none⟩)) rfl (by rfl) (fun X hX => ex_faS (by omega) rfl rfl) ?_; try simp only [pS]
            refine wpG_st _ rfl (by rfl) (w4.setCell ⟨D, 0, none⟩ x4) (ex_stV rfl rfl rfl hsl hcell hfree) (fun _ => True) trivial (fun _ h => h) ?_
            refine wpG_nil ?_
            exact ⟨rfl, rfl, rfl⟩
          · refine wpG_mk _ rfl (by rfl) (.slice (some ⟨w2.heap.size, 0, none⟩) 1 1) w3 (hone rfl rfl) (fun _ => True) trivial (fun _ h => h) ?_; try simp only [pS]
            refine wpG_mk _ rfl (by rfl) x0 w3 (ex_ldBbs rfl rfl k3) (fun _ => True) trivial (fun _ h => h) ?_; try simp only [pS]
            refine wpG_mk _ rfl (by rfl) x4 w4 (ex_appV rfl rfl rfl hr4) (fun _ => True) trivial (fun _ h => h) ?_; try simp only [pS]
            refine wpG_take _ (.pointer (some ⟨D, 0, none⟩)) rfl (by rfl) (fun X hX => ex_nc rfl rfl) ?_; try simp only [pS]
            refine wpG_take _ (.pointer (some ⟨D, 0, none⟩)) rfl (by rfl) (fun X hX => ex_faS (by omega) rfl rfl) ?_; try simp only [pS]
            refine wpG_st _ rfl (by rfl) (w4.setCell ⟨D, 0, none⟩ x4) (ex_stV rfl rfl rfl hsl hcell hfree) (fun _ => True) trivial (fun _ h => h) ?_
            refine wpG_nil ?_
            exact ⟨rfl, rfl, rfl⟩
      clear k0 k2 k3 hone hw3 hr4 hr2 hsl hcell hfree
      generalize w4.setCell ⟨D, 0, none⟩ x4 = X4 at HY ⊢
      obtain ⟨⟨L3, v3, h3, -, -, -⟩, -⟩ := HY.out
      have c0 := h3.blk.cell (j := 0) rfl
      obtain ⟨vs3, ho3, -, hvl3, -⟩ := h3.row
      obtain ⟨sp3, cap3, e3, -, -⟩ := owns_form ho3
      replace hvl3 : vs3.length = M + 1 := by rw [hvl3]; simp [HM.out]
      rw [hvl3] at e3
      rw [e3] at c0
      have hDG := HDG.out
      have HM3 : Hid (M < 30000) := Lib.hid (by have := HNF.out; unfold fullS at this; rw [HM.out] at this; omega)
      have HBD3 := Lib.hid h3.blk
      have HE3 : Hid ((scells v3 r1)[0]? = some (.slice sp3 (M + 1) cap3)) := Lib.hid (by rw [← e3]; rfl)
      clear h3 ho3 hvl3 e3 vs3
      have c4 := HY.out.box.cell (j := 4) rfl
      have f4 := HY.out.box.free 4
      have hw64 : IntKind.u64.wrap ((M + 1 : Nat) : Int) = ((M + 1 : Nat) : Int) := by rw [IntKind.wrap_u64]; have := HM3.out; omega
      have hw16 : IntKind.u16.wrap ((M + 1 : Nat) : Int) = ((M + 1 : Nat) : Int) := by rw [IntKind.wrap_u16]; have := HM3.out; omega
      have HSG : Hid (∀ a, sp = some a → a.block ≠ G) := Lib.hid (fun a ha => by have := (HSP.out a ha).1; omega)
      obtain ⟨m, hm⟩ : ∃ m, M + 1 = m := ⟨_, rfl⟩
      rw [hm] at c0 hw64 hw16 HE3
      go_upto_region 6 with fail
      refine (fun (k : ∀ X, NeS w L D G (G + 1) { s with room := r1, blocks := s.blocks ++ [b] } { p with birth := m } b sp X → Blk X D (scells v3 r1) 50 → Code.wp _ _ _ _ X) => k _ (HY.out.boxed (chg1 X4 G 4 _) (by simp [World.setCell]) (by rw [← pc_birth]; exact HY.out.box.set 4 _) (by omega) HSG.out) (HBD3.out.other (a := ⟨G, 4, none⟩) (by show D ≠ G; omega) _)) ?_
      intro X5 hX5 hD5
      have HX5 := Lib.hid hX5; have HD5 := Lib.hid hD5
      have c05 := hD5.cell HE3.out
      clear hX5 hD5 c0 c4 f4 HY HBD3
      have HPB : Hid ({ p with birth := m } : Pt).OK := Lib.hid ⟨HPO.out.kind, HPO.out.level, HPO.out.obj, HPO.out.off, by have := HM3.out; show m < _; omega, HPO.out.hash, HPO.out.len, HPO.out.ats⟩
      have HTH : Hid (X5.there G 37 (([m, 0, 0, 0].map U16).toArray).size) := Lib.hid (HX5.out.box.there _ _ (by rw [pcells_length HPB.out]; simp))
      obtain ⟨_, q0⟩ := HX5.out.box.has 37 (by rw [pcells_length HPB.out]; decide)
      obtain ⟨_, q1⟩ := HX5.out.box.has 38 (by rw [pcells_length HPB.out]; decide)
      obtain ⟨_, q2⟩ := HX5.out.box.has 39 (by rw [pcells_length HPB.out]; decide)
      obtain ⟨_, q3⟩ := HX5.out.box.has 40 (by rw [pcells_length HPB.out]; decide)
      have z0 := HX5.out.box.free 37
      have z1 := HX5.out.box.free 38
      have z2 := HX5.out.box.free 39
      have z3 := HX5.out.box.free 40
      go_upto_region 7 with fail
      have HNO : Hid (bornP p m).OK := Lib.hid (bornP_ok HPO.out (by have := HM3.out; omega))
      refine (fun (k : ∀ X, NeS w L D G (G + 1) { s with room := r1, blocks := s.blocks ++ [b] } (bornP p m) b sp X → Blk X D (scells v3 r1) 50 → Code.wp _ _ _ _ X) => k _ (HX5.out.boxed (Chg.setsG (fun k => k = G) rfl _ _ _) (setCells_size _ _ _ _) (by
        have h1 := blk_setCells G 28 ([m, 0, 0, 0].map U16) 37 _ _ HX5.out.box (by rw [pcells_length HPB.out]; simp)
        rw [pc_ats HPB.out [m, 0, 0, 0] rfl] at h1
        exact h1) (by omega) HSG.out) (blk_setCells_other (by show D ≠ G; omega) _ _ _ _ HD5.out)) ?_
      intro X6 hX6 hD6
      have HX6 := Lib.hid hX6; have HD6 := Lib.hid hD6
      clear hX6 hD6 c05 HX5 HD5 HTH hw64 hw16 q0 q1 q2 q3 z0 z1 z2 z3
      have hq := qdigest_any (bornP p m) HNO.out b sp cap X6 HB.out HZ.out HX6.out.src
      obtain ⟨dg, hdg⟩ : ∃ dg, digest (tagB (bornP p m) ++ b) = dg := ⟨_, rfl⟩
      have HDG2 := Lib.hid hdg
      have HDL : Hid (dg.length = 32) := Lib.hid (by rw [← hdg]; exact digest_length _)
      rw [hdg] at hq
      have HQD := Lib.hid hq
      clear hq hdg
      have HQE : Hid ({ bornP p m with hash := dg } = newP p m b) := Lib.hid (by unfold newP; rw [HDG2.out])
      have HSZH : Hid ((Tryz.prog.info? 25).map (·.size) = some ((dg.map V8).toArray).size) := Lib.hid (by rw [List.size_toArray, List.length_map, HDL.out]; exact sizeA32)
      go_wp2_with (first | (refine wpL_val rfl (ex_ldP HNO.out HX6.out.box rfl rfl) ?_) | fail)
      refine HQD.out.mono ?_
      rintro e X7 ⟨rfl, hb7⟩
      have HX7 := Lib.hid (HX6.out.below hb7)
      have HD7 := Lib.hid (HD6.out.below hb7 HD6.out.lt)
      clear hb7 HX6 HD6 HQD
      have HTH : Hid (X7.there G 5 ((dg.map V8).toArray).size) := Lib.hid (HX7.out.box.there _ _ (by rw [pcells_length HNO.out, List.size_toArray, List.length_map, HDL.out]; decide))
      go_upto_region 8 with (first | (refine wpList_store_mid rfl 25 (.tmp 60) (.tmp 59) rfl G 5 ((dg.map V8).toArray) rfl rfl HTH.out HSZH.out (one_v8a dg) ?_) | fail)
      refine (fun (k : ∀ X, NeS w L D G (G + 1) { s with room := r1, blocks := s.blocks ++ [b] } (newP p m b) b sp X → Code.wp _ _ _ _ X) => k _ (HX7.out.boxed (Chg.setsG (fun k => k = G) rfl _ _ _) (setCells_size _ _ _ _) (by
        have h1 := blk_setCells G 28 (dg.map V8) 5 _ _ HX7.out.box (by rw [pcells_length HNO.out, List.length_map, HDL.out]; decide)
        rw [pc_hash HNO.out dg HDL.out, HQE.out] at h1
        exact h1) (by omega) HSG.out)) ?_
      intro X hX8
      have HX8 := Lib.hid hX8
      clear hX8 HX7 HD7 HTH HQE HSZH
      have HNP : Hid (newP p m b).OK := Lib.hid (newP_ok HPO.out (by have := HM3.out; omega) b)
      obtain ⟨np, hnp⟩ : ∃ np, newP p m b = np := ⟨_, rfl⟩
      have HNP2 := Lib.hid hnp
      rw [hnp] at HX8 HNP
      clear hnp
      obtain ⟨L8, v8, h8, m8, l8, r8⟩ := HX8.out.sh
      have hnD := h8.notD h8.md.2 (by omega)
      have hGn : v8.md.ownBlock ≠ some G := fun e => by have h1 := h8.md.2 G e; omega
      have hGD : G ≠ D := by omega
      obtain ⟨v3', w3', hr, hsl, ⟨_, hcell⟩, hfree, hoth, k1, k2, k3, k4, k5⟩ := app_here (W := X) (k := 2) h8.md.1 h8.blk hnD HNP.out HL.out (by simp [scells])
      have hS3 := (hoth HX8.out.box hGn).1
      have hS4 := (hoth HX8.out.box hGn).2 hGD
      have hend := h8.madee HNP.out k1 k2 k3 k4 k5
      obtain ⟨L9, v9, h9, m9⟩ := hend
      have HX9 : Hid (NeS w L D G (G + 1) (nwS s p b) np b sp (w3'.setCell ⟨D, 2, none⟩ v3')) := Lib.hid (by
        have h10 := HX8.out.moved m8 l8 r8 h9 m9 (fun a ha => by have h7 := HSP.out a ha; rw [m8.old a.block (by rw [hG]; exact h7.1)]; exact h7.2)
        rw [HSN.out, hm, HNP2.out]
        exact h10)
      have HPZ : Hid (∀ X, NeS w L D G (G + 1) (nwS s p b) np b sp X → Post (.returned (.tuple #[.agg (pcells np).toArray, .int .i64 0])) (X.setRow (G + 1) (pcells np).toArray)) := Lib.hid (by
        have h11 := fun X => HPG.out X HNF.out
        rw [HM.out, hm, HNP2.out] at h11
        exact h11)
      have hc1 : X.drew.cell? ⟨D, 2, none⟩ = some v8.md := h8.blk.cell rfl
      have hc2 : (X.drew.alloc (.cells (pcells np).toArray 28)).cell? ⟨D, 2, none⟩ = some v8.md := (h8.blk.drew.alloc _).cell rfl
      have hS2 : Blk (X.drew.alloc (.cells (pcells np).toArray 28)) G (pcells np) 28 := HX8.out.box.drew.alloc _
      obtain ⟨W2, hW2⟩ : ∃ W2, X.drew.alloc (.cells (pcells np).toArray 28) = W2 := ⟨_, rfl⟩
      have hone : ∀ {ρ : Operand → Value} {o : Oper} {x : Operand}, o.op = .buildSlice 48 1 #[(0, x)] → ρ x = .agg (pcells np).toArray → (execOp ρ o).run Tryz.prog X.drew = .ok (.value (.slice (some ⟨X.drew.heap.size, 0, none⟩) 1 1)) W2 := fun h1 h2 => by rw [← hW2]; exact q_one np h1 h2 HNP.out
      rw [hW2] at hr hc2 hS2
      clear h8 m8 l8 r8 hnD hGn hoth k1 k2 k3 k4 k5 h9 m9 HPG
      refine wp_join ?_
      apply Exists.intro
      apply Exists.intro
      constructor
      · refine wp_region_sched (.take 0 (.take 1 (.take 2 (.take 3 (.take 5 (.fork 4 (.step 6 (.step 7 (.take 8 (.take 9 (.step 10 (.nil)))))) 6 (.step 4 (.step 7 (.take 8 (.take 9 (.step 10 (.nil)))))))))))) (by kernel_rfl) (by kernel_rfl) (fun d _ _ _ _ h => by cases h.1) (fun X => Blk X G (pcells np) 28) (HX8.out.box.drew) ?_
        refine gT (.pointer (some ⟨D, 0, none⟩)) ?_; try simp only [pS]
        refine gT (.pointer (some ⟨D, 0, none⟩)) ?_; try simp only [pS]
        refine wpG_take _ (.pointer (some ⟨D, 0, none⟩)) rfl (by rfl) (fun X hX => ex_nc rfl rfl) ?_; try simp only [pS]
        refine wpG_take _ (.pointer (some ⟨D, 2, none⟩)) rfl (by rfl) (fun X hX => ex_faS (by omega) rfl rfl) ?_; try simp only [pS]
        refine wpG_take _ (.agg (pcells np).toArray) rfl (by rfl) (fun X hX => ex_ldP HNP.out hX rfl rfl) ?_; try simp only [pS]
        refine wpG_fork (wpG_mk _ rfl (by rfl) v8.md X.drew (ex_ldPs rfl rfl hc1) (fun X => Blk X G (pcells np) 28) (HX8.out.box.drew) (fun _ h => h) ?_) ?_; try simp only [pS]
        refine wpG_mk _ rfl (by rfl) (.slice (some ⟨X.drew.heap.size, 0, none⟩) 1 1) W2 (hone rfl rfl) (fun X => Blk X G (pcells np) 28) hS2 (fun _ h => h) ?_; try simp only [pS]
        rotate_left
        refine wpG_mk _ rfl (by rfl) (.slice (some ⟨X.drew.heap.size, 0, none⟩) 1 1) W2 (hone rfl rfl) (fun X => Blk X G (pcells np) 28) hS2 (fun _ h => h) ?_; try simp only [pS]
        refine wpG_mk _ rfl (by rfl) v8.md W2 (ex_ldPs rfl rfl hc2) (fun X => Blk X G (pcells np) 28) hS2 (fun _ h => h) ?_; try simp only [pS]
        all_goals
          refine wpG_mk _ rfl (by rfl) v3' w3' (ex_appP rfl rfl rfl hr) (fun X => Blk X G (pcells np) 28) hS3 (fun _ h => h) ?_; try simp only [pS]
          refine wpG_take _ (.pointer (some ⟨D, 0, none⟩)) rfl (by rfl) (fun X hX => ex_nc rfl rfl) ?_; try simp only [pS]
          refine wpG_take _ (.pointer (some ⟨D, 2, none⟩)) rfl (by rfl) (fun X hX => ex_faS (by omega) rfl rfl) ?_; try simp only [pS]
          refine wpG_st _ rfl (by rfl) (w3'.setCell ⟨D, 2, none⟩ v3') (ex_stPs rfl rfl rfl hsl hcell hfree) (fun X => Blk X G (pcells np) 28) hS4 (fun _ h => h) ?_
          refine wpG_nil ?_
          exact ⟨rfl, rfl, rfl⟩
      clear hcell hfree hS3 hS4 hr hc1 hc2 hS2 hone hW2 hsl
      generalize w3'.setCell ⟨D, 2, none⟩ v3' = X9 at HX9 ⊢
      have HSN2 := Lib.hid (size_pc HNP.out)
      have HRB := Lib.hid HX9.out.res
      have HZN : Hid ((pcells zeroP).toArray.size = (pcells np).toArray.size) := Lib.hid (by rw [List.size_toArray, List.size_toArray, pcells_length HNP.out, pcells_length zeroP_ok])
      have HEND := Lib.hid (HPZ.out X9 HX9.out)
      have HBE := Lib.hid ((HX9.out.ends (by have := HX9.out.lo; omega) np).2)
      go_wp2_with (first | (refine wpL_val rfl (ex_ldP HNP.out HX9.out.box rfl rfl) ?_) | (refine wpList_store_row rfl 28 (.tmp 6) (.tmp 71) rfl (G + 1) (pcells np).toArray rfl rfl 28 _ HRB.out HSN2.out HZN.out (one_pc np) ?_) | fail)
      refine bodyPost_ret (results_cs Tryz.results150 _ _ (G + 1) 28 _ rfl HBE.out (size_pcl HNP.out)) rfl ?_
      exact HEND.out
end Go.Proofs.YtjgjohdeeeoeoaaGreatDoor
