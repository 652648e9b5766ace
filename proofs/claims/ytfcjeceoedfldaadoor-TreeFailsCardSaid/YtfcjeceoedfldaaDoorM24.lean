/- The tree's old and anew. -/
import Derived.Test.YtfcjeceoedfldaaDoorM23
namespace Go.Proofs.YtfcjeceoedfldaaDoor
open Go.RowKit

attribute [local go_sem] Oper.semAt_some

theorem sizeMk : (Tryd.prog.info? 63).map (·.size) = some 2 := by kernel_rfl
theorem ex_ldMk {ρ : Operand → Value} {o : Oper} {x : Operand} {w : World} {D obj g : Nat} {t' : TypeId} (hB : Blk w g (mcells D obj) t') (ho : o.op = .load 63 x) (hx : ρ x = .pointer (some ⟨g, 0, none⟩)) : (execOp ρ o).run Tryd.prog w = .ok (.value (.agg (mcells D obj).toArray)) w :=
  ex_ld (ty := 63) (cs := mcells D obj) ho hx (rng_all hB) Tryd.underlying63 rfl (by rw [sizeMk]; rfl)
/-- What stands in old. -/
structure OlS (L : Nat → Nat) (w : World) (D obj : Nat) (p : Pt) (was now : List Pt) (G : Nat) (s : Sh) (X : World) : Prop where
  sh : ∃ L1 v1, ShAt X L1 D s v1 ∧ Mv 5 L w L1 X ∧ L1 G = 0 ∧ L1 (G + 1) = 0
  mb : Blk X G (mcells D obj) 63
  p : Blk X (G + 1) (pcells p) 37
theorem OlS.below {L : Nat → Nat} {w : World} {D obj : Nat} {p : Pt} {was now : List Pt} {G : Nat} {s : Sh} {X Y : World} (h : OlS L w D obj p was now G s X) (hb : Below X.heap.size X Y) : OlS L w D obj p was now G s Y := by
  obtain ⟨⟨L1, v1, h1, h2, h3⟩, k1, k2⟩ := h
  exact ⟨⟨L1, v1, h1.below hb, h2.trans (Mv.of_below hb h1.lt), h3⟩, k1.below hb k1.lt, k2.below hb k2.lt⟩
theorem OlS.moved {L L1 : Nat → Nat} {w : World} {D obj : Nat} {p : Pt} {was now : List Pt} {G : Nat} {s s' : Sh} {X Y : World} (h : OlS L w D obj p was now G s X) (hm : Mv 5 L w L1 X) (hl : L1 G = 0 ∧ L1 (G + 1) = 0) (hp : ShPost 5 L1 X D s' Y) : OlS L w D obj p was now G s' Y := by
  obtain ⟨L2, v2, k1, k2⟩ := hp
  exact ⟨⟨L2, v2, k1, hm.trans k2, (k2.old _ h.mb.lt).trans hl.1, (k2.old _ h.p.lt).trans hl.2⟩, k2.blk h.mb hl.1, k2.blk h.p hl.2⟩
theorem OlS.post {L : Nat → Nat} {w : World} {D obj : Nat} {p : Pt} {was now : List Pt} {G : Nat} {s : Sh} {X : World} (h : OlS L w D obj p was now G s X) : ShPost 5 L w D s X := by
  obtain ⟨⟨L1, v1, h1, h2, h3⟩, k1, k2⟩ := h
  exact ⟨L1, v1, h1, h2⟩
set_option maxRecDepth 100000 in
set_option maxHeartbeats 8000000 in
theorem trOld_any {w : World} {L : Nat → Nat} {D : Nat} {s : Sh} {v : Sv} {m : Nat} (obj : Nat) (p : Pt) (hp : p.OK) (lv : Nat) (was now : List Pt) (hwas : NOK was) (hnow : NOK now) (h : ShAt w L D s v) (hk : Lim m s) (hm : m + 9 < 1000000) :
    Calls Tryd.prog 26 #[.agg (mcells D obj).toArray, .agg (pcells p).toArray, .int .u8 (lv : Int), .agg (ncells was).toArray, .agg (ncells now).toArray] w (LsPost L w D (oldN s p lv was now) (m + 9)) := by
  have HPO := Lib.hid hp
  have HA := Lib.hid hwas; have HB := Lib.hid hnow
  have hw1 : Below w.heap.size w ((((w.alloc (.cells (mcells D obj).toArray 63)).alloc (.cells (pcells p).toArray 37)).alloc (.cells (ncells was).toArray 73)).alloc (.cells (ncells now).toArray 73)) := ((((Below.refl _ _).alloc (Nat.le_refl _) _).alloc (by simp) _).alloc (by simp; omega) _).alloc (by simp; omega) _
  have HX : Hid (OlS L w D obj p was now w.heap.size s ((((w.alloc (.cells (mcells D obj).toArray 63)).alloc (.cells (pcells p).toArray 37)).alloc (.cells (ncells was).toArray 73)).alloc (.cells (ncells now).toArray 73)) ∧ Blk ((((w.alloc (.cells (mcells D obj).toArray 63)).alloc (.cells (pcells p).toArray 37)).alloc (.cells (ncells was).toArray 73)).alloc (.cells (ncells now).toArray 73)) (w.heap.size + 1 + 1) (ncells was) 73 ∧ Blk ((((w.alloc (.cells (mcells D obj).toArray 63)).alloc (.cells (pcells p).toArray 37)).alloc (.cells (ncells was).toArray 73)).alloc (.cells (ncells now).toArray 73)) (w.heap.size + 1 + 1 + 1) (ncells now) 73) := Lib.hid
    ⟨⟨⟨L, v, h.below hw1, Mv.of_below hw1 h.lt, h.not (Nat.le_refl _), h.not (by omega)⟩, (((Blk.new _ _ _).alloc _).alloc _).alloc _, ((Blk.new' _ _ _ _ _ (by simp) rfl).alloc _).alloc _⟩, (Blk.new' _ _ _ _ _ (by simp) rfl).alloc _, Blk.new' _ _ _ _ _ (by simp) rfl⟩
  have HK := Lib.hid hk; have HM := Lib.hid hm
  obtain ⟨r, hr⟩ : ∃ r, oldN s p lv was now = r := ⟨_, rfl⟩
  have HR := Lib.hid hr
  rw [hr]
  generalize hPost : LsPost L w D r (m + 9) = Post
  have HP : Hid (∀ w', ShPost 5 L w D r w' → Lim (m + 9) r → Post (.returned (.tuple #[])) w') := Lib.hid fun w' h2 h3 => by rw [← hPost]; exact ⟨rfl, h2, h3⟩
  clear hp hwas hnow h hk hm hr hPost hw1
  -- behind lost, or not
  have HREST : Hid (∀ s2 X, r = (if eqP p zeroP = true then s2 else oldS s2 p) → OlS L w D obj p was now w.heap.size s2 X → Lim (m + 8) s2 → (eqP p zeroP = true → Post (.returned (.tuple #[])) X) ∧ (eqP p zeroP = false → ∃ L1, Mv 5 L w L1 X ∧ L1 w.heap.size = 0 ∧ Calls Tryd.prog 93 #[.pointer (some ⟨D, 0, none⟩), .agg (pcells p).toArray] X fun e w' => e = .returned (.tuple #[]) ∧ Post (.returned (.tuple #[])) w')) := Lib.hid (by
    intro s2 X hr2 hX hl
    refine ⟨fun hz => HP.out X (by rw [hr2, if_pos hz]; exact hX.post) (by rw [hr2, if_pos hz]; exact hl.mono (by omega) HM.out), fun hz => ?_⟩
    obtain ⟨⟨L1, v1, h1, h2, h3⟩, k1, k2⟩ := hX
    refine ⟨L1, h2, h3.1, (shOld_any p HPO.out h1 (by have := hl.gn; have := HM.out; omega)).mono ?_⟩
    rintro e w' ⟨rfl, hp⟩
    refine ⟨rfl, HP.out w' ?_ ?_⟩
    · rw [hr2, if_neg (by rw [hz]; decide)]
      exact ShPost.mv h2 hp
    · rw [hr2, if_neg (by rw [hz]; decide)]
      exact hl.oldS HM.out)
  clear HP
  go_enter Tryd.func26, Tryd.ntmps26
  go_upto_region 1 with fail
  refine (fun (k : ∀ W, (OlS L w D obj p was now w.heap.size s W ∧ Blk W (w.heap.size + 1 + 1) (ncells was) 73 ∧ Blk W (w.heap.size + 1 + 1 + 1) (ncells now) 73) → Code.wp _ _ _ _ W) => k _ HX.out) ?_
  intro W hW
  obtain ⟨G, hG⟩ : ∃ g, w.heap.size = g := ⟨_, rfl⟩
  rw [hG] at hW HREST ⊢
  have HX1 := Lib.hid hW.1; have HBA := Lib.hid hW.2.1; have HBB := Lib.hid hW.2.2
  clear hW HX hG
  have HTAIL : Hid (∀ s2 X, r = (if eqP p zeroP = true then s2 else oldS s2 p) → OlS L w D obj p was now G s2 X → Lim (m + 8) s2 → True) := Lib.hid (fun _ _ _ _ _ => trivial)
  by_cases h1 : lv = 1
  · subst h1
    have HR2 : Hid (r = (if eqP p zeroP = true then lostS s was now else oldS (lostS s was now) p)) := Lib.hid (by rw [← HR.out]; unfold oldN; rfl)
    obtain ⟨⟨L1, v1, e1, e2, e3⟩, e4, e5⟩ := HX1.out
    have HLO := Lib.hid (trLost_any obj was now HA.out HB.out e1 HK.out (by have := HM.out; omega))
    have HMV : Hid (∀ Y, ShPost 5 L1 W D (lostS s was now) Y → OlS L w D obj p was now G (lostS s was now) Y) := Lib.hid (fun Y hY => HX1.out.moved e2 e3 hY)
    clear e1 e2 e3 e4 e5 HR HTAIL
    go_wp2_with (first | (refine wpL_val rfl (ex_ldMk HX1.out.mb rfl rfl) ?_) | (refine wpL_val rfl (ex_ldN HA.out HBA.out rfl rfl) ?_) | (refine wpL_val rfl (ex_ldN HB.out HBB.out rfl rfl) ?_) | fail)
    refine HLO.out.mono ?_
    rintro e X2 ⟨rfl, hp2, hl2⟩
    have HX2 := Lib.hid (HMV.out X2 hp2)
    have HL2 := Lib.hid hl2
    clear hp2 hl2 HLO HMV HX1 HBA HBB
    go_wp2_with (first | (refine wpL_val rfl (ex_ldP HPO.out HX2.out.p rfl rfl) ?_) | fail)
    refine (trHole_any p HPO.out X2).mono ?_
    rintro e X3 ⟨rfl, hb3⟩
    have HX3 := Lib.hid (HX2.out.below hb3)
    have HT := HREST.out _ X3 HR2.out HX3.out HL2.out
    clear hb3 HX2
    cases hz : eqP p zeroP
    · obtain ⟨L3, e1, e2, hc⟩ := HT.2 hz
      have HC := Lib.hid hc
      have c0 : X3.cell? ⟨G, 0, none⟩ = some (.iface 25 (.pointer (some ⟨D, 0, none⟩))) := HX3.out.mb.cell rfl
      clear HT e1 e2 hc
      go_wp2_with (first | (refine wpL_val rfl (ex_ldP HPO.out HX3.out.p rfl rfl) ?_) | fail)
      refine HC.out.mono ?_
      rintro e X4 ⟨rfl, hpost⟩
      have HE := Lib.hid hpost
      clear hpost c0 HX3 HC
      go_wp2_with fail
      first | exact HE.out | (go_end0; exact HE.out)
    · have HE := Lib.hid (HT.1 hz)
      clear HT
      go_wp2_with fail
      first | exact HE.out | (go_end0; exact HE.out)
  · have HR2 : Hid (r = (if eqP p zeroP = true then s else oldS s p)) := Lib.hid (by rw [← HR.out]; unfold oldN; rw [if_neg h1])
    have h1' : ((lv : Int) == 1) = false := by simp; omega
    clear HR HTAIL h1
    go_wp2_with (first | (refine wpL_val rfl (ex_ldP HPO.out HX1.out.p rfl rfl) ?_) | fail)
    refine (trHole_any p HPO.out W).mono ?_
    rintro e X3 ⟨rfl, hb3⟩
    have HX3 := Lib.hid (HX1.out.below hb3)
    have HT := HREST.out _ X3 HR2.out HX3.out (HK.out.mono (by omega) (by have := HM.out; omega))
    clear hb3 HX1
    cases hz : eqP p zeroP
    · obtain ⟨L3, e1, e2, hc⟩ := HT.2 hz
      have HC := Lib.hid hc
      have c0 : X3.cell? ⟨G, 0, none⟩ = some (.iface 25 (.pointer (some ⟨D, 0, none⟩))) := HX3.out.mb.cell rfl
      clear HT e1 e2 hc
      go_wp2_with (first | (refine wpL_val rfl (ex_ldP HPO.out HX3.out.p rfl rfl) ?_) | fail)
      refine HC.out.mono ?_
      rintro e X4 ⟨rfl, hpost⟩
      have HE := Lib.hid hpost
      clear hpost c0 HX3 HC
      go_wp2_with fail
      first | exact HE.out | (go_end0; exact HE.out)
    · have HE := Lib.hid (HT.1 hz)
      clear HT
      go_wp2_with fail
      first | exact HE.out | (go_end0; exact HE.out)
end Go.Proofs.YtfcjeceoedfldaaDoor
/- The tree's anew. -/
namespace Go.Proofs.YtfcjeceoedfldaaDoor
open Go.RowKit

attribute [local go_sem] Oper.semAt_some

def tagP (lv obj off : Nat) : Pt := { zeroP with kind := 3, level := lv, obj := obj, off := off }
theorem tagP_ok {lv obj off : Nat} (h1 : lv < 256) (h2 : obj < 65536) (h3 : off < 4294967296) : (tagP lv obj off).OK :=
  ⟨by simp [tagP], h1, h2, h3, by simp [tagP, zeroP], by simp [tagP, zeroP], by simp [tagP, zeroP], fun x hx => by simp [tagP, zeroP] at hx; subst hx; omega⟩
def anP (s : Sh) (ns : List Pt) (lv obj off : Nat) : Pt := if ns = holes then zeroP else if putOk ns = false then zeroP else nwP s (tagP lv obj off) (nodeB ns)
def anE (s : Sh) (ns : List Pt) : Nat := if ns = holes then 0 else if putOk ns = false then 5 else nwE s
def anS (s : Sh) (ns : List Pt) (lv obj off : Nat) : Sh := if ns = holes then s else if putOk ns = false then s else nwS s (tagP lv obj off) (nodeB ns)
theorem Lim.nwS {m : Nat} {s : Sh} {p : Pt} {b : Bs} (h : Lim m s) (hm : m + 1 < 1000000) : Lim (m + 1) (nwS s p b) := by
  unfold Go.Proofs.YtfcjeceoedfldaaDoor.nwS
  split
  · exact h.mono (by omega) hm
  · rename_i hf
    unfold fullS at hf
    have := h.rm
    exact ⟨Nat.le_trans h.rd (by omega), by have := h.md; simp; omega, Nat.le_trans h.gn (by omega), hm, by have := h.bl; simp; omega, h.bd, by show -1 ≤ max (s.room - 1) (-1) ∧ max (s.room - 1) (-1) ≤ 1000; omega⟩
theorem nwP_full {s : Sh} {p : Pt} {b : Bs} (h : nwE s ≠ 0) : nwP s p b = zeroP := by
  unfold nwP
  unfold nwE at h
  split
  · rfl
  · rename_i hf; rw [if_neg hf] at h; exact absurd rfl h
/-- What stands in anew. -/
structure AnS (L : Nat → Nat) (w : World) (D obj : Nat) (ns : List Pt) (G : Nat) (s : Sh) (X : World) : Prop where
  sh : ∃ L1 v1, ShAt X L1 D s v1 ∧ Mv 5 L w L1 X ∧ L1 G = 0 ∧ L1 (G + 1) = 0 ∧ L1 (G + 1 + 1) = 0
  mb : Blk X G (mcells D obj) 63
  nd : Blk X (G + 1) (ncells ns) 73
  res : Blk X (G + 1 + 1) (pcells zeroP) 37
  lo : w.heap.size ≤ G
theorem AnS.below {L : Nat → Nat} {w : World} {D obj : Nat} {ns : List Pt} {G : Nat} {s : Sh} {X Y : World} (h : AnS L w D obj ns G s X) (hb : Below X.heap.size X Y) : AnS L w D obj ns G s Y := by
  obtain ⟨⟨L1, v1, h1, h2, h3⟩, k1, k2, k3, k4⟩ := h
  exact ⟨⟨L1, v1, h1.below hb, h2.trans (Mv.of_below hb h1.lt), h3⟩, k1.below hb k1.lt, k2.below hb k2.lt, k3.below hb k3.lt, k4⟩
theorem AnS.moved {L L1 : Nat → Nat} {w : World} {D obj : Nat} {ns : List Pt} {G : Nat} {s s' : Sh} {X Y : World} (h : AnS L w D obj ns G s X) (hm : Mv 5 L w L1 X) (hl : L1 G = 0 ∧ L1 (G + 1) = 0 ∧ L1 (G + 1 + 1) = 0) (hp : ShPost 5 L1 X D s' Y) : AnS L w D obj ns G s' Y := by
  obtain ⟨L2, v2, k1, k2⟩ := hp
  exact ⟨⟨L2, v2, k1, hm.trans k2, (k2.old _ h.mb.lt).trans hl.1, (k2.old _ h.nd.lt).trans hl.2.1, (k2.old _ h.res.lt).trans hl.2.2⟩, k2.blk h.mb hl.1, k2.blk h.nd hl.2.1, k2.blk h.res hl.2.2, h.lo⟩
theorem AnS.ends {L : Nat → Nat} {w : World} {D obj : Nat} {ns : List Pt} {G : Nat} {s : Sh} {X : World} (h : AnS L w D obj ns G s X) (q : Pt) : ShPost 5 L w D s (X.setRow (G + 1 + 1) (pcells q).toArray) ∧ Blk (X.setRow (G + 1 + 1) (pcells q).toArray) (G + 1 + 1) (pcells q) 37 := by
  obtain ⟨⟨L1, v1, h1, h2, h3⟩, k1, k2, k3, k4⟩ := h
  have hc := chgR X (G + 1 + 1) (pcells q).toArray
  have hz : (X.setRow (G + 1 + 1) (pcells q).toArray).heap.size = X.heap.size := by simp
  refine ⟨⟨L1, v1, h1.out hc (fun g e _ => .inl (by rw [e]; exact h3.2.2)) (fun _ _ => .inl rfl) (fun g hg => by rw [hz]; exact h1.lt g hg), ?_⟩, k3.row _⟩
  exact ⟨h2.chg.trans hc (fun g e => by right; have : g = G + 1 + 1 := e; omega), h2.old, h2.new⟩
def AnPost (L : Nat → Nat) (w : World) (D : Nat) (s : Sh) (ns : List Pt) (lv obj off m : Nat) (e : Ending) (w' : World) : Prop :=
  e = .returned (.tuple #[.agg (pcells (anP s ns lv obj off)).toArray, .int .i64 (anE s ns : Int)]) ∧ ShPost 5 L w D (anS s ns lv obj off) w' ∧ Lim m (anS s ns lv obj off)
theorem built_tag (lv obj off : Nat) : Tryd.prog.built 37 [(0, .int .u8 3), (1, .int .u8 (lv : Int)), (2, .int .u16 (obj : Int)), (3, .int .u32 (off : Int))] = some (pcells (tagP lv obj off)).toArray := by kernel_rfl
theorem ex_bldT {ρ : Operand → Value} {o : Oper} {x y z u : Operand} {w : World} {lv obj off : Nat} (ho : o.op = .build 37 #[(0, x), (1, y), (2, z), (3, u)]) (hx : ρ x = .int .u8 3) (hy : ρ y = .int .u8 (lv : Int)) (hz : ρ z = .int .u16 (obj : Int)) (hu : ρ u = .int .u32 (off : Int)) :
    (execOp ρ o).run Tryd.prog w = .ok (.value (.agg (pcells (tagP lv obj off)).toArray)) w := by
  have hr : (Instr.build 37 #[(0, .int .u8 3), (1, .int .u8 (lv : Int)), (2, .int .u16 (obj : Int)), (3, .int .u32 (off : Int))]).run Tryd.prog w = .ok (.agg (pcells (tagP lv obj off)).toArray) w := run_build w 37 _ _ (built_tag lv obj off)
  unfold execOp
  simp only [ho]
  rw [show (Array.map (fun x : Nat × Operand => (x.1, ρ x.2)) #[(0, x), (1, y), (2, z), (3, u)]) = #[(0, .int .u8 3), (1, .int .u8 (lv : Int)), (2, .int .u16 (obj : Int)), (3, .int .u32 (off : Int))] by simp [hx, hy, hz, hu]]
  simp only [Sem.run_bind, hr, Result.andThen_ok, Sem.run_pure]
set_option maxRecDepth 100000 in
set_option maxHeartbeats 8000000 in
theorem trAnew_any {w : World} {L : Nat → Nat} {D : Nat} {s : Sh} {v : Sv} {m : Nat} (obj : Nat) (ns : List Pt) (hns : NOK ns) (lv off : Nat) (hlv : lv < 256) (hobj : obj < 65536) (hoff : off < 4294967296) (h : ShAt w L D s v) (hk : Lim m s) (hm : m + 1 < 1000000) :
    Calls Tryd.prog 27 #[.agg (mcells D obj).toArray, .agg (ncells ns).toArray, .int .u8 (lv : Int), .int .u32 (off : Int)] w (AnPost L w D s ns lv obj off (m + 1)) := by
  have HA := Lib.hid hns
  have HX : Hid (∀ z, z = (pcells zeroP).toArray → AnS L w D obj ns w.heap.size s (((w.alloc (.cells (mcells D obj).toArray 63)).alloc (.cells (ncells ns).toArray 73)).alloc (.cells z 37))) := Lib.hid (fun z hz => by
    subst hz
    have hw1 : Below w.heap.size w (((w.alloc (.cells (mcells D obj).toArray 63)).alloc (.cells (ncells ns).toArray 73)).alloc (.cells (pcells zeroP).toArray 37)) := (((Below.refl _ _).alloc (Nat.le_refl _) _).alloc (by simp) _).alloc (by simp; omega) _
    exact ⟨⟨L, v, h.below hw1, Mv.of_below hw1 h.lt, h.not (Nat.le_refl _), h.not (by omega), h.not (by omega)⟩, ((Blk.new _ _ _).alloc _).alloc _, (Blk.new' _ _ _ _ _ (by simp) rfl).alloc _, Blk.new' _ _ _ _ _ (by simp) rfl, Nat.le_refl _⟩)
  have HK := Lib.hid hk; have HM := Lib.hid hm
  have HTG : Hid (tagP lv obj off).OK := Lib.hid (tagP_ok hlv hobj hoff)
  have HSZ := Lib.hid (size_pc zeroP_ok)
  obtain ⟨rp, hrp⟩ : ∃ r, anP s ns lv obj off = r := ⟨_, rfl⟩
  obtain ⟨re, hre⟩ : ∃ r, anE s ns = r := ⟨_, rfl⟩
  obtain ⟨rs, hrs⟩ : ∃ r, anS s ns lv obj off = r := ⟨_, rfl⟩
  have HRP := Lib.hid hrp; have HRE := Lib.hid hre; have HRS := Lib.hid hrs
  generalize hPost : AnPost L w D s ns lv obj off (m + 1) = Post
  have HP : Hid (∀ w', ShPost 5 L w D rs w' → Lim (m + 1) rs → Post (.returned (.tuple #[.agg (pcells rp).toArray, .int .i64 (re : Int)])) w') := Lib.hid fun w' h2 h3 => by rw [← hPost]; unfold AnPost; rw [hrp, hre, hrs]; exact ⟨rfl, h2, h3⟩
  have HLV : Hid (lv < 256 ∧ obj < 65536 ∧ off < 4294967296) := Lib.hid ⟨hlv, hobj, hoff⟩
  clear hns h hk hm hPost hrp hre hrs hlv hobj hoff
  go_enter Tryd.func27, Tryd.ntmps27
  go_upto_region 1 with fail
  refine (fun (k : ∀ W, AnS L w D obj ns w.heap.size s W → Code.wp _ _ _ _ W) => k _ (HX.out _ rfl)) ?_
  intro W hW
  obtain ⟨G, hG⟩ : ∃ g, w.heap.size = g := ⟨_, rfl⟩
  rw [hG] at hW ⊢
  have HX1 := Lib.hid hW
  clear hW HX hG
  go_wp2_with (first | (refine wpL_val rfl (ex_ldN HA.out HX1.out.nd rfl rfl) ?_) | fail)
  refine (empty_any ns HA.out W).mono ?_
  rintro e X2 ⟨rfl, hb2⟩
  have HX2 := Lib.hid (HX1.out.below hb2)
  have HRB := Lib.hid HX2.out.res
  clear hb2 HX1
  by_cases hh : ns = holes
  · have HBE := Lib.hid (HX2.out.ends zeroP)
    have e1 : rp = zeroP := by rw [← HRP.out]; unfold anP; rw [if_pos hh]
    have e2 : re = 0 := by rw [← HRE.out]; unfold anE; rw [if_pos hh]
    have e3 : rs = s := by rw [← HRS.out]; unfold anS; rw [if_pos hh]
    rw [e1, e2, e3] at HP
    have HE := Lib.hid (HP.out _ HBE.out.1 (HK.out.mono (by omega) HM.out))
    rw [decide_eq_true hh]
    clear e1 e2 e3 HP hh HRP HRE HRS
    go_wp2_with (first | (refine wpL_val rfl (ex_bld0 rfl) ?_) | (refine wpList_store_row rfl 37 (.tmp 8) (.tmp 15) rfl (G + 1 + 1) (pcells zeroP).toArray rfl rfl 37 _ HRB.out HSZ.out rfl (one_pc zeroP) ?_) | fail)
    refine bodyPost_ret (results_cs Tryd.results27 _ _ (G + 1 + 1) 37 _ rfl HBE.out.2 (size_pcl zeroP_ok)) rfl ?_
    exact HE.out
  · rw [decide_eq_false hh]
    have HNH : Hid (¬ ns = holes) := Lib.hid hh
    clear hh
    obtain ⟨⟨L1, v1, h1, h2, h3⟩, -⟩ := HX2.out
    have HPU := Lib.hid (nodePut_any ns HA.out X2 h1.tab.1)
    have HLT := Lib.hid h1.lt
    have HMV := Lib.hid h2; have HL3 := Lib.hid h3; have HSH := Lib.hid h1
    clear h1 h2 h3
    go_wp2_with (first | (refine wpL_val rfl (ex_ldN HA.out HX2.out.nd rfl rfl) ?_) | fail)
    refine HPU.out.mono ?_
    rintro e X3 ⟨hpp, hb3⟩
    have HX3 := Lib.hid (HX2.out.below hb3)
    have HSH3 := Lib.hid (HSH.out.below hb3)
    have HMV3 := Lib.hid (HMV.out.trans (Mv.of_below hb3 HLT.out))
    have HRB3 := Lib.hid HX3.out.res
    clear hb3 HPU HSH HMV HRB
    rcases hpp with ⟨hok, vv, rfl, hown⟩ | ⟨hno, rfl⟩
    · obtain ⟨sp, cap, rfl, q1, q2, q3, q4, q5⟩ := OwnB.form hown
      have hlen : (nodeB ns).length = 512 := by rw [nodeB_length HA.out.ok, HA.out.len]
      have hnw := shNew_any (tagP lv obj off) HTG.out (nodeB ns) sp cap HSH3.out (by have := HK.out.md; have := HM.out; omega) HK.out.bl HK.out.rm (by omega) q3 q4 (fun a ha => ⟨(q5 a ha).2, .inl (by
        have h1 := (q5 a ha).1
        have h2 := HLT.out a.block
        omega)⟩)
      obtain ⟨bl, hbl⟩ : ∃ n, (nodeB ns).length = n := ⟨_, rfl⟩
      rw [hbl] at hnw ⊢
      have e1 : nwP s (tagP lv obj off) (nodeB ns) = rp := by rw [← HRP.out]; unfold anP; rw [if_neg HNH.out, if_neg (by rw [hok]; decide)]
      have e2 : nwE s = re := by rw [← HRE.out]; unfold anE; rw [if_neg HNH.out, if_neg (by rw [hok]; decide)]
      have e3 : nwS s (tagP lv obj off) (nodeB ns) = rs := by rw [← HRS.out]; unfold anS; rw [if_neg HNH.out, if_neg (by rw [hok]; decide)]
      unfold NwPost at hnw
      rw [e1, e2, e3] at hnw
      have HNW := Lib.hid hnw
      have HPK : Hid rp.OK := Lib.hid (by rw [← e1]; exact nwP_ok HTG.out _)
      have HPZ : Hid (re ≠ 0 → rp = zeroP) := Lib.hid (fun h => by rw [← e1]; exact nwP_full (by rw [e2]; exact h))
      have HLM : Hid (Lim (m + 1) rs) := Lib.hid (by rw [← e3]; exact HK.out.nwS HM.out)
      have c0 : X3.cell? ⟨G, 0, none⟩ = some (.iface 25 (.pointer (some ⟨D, 0, none⟩))) := HX3.out.mb.cell rfl
      have c1 : X3.cell? ⟨G, 1, none⟩ = some (.int .u16 (obj : Int)) := HX3.out.mb.cell rfl
      clear hok hown q1 q2 q3 q4 q5 hlen hnw hbl e1 e2 e3 HX2 HRP HRE HRS
      go_wp2_with (first | (refine wpL_val rfl (ex_bldT (lv := lv) (obj := obj) (off := off) rfl rfl rfl rfl rfl) ?_) | fail)
      refine HNW.out.mono ?_
      rintro e X4 ⟨rfl, hp4⟩
      have HX4 := Lib.hid (HX3.out.moved HMV3.out HL3.out hp4)
      clear hp4 c0 c1 HNW HX3 HSH3 HMV3 HRB3
      have HSP := Lib.hid (size_pc HPK.out)
      have HLP : Hid ((pcells rp).toArray.size = 41) := Lib.hid (by rw [List.size_toArray, pcells_length HPK.out])
      go_upto_region 7 with (first | (refine wpList_store_row rfl 37 (.tmp 12) (.tmp 35) rfl X4.heap.size (pcells rp).toArray rfl rfl 37 _ (heap_alloc_new X4 _) HSP.out (by rw [HLP.out]; rfl) (one_pc rp) ?_) | fail)
      refine (fun (k : ∀ W, (AnS L w D obj ns G rs W ∧ Blk W X4.heap.size (pcells rp) 37) → Code.wp _ _ _ _ W) => k _ ⟨HX4.out.below (blk_row1 X4 _ (pcells rp) 37).2, (blk_row1 X4 _ (pcells rp) 37).1⟩) ?_
      rintro X5 ⟨hx5, hb5⟩
      obtain ⟨g5, hg5⟩ : ∃ g, X4.heap.size = g := ⟨_, rfl⟩
      rw [hg5] at hb5 ⊢
      have HX5 := Lib.hid hx5; have HB5 := Lib.hid hb5
      have HRB5 := Lib.hid hx5.res
      clear hx5 hb5 hg5 HX4
      by_cases he : re = 0
      · subst he
        have HBE := Lib.hid (HX5.out.ends rp)
        have HE := Lib.hid (HP.out _ HBE.out.1 HLM.out)
        have HZN : Hid ((pcells zeroP).toArray.size = (pcells rp).toArray.size) := Lib.hid (by rw [HLP.out, List.size_toArray, pcells_length zeroP_ok])
        clear HP
        go_wp2_with (first | (refine wpL_val rfl (ex_ldP HPK.out HB5.out rfl rfl) ?_) | (refine wpList_store_row rfl 37 (.tmp 8) (.tmp 41) rfl (G + 1 + 1) (pcells rp).toArray rfl rfl 37 _ HRB5.out HSP.out HZN.out (one_pc rp) ?_) | fail)
        refine bodyPost_ret (results_cs Tryd.results27 _ _ (G + 1 + 1) 37 _ rfl HBE.out.2 (size_pcl HPK.out)) rfl ?_
        exact HE.out
      · have he' : ¬ (re : Int) = 0 := by omega
        have HBE := Lib.hid (HX5.out.ends zeroP)
        rw [HPZ.out he] at HP
        have HE := Lib.hid (HP.out _ HBE.out.1 HLM.out)
        clear HP he
        go_wp2_with (first | (refine wpL_val rfl (ex_bld0 rfl) ?_) | (refine wpList_store_row rfl 37 (.tmp 8) (.tmp 39) rfl (G + 1 + 1) (pcells zeroP).toArray rfl rfl 37 _ HRB5.out HSZ.out rfl (one_pc zeroP) ?_) | fail)
        refine bodyPost_ret (results_cs Tryd.results27 _ _ (G + 1 + 1) 37 _ rfl HBE.out.2 (size_pcl zeroP_ok)) rfl ?_
        exact HE.out
    · have HBE := Lib.hid (HX3.out.ends zeroP)
      have e1 : rp = zeroP := by rw [← HRP.out]; unfold anP; rw [if_neg HNH.out, if_pos hno]
      have e2 : re = 5 := by rw [← HRE.out]; unfold anE; rw [if_neg HNH.out, if_pos hno]
      have e3 : rs = s := by rw [← HRS.out]; unfold anS; rw [if_neg HNH.out, if_pos hno]
      rw [e1, e2, e3] at HP
      have HE := Lib.hid (HP.out _ HBE.out.1 (HK.out.mono (by omega) HM.out))
      clear e1 e2 e3 HP hno HRP HRE HRS
      go_wp2_with (first | (refine wpL_val rfl (ex_bld0 rfl) ?_) | (refine wpList_store_row rfl 37 (.tmp 8) (.tmp 23) rfl (G + 1 + 1) (pcells zeroP).toArray rfl rfl 37 _ HRB3.out HSZ.out rfl (one_pc zeroP) ?_) | fail)
      refine bodyPost_ret (results_cs Tryd.results27 _ _ (G + 1 + 1) 37 _ rfl HBE.out.2 (size_pcl zeroP_ok)) rfl ?_
      exact HE.out
end Go.Proofs.YtfcjeceoedfldaaDoor
