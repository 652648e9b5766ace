/- The document's disk: Write. -/
import Derived.Test.YtmgagalhpkieoaaGreatDoorM10
namespace Go.Proofs.YtmgagalhpkieoaaGreatDoor
open Go.RowKit

theorem rows_apart {w : World} {B B' : Nat} {v v' : Value} {l : List (Nat × d_Bs)} {l' : List Nat} (h : OwnP w B v l) (h' : OwnN w B' v' l') : ∀ g, v'.ownBlock = some g → ¬ v.ownBlock = some g := fun g hg e => by
  obtain ⟨cs, hb⟩ := owns_blk h e
  obtain ⟨cs', hb'⟩ := owns_blk h' hg
  exact absurd (hb'.same hb) (by decide)
theorem kept_put {w : World} {D q : Nat} {vm vc vb vs va : Value} {S : Nat → Prop} {t : Rsk} (h : RkIn w D q vm vc vb vs va S t) (hq : q < w.heap.size) (x : Nat × d_Bs) (hl : t.cache.length < 1000000) (ty : TypeId) :
    ∃ v' w', (Builtin.append_ #[46, 46] ty #[vc, .slice (some ⟨w.heap.size, 0, none⟩) 1 1]).run Tryz.prog (w.alloc (.cells (d_pcells x).toArray 173)) = .ok v' w' ∧ (∃ sp n c, v' = .slice sp n c) ∧ w'.cell? ⟨D, 3, none⟩ = some vc ∧ w'.frozen? ⟨D, 3, none⟩ = false ∧
      RkAt (w'.setCell ⟨D, 3, none⟩ v') D q (Ext S w (w'.setCell ⟨D, 3, none⟩ v')) { t with cache := t.cache ++ [x] } ∧ Chg S w (w'.setCell ⟨D, 3, none⟩ v') := by
  have hb0 : Below w.heap.size w (w.alloc (.cells (d_pcells x).toArray 173)) := (Below.refl _ _).alloc (Nat.le_refl _) _
  obtain ⟨v', w', hr, ho', hgr, hor⟩ := ownP_app (h.oc.alloc (.cells (d_pcells x).toArray 173)) (Nat.zero_le _) hl x (adr := ⟨w.heap.size, 0, none⟩) (c := 1) (fun j u hj => by rw [Addr.add_mid, Nat.zero_add]; exact (Blk.new w (d_pcells x) 173).cell hj) ty
  have hc : Chg (fun k => vc.ownBlock = some k) w w' := (Chg.of_below hb0).grown hgr (fun k hk => .inl hk)
  have hnD : ¬ vc.ownBlock = some D := fun e => h.oc.nd h.blk D e rfl
  have hbD : Blk w' D (rcells q vm vc vb vs va t) 49 := h.blk.chg hc hnD
  have hnew : ∀ g, v'.ownBlock = some g → S g ∨ w.heap.size ≤ g := fun g hg => by
    rcases hor with e | e
    · rw [e] at hg; exact .inl (h.sc g hg)
    · rw [e] at hg; cases hg; exact .inr hb0.size
  obtain ⟨h1, h2⟩ := h.put (j := 3) (u := v') (vm' := vm) (vc' := v') (vb' := vb) (vs' := vs) (va' := va) (t' := { t with cache := t.cache ++ [x] }) hq hc hnD rfl h.nlt (owns_chg h.om hc (fun g hg e => h.ap g e hg)) ho' (owns_chg h.ob hc (rows_apart h.oc h.ob)) (owns_chg h.os hc (rows_apart h.oc h.os)) (owns_chg h.oa hc (rows_apart h.oc h.oa))
    (fun g hg => .inl (h.sm g hg)) hnew (fun g hg => .inl (h.sb g hg)) (fun g hg => .inl (h.ss g hg)) (fun g hg => .inl (h.sa g hg)) (fun g hg e => by
      rcases hor with e' | e'
      · rw [e'] at hg; exact h.ap g hg e
      · rw [e'] at hg; cases hg
        have := h.lt _ (h.sm _ e)
        simp at this
        omega)
  refine ⟨v', w', hr, own_slice3 ho', hbD.cell rfl, hbD.free 3, ⟨_, _, _, _, _, h1⟩, h2.mono (fun k hk => ?_)⟩
  rcases hk with hk | rfl
  · exact h.sc k hk
  · exact h.sd
theorem RkIn.put0 {w : World} {D q j : Nat} {u vm vc vb vs va vm' vc' vb' vs' va' : Value} {S : Nat → Prop} {t t' : Rsk} (h : RkIn w D q vm vc vb vs va S t)
    (hcells : (rcells q vm vc vb vs va t).set j u = rcells q vm' vc' vb' vs' va' t') (hn : t'.n = t.n)
    (hm : vm' = vm ∧ t'.m = t.m ∨ vm' = .slice none 0 0 ∧ t'.m = []) (hc : vc' = vc ∧ t'.cache = t.cache ∨ vc' = .slice none 0 0 ∧ t'.cache = []) (hb : vb' = vb ∧ t'.bad = t.bad) (hs : vs' = vs ∧ t'.stuck = t.stuck) (ha : va' = va ∧ t'.astray = t.astray ∨ va' = .slice none 0 0 ∧ t'.astray = none) :
    RkIn (w.setCell ⟨D, j, none⟩ u) D q vm' vc' vb' vs' va' S t' ∧ Chg (fun k => k = D) w (w.setCell ⟨D, j, none⟩ u) := by
  have hc1 : Chg (fun k => k = D) w (w.setCell ⟨D, j, none⟩ u) := d_chg1 j u
  obtain ⟨rfl, eb⟩ := hb
  obtain ⟨rfl, es⟩ := hs
  have ob := owns_chg h.ob hc1 (h.ob.nd h.blk)
  have os := owns_chg h.os hc1 (h.os.nd h.blk)
  have hblk : Blk (w.setCell ⟨D, j, none⟩ u) D (rcells q vm' vc' vb' vs' va' t') 49 := by rw [← hcells]; exact h.blk.set j u
  have hlt : ∀ k, S k → k < (w.setCell ⟨D, j, none⟩ u).heap.size := fun k hk => Nat.lt_of_lt_of_le (h.lt k hk) hc1.size
  have hnn : ∀ g, (Value.slice none 0 0).ownBlock ≠ some g := fun g e => by simp [Value.ownBlock] at e
  have om : OwnP (w.setCell ⟨D, j, none⟩ u) 0 vm' t'.m ∧ (∀ g, vm'.ownBlock = some g → S g) ∧ (∀ g, vm'.ownBlock = some g → vm.ownBlock = some g) := by
    rcases hm with ⟨rfl, e⟩ | ⟨rfl, e⟩
    · rw [e]; exact ⟨owns_chg h.om hc1 (h.om.nd h.blk), h.sm, fun _ h => h⟩
    · rw [e]; exact ⟨World.ownsRow_nil _ _ _ _, fun g hg => absurd hg (hnn g), fun g hg => absurd hg (hnn g)⟩
  have oc : OwnP (w.setCell ⟨D, j, none⟩ u) 0 vc' t'.cache ∧ (∀ g, vc'.ownBlock = some g → S g) ∧ (∀ g, vc'.ownBlock = some g → vc.ownBlock = some g) := by
    rcases hc with ⟨rfl, e⟩ | ⟨rfl, e⟩
    · rw [e]; exact ⟨owns_chg h.oc hc1 (h.oc.nd h.blk), h.sc, fun _ h => h⟩
    · rw [e]; exact ⟨World.ownsRow_nil _ _ _ _, fun g hg => absurd hg (hnn g), fun g hg => absurd hg (hnn g)⟩
  have oa : OwnN (w.setCell ⟨D, j, none⟩ u) 0 va' t'.astray.toList ∧ (∀ g, va'.ownBlock = some g → S g) := by
    rcases ha with ⟨rfl, e⟩ | ⟨rfl, e⟩
    · rw [e]; exact ⟨owns_chg h.oa hc1 (h.oa.nd h.blk), h.sa⟩
    · rw [e]; exact ⟨World.ownsRow_nil _ _ _ _, fun g hg => absurd hg (hnn g)⟩
  exact ⟨⟨hblk, om.1, oc.1, by rw [eb]; exact ob, by rw [es]; exact os, oa.1, om.2.1, oc.2.1, h.sb, h.ss, oa.2, fun g hg e => h.ap g (oc.2.2 g hg) (om.2.2 g e), h.sd, h.sq, hlt, by rw [hn]; exact h.nlt⟩, hc1⟩
def rkept (t : Rsk) (a : Nat) (b : d_Bs) : Rsk := if a < t.n then { t with cache := t.cache ++ [(a, b)] } else t
def rwrote (t : Rsk) (p : Pw) (a : Nat) (b : d_Bs) : Int × Rsk × Pw :=
  if t.dead then (3, t, p) else if p.on = false then (3, t, p) else
  if a < t.n then (if b.length = 512 then
    (if p.step.1 = false then (3, t, p.step.2) else if t.lose then (0, { t with lose := false }, p.step.2) else
      match t.astray with
      | some x => (0, rkept { t with astray := none } x b, p.step.2)
      | none => (0, rkept t a b, p.step.2)) else (1, t, p)) else (1, t, p)
def Rwrote (D q : Nat) (S : Nat → Prop) (r : Int × Rsk × Pw) (w : World) (e : Ending) (w' : World) : Prop :=
  e = .returned (.int .i64 r.1) ∧ RkAt w' D q (Ext S w w') r.2.1 ∧ RpAt w' q r.2.2 ∧ Chg (fun k => S k ∨ k = q) w w'
theorem rwrote_same {D q : Nat} {S : Nat → Prop} {t : Rsk} {p : Pw} {w : World} {r : Int} (h : RkAt w D q S t) (hp : RpAt w q p) : Rwrote D q S (r, t, p) w (.returned (.int .i64 r)) w := ⟨rfl, h.ext hp.blk.lt, hp, Chg.refl _ _⟩
set_option maxRecDepth 100000 in
set_option maxHeartbeats 4000000 in
theorem rwrite_any (D q : Nat) (S : Nat → Prop) (t : Rsk) (p : Pw) (a : Nat) (b : d_Bs) (ha : a < 65536) (_ : b.length < 1000000) (hal : ∀ x, t.astray = some x → x < 65536) (w : World) (h : RkAt w D q S t) (hp : RpAt w q p) (hs : Small t) :
    Calls Tryz.prog 51 #[.pointer (some ⟨D, 0, none⟩), .int .u16 (a : Int), .string (bstr b)] w (Rwrote D q S (rwrote t p a b) w) := by
  have HK := Lib.hid h
  have HP := Lib.hid hp
  have HS := Lib.hid hs
  have HAL := Lib.hid hal
  obtain ⟨vm, vc, vb, vs, va, h⟩ := h
  obtain ⟨c0, c1, -, -, -, -, c6, -, -⟩ := h.c
  have hn := h.nlt
  have wa := IntWalk.i64_in (a : Int) (by omega)
  have hq := hp.blk.lt
  have d0 : w.cell? ⟨q, 0, none⟩ = some (.bool (!p.on)) := hp.blk.cell rfl
  have H := Lib.hid h
  have hbs := bstr_size b
  clear h hs hp hal
  unfold rwrote
  by_cases hd : t.dead = true
  · rw [hd] at c6 ⊢
    simp only [if_true]
    go_enter Tryz.func51, Tryz.ntmps51
    go_wp2_with fail
    go_ret
    exact rwrote_same HK.out HP.out
  · have hd' : t.dead = false := by simpa using hd
    rw [if_neg hd]
    rw [hd'] at c6
    clear hd
    by_cases hon : p.on = false
    · rw [hon] at d0
      rw [if_pos hon]
      simp only [Bool.not_false] at d0
      go_enter Tryz.func51, Tryz.ntmps51
      go_wp2_with fail
      go_ret
      exact rwrote_same HK.out HP.out
    · rw [if_neg hon]
      have hon' : p.on = true := by simpa using hon
      rw [hon'] at d0
      simp only [Bool.not_true] at d0
      clear hon
      by_cases hlt : a < t.n
      · rw [if_pos hlt]
        have hge : ¬ ((t.n : Int) ≤ (a : Int)) := by omega
        by_cases hbl : b.length = 512
        · rw [if_pos hbl]
          rw [hbl] at hbs
          have hne : ((bstr b).size : Int) = 512 := by omega
          clear hbl
          by_cases hst : p.step.1 = false
          · rw [if_pos hst]
            go_enter Tryz.func51, Tryz.ntmps51
            go_wp2_with fail
            refine (rstep_any q p w HP.out).mono ?_
            rw [hst]
            rintro e w1 ⟨rfl, hp1, hc1⟩
            have HP1 := Lib.hid hp1
            have HC1 := Lib.hid hc1
            have hqn : ∀ k, S k → ¬ k = q := fun k hk e => H.out.sq (e ▸ hk)
            have h1 := H.out.chg hc1 hqn
            have HK1 := Lib.hid (HK.out.chg hc1 hqn)
            have hq1 : q < w1.heap.size := Nat.lt_of_lt_of_le hq hc1.size
            have hs1 : w.heap.size ≤ w1.heap.size := hc1.size
            obtain ⟨e0, -, -, e3, -, -, -, e7, e8⟩ := h1.c
            have H1 := Lib.hid h1
            have hx1 := h1.blk.free 7
            have hx2 := h1.blk.free 8
            clear hc1 hp1 h1 hqn c0 c1 c6 d0
            go_wp2_with fail
            go_ret
            exact ⟨rfl, (HK1.out.ext hq1).ext2 hs1 hq, HP1.out, HC1.out.mono (fun _ h => .inr h)⟩
          · rw [if_neg hst]
            have hst' : p.step.1 = true := by simpa using hst
            clear hst
            have hst := hst'
            by_cases hlo : t.lose = true
            · rw [if_pos hlo]
              go_enter Tryz.func51, Tryz.ntmps51
              go_wp2_with fail
              refine (rstep_any q p w HP.out).mono ?_
              rw [hst]
              rintro e w1 ⟨rfl, hp1, hc1⟩
              have HP1 := Lib.hid hp1
              have HC1 := Lib.hid hc1
              have hqn : ∀ k, S k → ¬ k = q := fun k hk e => H.out.sq (e ▸ hk)
              have h1 := H.out.chg hc1 hqn
              have HK1 := Lib.hid (HK.out.chg hc1 hqn)
              have hq1 : q < w1.heap.size := Nat.lt_of_lt_of_le hq hc1.size
              have hs1 : w.heap.size ≤ w1.heap.size := hc1.size
              obtain ⟨e0, -, -, e3, -, -, -, e7, e8⟩ := h1.c
              have H1 := Lib.hid h1
              have hx1 := h1.blk.free 7
              have hx2 := h1.blk.free 8
              clear hc1 hp1 h1 hqn c0 c1 c6 d0
              rw [hlo] at e7
              clear e8 e3
              go_wp2_with fail
              go_ret
              obtain ⟨k1, k2⟩ := H1.out.put0 (j := 7) (u := .bool false) (vm' := vm) (vc' := vc) (vb' := vb) (vs' := vs) (va' := va) (t' := { t with lose := false }) rfl rfl (.inl ⟨rfl, rfl⟩) (.inl ⟨rfl, rfl⟩) ⟨rfl, rfl⟩ ⟨rfl, rfl⟩ (.inl ⟨rfl, rfl⟩)
              exact ⟨rfl, RkAt.ext ⟨_, _, _, _, _, k1⟩ hq, HP1.out.chg k2 (fun e => H.out.sq (e ▸ H.out.sd)), (HC1.out.mono (fun _ h => .inr h)).trans k2 (fun k e => .inl (.inl (e ▸ H.out.sd)))⟩
            · rw [if_neg hlo]
              have hlo' : t.lose = false := by simpa using hlo
              clear hlo
              obtain ⟨oa, hoa⟩ : ∃ oa, t.astray = oa := ⟨_, rfl⟩
              rw [hoa]
              cases oa with
              | none =>
                simp only
                obtain ⟨spa, ca, hva⟩ : ∃ sp c, va = .slice sp 0 c := by
                  obtain ⟨sp, c, e⟩ := own_slice H.out.oa
                  rw [hoa] at e
                  exact ⟨sp, c, e⟩
                have hz : ¬ ((0 : Int) < 0) := by omega
                have hk := hlt
                · unfold rkept
                  rw [if_pos hk]
                  go_enter Tryz.func51, Tryz.ntmps51
                  go_wp2_with fail
                  refine (rstep_any q p w HP.out).mono ?_
                  rw [hst]
                  rintro e w1 ⟨rfl, hp1, hc1⟩
                  have HP1 := Lib.hid hp1
                  have HC1 := Lib.hid hc1
                  have hqn : ∀ k, S k → ¬ k = q := fun k hk e => H.out.sq (e ▸ hk)
                  have h1 := H.out.chg hc1 hqn
                  have HK1 := Lib.hid (HK.out.chg hc1 hqn)
                  have hq1 : q < w1.heap.size := Nat.lt_of_lt_of_le hq hc1.size
                  have hs1 : w.heap.size ≤ w1.heap.size := hc1.size
                  obtain ⟨e0, -, -, e3, -, -, -, e7, e8⟩ := h1.c
                  have H1 := Lib.hid h1
                  have hx1 := h1.blk.free 7
                  have hx2 := h1.blk.free 8
                  clear hc1 hp1 h1 hqn c0 c1 c6 d0
                  rw [hlo'] at e7
                  rw [hva] at e8
                  clear hz
                  obtain ⟨v9, w5, hr, ⟨sp9, n9, c9, rfl⟩, hu9, hf9, hrk, hch⟩ := kept_put H1.out hq1 (a, b) HS.out.c 46
                  have HRK := Lib.hid hrk
                  have HCH := Lib.hid hch
                  clear hrk hch
                  have HR := Lib.hid hr
                  clear hr
                  go_wp2_with (first | (at_builtin; refine wpL_ok rfl (ex_app37 rfl rfl rfl HR.out) ?_) | fail)
                  go_ret
                  exact ⟨rfl, RkAt.ext2 HRK.out hs1 hq, HP1.out.chg HCH.out H.out.sq, (HC1.out.mono (fun _ h => .inr h)).trans HCH.out (fun k e => .inl (.inl e))⟩
              | some x =>
                simp only
                have hx := HAL.out x hoa
                have wx := IntWalk.i64_in (x : Int) (by omega)
                by_cases hk : x < t.n
                · unfold rkept
                  simp only [hk, if_true]
                  have hki : (x : Int) < (t.n : Int) := by omega
                  go_enter Tryz.func51, Tryz.ntmps51
                  go_wp2_with fail
                  refine (rstep_any q p w HP.out).mono ?_
                  rw [hst]
                  rintro e w1 ⟨rfl, hp1, hc1⟩
                  have HP1 := Lib.hid hp1
                  have HC1 := Lib.hid hc1
                  have hqn : ∀ k, S k → ¬ k = q := fun k hk e => H.out.sq (e ▸ hk)
                  have h1 := H.out.chg hc1 hqn
                  have HK1 := Lib.hid (HK.out.chg hc1 hqn)
                  have hq1 : q < w1.heap.size := Nat.lt_of_lt_of_le hq hc1.size
                  have hs1 : w.heap.size ≤ w1.heap.size := hc1.size
                  obtain ⟨e0, -, -, e3, -, -, -, e7, e8⟩ := h1.c
                  have H1 := Lib.hid h1
                  have hx1 := h1.blk.free 7
                  have hx2 := h1.blk.free 8
                  clear hc1 hp1 h1 hqn c0 c1 c6 d0
                  rw [hlo'] at e7
                  have hns := own_ns H1.out.oa
                  rw [hoa] at hns
                  obtain ⟨spx, cx, hvx, -, -, h3⟩ := hns
                  obtain ⟨gx, rfl, hgx, hcx⟩ := h3 (by simp)
                  have hc0 : w1.cell? ⟨gx, 0, none⟩ = some (.int .u16 (x : Int)) := hcx 0 x rfl
                  rw [hvx] at e8
                  clear hcx h3 hgx
                  simp only [List.length_cons, List.length_nil, Nat.zero_add, Option.toList] at e8
                  obtain ⟨k1, k2⟩ := H1.out.put0 (j := 8) (u := .slice none 0 0) (vm' := vm) (vc' := vc) (vb' := vb) (vs' := vs) (va' := .slice none 0 0) (t' := { t with astray := none }) rfl rfl (.inl ⟨rfl, rfl⟩) (.inl ⟨rfl, rfl⟩) ⟨rfl, rfl⟩ ⟨rfl, rfl⟩ (.inr ⟨rfl, rfl⟩)
                  have K1 := Lib.hid k1
                  have K2 := Lib.hid k2
                  have hq2 : q < (w1.setCell ⟨D, 8, none⟩ (.slice none 0 0)).heap.size := Nat.lt_of_lt_of_le hq1 k2.size
                  clear k1 k2 hvx
                  obtain ⟨v9, w5, hr, ⟨sp9, n9, c9, rfl⟩, hu9, hf9, hrk, hch⟩ := kept_put K1.out hq2 (x, b) HS.out.c 46
                  have HRK := Lib.hid hrk
                  have HCH := Lib.hid hch
                  clear hrk hch
                  have hsz : (w1.setCell ⟨D, 8, none⟩ (.slice none 0 0)).heap.size = w1.heap.size := by simp
                  rw [hsz] at hr
                  have HR := Lib.hid hr
                  clear hr hsz
                  go_wp2_with (first | (at_builtin; refine wpL_ok rfl (ex_app37 rfl rfl rfl HR.out) ?_) | fail)
                  go_ret
                  exact ⟨rfl, RkAt.ext2 HRK.out (Nat.le_trans hs1 K2.out.size) hq, (HP1.out.chg K2.out (fun e => H.out.sq (e ▸ H.out.sd))).chg HCH.out H.out.sq, ((HC1.out.mono (fun _ h => .inr h)).trans K2.out (fun k e => .inl (.inl (e ▸ H.out.sd)))).trans HCH.out (fun k e => .inl (.inl e))⟩
                · unfold rkept
                  simp only [hk, if_false]
                  have hki : ¬ (x : Int) < (t.n : Int) := by omega
                  go_enter Tryz.func51, Tryz.ntmps51
                  go_wp2_with fail
                  refine (rstep_any q p w HP.out).mono ?_
                  rw [hst]
                  rintro e w1 ⟨rfl, hp1, hc1⟩
                  have HP1 := Lib.hid hp1
                  have HC1 := Lib.hid hc1
                  have hqn : ∀ k, S k → ¬ k = q := fun k hk e => H.out.sq (e ▸ hk)
                  have h1 := H.out.chg hc1 hqn
                  have HK1 := Lib.hid (HK.out.chg hc1 hqn)
                  have hq1 : q < w1.heap.size := Nat.lt_of_lt_of_le hq hc1.size
                  have hs1 : w.heap.size ≤ w1.heap.size := hc1.size
                  obtain ⟨e0, -, -, e3, -, -, -, e7, e8⟩ := h1.c
                  have H1 := Lib.hid h1
                  have hx1 := h1.blk.free 7
                  have hx2 := h1.blk.free 8
                  clear hc1 hp1 h1 hqn c0 c1 c6 d0
                  rw [hlo'] at e7
                  have hns := own_ns H1.out.oa
                  rw [hoa] at hns
                  obtain ⟨spx, cx, hvx, -, -, h3⟩ := hns
                  obtain ⟨gx, rfl, hgx, hcx⟩ := h3 (by simp)
                  have hc0 : w1.cell? ⟨gx, 0, none⟩ = some (.int .u16 (x : Int)) := hcx 0 x rfl
                  rw [hvx] at e8
                  clear hcx h3 hgx
                  simp only [List.length_cons, List.length_nil, Nat.zero_add, Option.toList] at e8
                  obtain ⟨k1, k2⟩ := H1.out.put0 (j := 8) (u := .slice none 0 0) (vm' := vm) (vc' := vc) (vb' := vb) (vs' := vs) (va' := .slice none 0 0) (t' := { t with astray := none }) rfl rfl (.inl ⟨rfl, rfl⟩) (.inl ⟨rfl, rfl⟩) ⟨rfl, rfl⟩ ⟨rfl, rfl⟩ (.inr ⟨rfl, rfl⟩)
                  have K1 := Lib.hid k1
                  have K2 := Lib.hid k2
                  have hq2 : q < (w1.setCell ⟨D, 8, none⟩ (.slice none 0 0)).heap.size := Nat.lt_of_lt_of_le hq1 k2.size
                  clear k1 k2 hvx
                  go_wp2_with fail
                  go_ret
                  exact ⟨rfl, RkAt.ext ⟨_, _, _, _, _, K1.out⟩ hq, HP1.out.chg K2.out (fun e => H.out.sq (e ▸ H.out.sd)), (HC1.out.mono (fun _ h => .inr h)).trans K2.out (fun k e => .inl (.inl (e ▸ H.out.sd)))⟩
        · rw [if_neg hbl]
          have hne : ¬ ((bstr b).size : Int) = 512 := by omega
          go_enter Tryz.func51, Tryz.ntmps51
          go_wp2_with fail
          go_ret
          exact rwrote_same HK.out HP.out
      · rw [if_neg hlt]
        have hge : (t.n : Int) ≤ (a : Int) := by omega
        go_enter Tryz.func51, Tryz.ntmps51
        go_wp2_with fail
        go_ret
        exact rwrote_same HK.out HP.out
end Go.Proofs.YtmgagalhpkieoaaGreatDoor
/- The document's disk: Flush. -/
namespace Go.Proofs.YtmgagalhpkieoaaGreatDoor
open Go.RowKit

theorem RkAt.ext3 {a b c : World} {D q : Nat} {S : Nat → Prop} {t : Rsk} (h : RkAt c D q (Ext (Ext S a b) b c) t) (hab : a.heap.size ≤ b.heap.size) (hq : q < a.heap.size) : RkAt c D q (Ext S a c) t := by
  refine h.mono (fun k hk => ?_) (fun hh => ?_) (fun k hk => ?_)
  · rcases hk with (hk | hk) | hk
    · exact .inl hk
    · exact .inr ⟨hk.1, h.lt k (.inl (.inr hk))⟩
    · exact .inr ⟨by omega, hk.2⟩
  · rcases hh with hh | hh
    · exact h.nq (.inl (.inl hh))
    · omega
  · rcases hk with hk | hk
    · exact h.lt k (.inl (.inl hk))
    · exact hk.2
theorem RkAt.ext4 {z a b c : World} {D q : Nat} {S : Nat → Prop} {t : Rsk} (h : RkAt c D q (Ext S a b) t) (_ : a.heap.size ≤ b.heap.size) (hza : z.heap.size ≤ a.heap.size) (hbc : b.heap.size ≤ c.heap.size) (hq : q < z.heap.size) : RkAt c D q (Ext S z c) t := by
  refine h.mono (fun k hk => ?_) (fun hh => ?_) (fun k hk => ?_)
  · rcases hk with hk | hk
    · exact .inl hk
    · exact .inr ⟨by omega, by omega⟩
  · rcases hh with hh | hh
    · exact h.nq (.inl hh)
    · omega
  · rcases hk with hk | hk
    · exact h.lt k (.inl hk)
    · exact hk.2
def rall (t : Rsk) (l : List (Nat × d_Bs)) : Rsk := l.foldl (fun t x => rcame t x.1 x.2 512) t
theorem rall_snoc (t : Rsk) (l : List (Nat × d_Bs)) (x : Nat × d_Bs) : rall t (l ++ [x]) = rcame (rall t l) x.1 x.2 512 := by simp [rall, List.foldl_append]
structure Grows (t u : Rsk) (k : Nat) : Prop where
  n : u.n = t.n
  cache : u.cache = t.cache
  stuck : u.stuck = t.stuck
  dead : u.dead = t.dead
  lose : u.lose = t.lose
  astray : u.astray = t.astray
  m : u.m.length ≤ t.m.length + k
  bad : u.bad.length ≤ t.bad.length
  b : ∀ x ∈ u.m, x.2.length = 512
theorem Grows.refl {t : Rsk} (h : ∀ x ∈ t.m, x.2.length = 512) : Grows t t 0 := ⟨rfl, rfl, rfl, rfl, rfl, rfl, Nat.le_refl _, Nat.le_refl _, h⟩
theorem Grows.came {t u : Rsk} {k : Nat} (h : Grows t u k) (a : Nat) {b : d_Bs} (hb : b.length = 512) {n : Nat} (hn : n ≤ 512) : Grows t (rcame u a b n) (k + 1) := by
  refine ⟨h.n, h.cache, h.stuck, h.dead, h.lose, h.astray, ?_, Nat.le_trans (List.length_filter_le _ _) h.bad, ?_⟩
  · have := List.length_filter_le (fun x : Nat × d_Bs => x.1 != a) u.m
    have h2 := h.m
    simp only [rcame, List.length_append, others, List.length_cons, List.length_nil]
    omega
  · intro x hx
    simp only [rcame] at hx
    rcases List.mem_append.1 hx with hx | hx
    · exact h.b x (List.mem_filter.1 hx).1
    · obtain rfl := by simpa using hx
      have := rblock_length a h.b
      simp [this, hb]
      omega
theorem Grows.skip {t u : Rsk} {k : Nat} (h : Grows t u k) : Grows t u (k + 1) := ⟨h.n, h.cache, h.stuck, h.dead, h.lose, h.astray, Nat.le_succ_of_le h.m, h.bad, h.b⟩
def rflushed (t : Rsk) (p : Pw) : Int × Rsk × Pw :=
  if t.dead then (3, t, p) else if p.step.1 = false then (3, t, p.step.2) else (0, { rall t t.cache with cache := [] }, p.step.2)
structure Room (t : Rsk) : Prop where
  small : Small t
  room : t.m.length + t.cache.length < 1000000
  b : ∀ x ∈ t.m, x.2.length = 512
  c : ∀ x ∈ t.cache, x.1 < 65536 ∧ x.2.length = 512
theorem Room.grows {t u : Rsk} {k : Nat} (h : Room t) (g : Grows t u k) (hk : k ≤ t.cache.length) : Small u :=
  ⟨by have := g.m; have := h.room; omega, by rw [g.cache]; exact h.small.c, Nat.lt_of_le_of_lt g.bad h.small.b, by rw [g.stuck]; exact h.small.s⟩
def Comes (W : World) (D q : Nat) (S : Nat → Prop) (t : Rsk) (f : Nat → Rsk) (N : Nat) (i : Value) (wr : World) : Prop :=
  ∃ k : Nat, k ≤ N ∧ i = .int .i64 (k : Int) ∧ RkAt wr D q (Ext S W wr) (f k) ∧ Grows t (f k) k ∧ Chg (fun k => k = D) W wr
set_option maxRecDepth 100000 in
set_option maxHeartbeats 4000000 in
theorem rflush_any (D q : Nat) (S : Nat → Prop) (t : Rsk) (p : Pw) (w : World) (h : RkAt w D q S t) (hp : RpAt w q p) (hr : Room t) :
    Calls Tryz.prog 52 #[.pointer (some ⟨D, 0, none⟩)] w (Rwrote D q S (rflushed t p) w) := by
  have HK := Lib.hid h
  have HP := Lib.hid hp
  have HR := Lib.hid hr
  have hq := hp.blk.lt
  obtain ⟨vm, vc, vb, vs, va, h⟩ := h
  obtain ⟨-, c1, -, -, -, -, c6, -, -⟩ := h.c
  have H := Lib.hid h
  clear h hp hr
  unfold rflushed
  by_cases hd : t.dead = true
  · rw [hd] at c6
    rw [if_pos hd]
    go_enter Tryz.func52, Tryz.ntmps52
    go_wp2_with fail
    go_ret
    exact rwrote_same HK.out HP.out
  · have hd' : t.dead = false := by simpa using hd
    rw [if_neg hd]
    rw [hd'] at c6
    clear hd
    by_cases hst : p.step.1 = false
    · rw [if_pos hst]
      go_enter Tryz.func52, Tryz.ntmps52
      go_wp2_with fail
      refine (rstep_any q p w HP.out).mono ?_
      rw [hst]
      rintro e w1 ⟨rfl, hp1, hc1⟩
      have HP1 := Lib.hid hp1
      have HC1 := Lib.hid hc1
      clear hp1 hc1
      go_wp2_with fail
      go_ret
      exact ⟨rfl, (HK.out.chg HC1.out (fun k hk e => H.out.sq (e ▸ hk))).ext hq |> fun h => h, HP1.out, HC1.out.mono (fun _ h => .inr h)⟩
    · rw [if_neg hst]
      have hst' : p.step.1 = true := by simpa using hst
      clear hst
      go_enter Tryz.func52, Tryz.ntmps52
      go_wp2_with fail
      refine (rstep_any q p w HP.out).mono ?_
      rw [hst']
      rintro e w1 ⟨rfl, hp1, hc1⟩
      have HP1 := Lib.hid hp1
      have HC1 := Lib.hid hc1
      have HK1 := Lib.hid (HK.out.chg hc1 (fun k hk e => H.out.sq (e ▸ hk)))
      have hq1 : q < w1.heap.size := Nat.lt_of_lt_of_le hq hc1.size
      have hs1 : w.heap.size ≤ w1.heap.size := hc1.size
      clear hp1 hc1 c1 c6
      obtain ⟨N, hN⟩ : ∃ N, t.cache.length = N := ⟨_, rfl⟩
      have HN := Lib.hid hN
      have hlN : N < 1000000 := by have := HR.out.small.c; omega
      clear hN
      have HRel := Lib.hid (show Comes w1 D q S t (fun k => rall t (t.cache.take k)) N (.int .i64 0) w1 from ⟨0, Nat.zero_le _, rfl, by simpa [rall] using HK1.out.ext hq1, by simpa [rall] using Grows.refl HR.out.b, Chg.refl _ _⟩)
      go_wp2_with fail
      go_loopw [3] (fun i wr => Comes w1 D q S t (fun k => rall t (t.cache.take k)) N i wr) (fun i _ => N - (intOf i).toNat)
      case atStart => exact HRel.out
      case round =>
        clear HRel
        obtain ⟨k, hk, rfl, hrk, hgr, hch⟩ := hrel
        simp only at hrk hgr
        have HRK := Lib.hid hrk
        have HGR := Lib.hid hgr
        have HCH := Lib.hid hch
        obtain ⟨vm', vc', vb', vs', va', hin⟩ := hrk
        have hwk := IntWalk.i64_in ((k : Int) + 1) (by omega)
        have hps := own_ps hin.oc
        rw [hgr.cache] at hps
        obtain ⟨spc, cap, rfl, hc1, hc2, hc3⟩ := hps
        rw [HN.out] at hc1 hc3
        have e3 : wr.cell? ⟨D, 3, none⟩ = some (.slice spc N cap) := by rw [← HN.out]; exact hin.c.2.2.2.1
        have hf3 := hin.blk.free 3
        have HIN := Lib.hid hin
        clear hin hgr hch
        by_cases hlt : k < N
        · obtain ⟨x, hx⟩ : ∃ x, t.cache[k]? = some x := ⟨_, List.getElem?_eq_getElem (by have := HN.out; omega)⟩
          obtain ⟨g, rfl, hg, hcl⟩ := hc3 (by omega)
          obtain ⟨d0, d1⟩ := hcl k x hx
          have HX := Lib.hid hx
          have hxm := HR.out.c x (List.mem_of_getElem? hx)
          have HXM := Lib.hid hxm
          clear hcl hx hg hxm
          go_wp2_with fail
          refine (rcomes_any D q _ _ x.1 512 x.2 HXM.out.1 HXM.out.2 (Nat.le_refl _) HGR.out.b _ HRK.out (HR.out.grows HGR.out (by rw [HN.out]; exact hk)) (Nat.lt_of_lt_of_le hq1 HCH.out.size)).mono ?_
          rintro e w3 ⟨rfl, hr3, hch3⟩
          have HR3 := Lib.hid hr3
          have HC3 := Lib.hid hch3
          clear hr3 hch3
          go_wp2_with fail
          go_roundw
          case rel => exact ⟨k + 1, by omega, by go_num, by
              show RkAt _ D q _ (rall t (t.cache.take (k + 1)))
              rw [take_one HX.out, rall_snoc]
              exact HR3.out.ext3 HCH.out.size hq1, by
              show Grows t (rall t (t.cache.take (k + 1))) (k + 1)
              rw [take_one HX.out, rall_snoc]
              exact HGR.out.came _ HXM.out.2 (Nat.le_refl _), HCH.out.trans' HC3.out⟩
          case measure => simp [intOf]; omega
        · obtain rfl : k = N := by omega
          clear hlt hk
          go_wp2_with fail
          go_ret
          have eN : t.cache.take k = t.cache := List.take_of_length_le (by rw [HN.out]; exact Nat.le_refl _)
          obtain ⟨k1, k2⟩ := HIN.out.put0 (j := 3) (u := .slice none 0 0) (vm' := vm') (vc' := .slice none 0 0) (vb' := vb') (vs' := vs') (va' := va') (t' := { rall t (t.cache.take k) with cache := [] }) rfl rfl (.inl ⟨rfl, rfl⟩) (.inr ⟨rfl, rfl⟩) ⟨rfl, rfl⟩ ⟨rfl, rfl⟩ (.inl ⟨rfl, rfl⟩)
          rw [← eN]
          have hk1 : RkAt _ D q _ _ := ⟨_, _, _, _, _, k1⟩
          have hsw := HCH.out.size
          have hsd := H.out.sd
          have hnq : ¬ (q = D) := fun e => H.out.sq (e ▸ hsd)
          exact ⟨rfl, hk1.ext4 HCH.out.size hs1 k2.size hq, (HP1.out.chg HCH.out hnq).chg k2 hnq, ((HC1.out.mono (fun _ h => .inr h)).trans HCH.out (fun k e => .inl (.inl (e ▸ hsd)))).trans k2 (fun k e => .inl (.inl (e ▸ hsd)))⟩
end Go.Proofs.YtmgagalhpkieoaaGreatDoor
