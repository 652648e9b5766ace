/- The document's disk: Write. -/
import Derived.Test.YtneemllgimeacaaRx
namespace Go.Proofs.Ytneemllgimeacaa
open Go.RowKit

/-- Rows of numbers and rows of blocks are apart. -/
theorem rows_apart {w : World} {B B' : Nat} {v v' : Value} {l : List (Nat × Bs)} {l' : List Nat} (h : OwnP w B v l) (h' : OwnN w B' v' l') : ∀ g, v'.ownBlock = some g → ¬ v.ownBlock = some g := fun g hg e => by
  obtain ⟨cs, hb⟩ := owns_blk h e
  obtain ⟨cs', hb'⟩ := owns_blk h' hg
  exact absurd (hb'.same hb) (by decide)
theorem kept_put {w : World} {D q : Nat} {vm vc vb vs va : Value} {S : Nat → Prop} {t : Rsk} (h : RkIn w D q vm vc vb vs va S t) (hq : q < w.heap.size) (x : Nat × Bs) (hl : t.cache.length < 1000000) (ty : TypeId) :
    ∃ v' w', (Builtin.append_ #[37, 37] ty #[vc, .slice (some ⟨w.heap.size, 0, none⟩) 1 1]).run Try.prog (w.alloc (.cells (pcells x).toArray 92)) = .ok v' w' ∧ (∃ sp n c, v' = .slice sp n c) ∧ w'.cell? ⟨D, 3, none⟩ = some vc ∧ w'.frozen? ⟨D, 3, none⟩ = false ∧
      RkAt (w'.setCell ⟨D, 3, none⟩ v') D q (Ext S w (w'.setCell ⟨D, 3, none⟩ v')) { t with cache := t.cache ++ [x] } ∧ Chg S w (w'.setCell ⟨D, 3, none⟩ v') := by
  have hb0 : Below w.heap.size w (w.alloc (.cells (pcells x).toArray 92)) := (Below.refl _ _).alloc (Nat.le_refl _) _
  obtain ⟨v', w', hr, ho', hgr, hor⟩ := ownP_app (h.oc.alloc (.cells (pcells x).toArray 92)) (Nat.zero_le _) hl x (adr := ⟨w.heap.size, 0, none⟩) (c := 1) (fun j u hj => by rw [Addr.add_mid, Nat.zero_add]; exact (Blk.new w (pcells x) 92).cell hj) ty
  have hc : Chg (fun k => vc.ownBlock = some k) w w' := (Chg.of_below hb0).grown hgr (fun k hk => .inl hk)
  have hnD : ¬ vc.ownBlock = some D := fun e => h.oc.nd h.blk D e rfl
  have hbD : Blk w' D (rcells q vm vc vb vs va t) 40 := h.blk.chg hc hnD
  have hnew : ∀ g, v'.ownBlock = some g → S g ∨ w.heap.size ≤ g := fun g hg => by
    rcases hor with e | e
    · rw [e] at hg; exact .inl (h.sc g hg)
    · rw [e] at hg; cases hg; exact .inr hb0.size
  obtain ⟨h1, h2⟩ := h.put (j := 3) (u := v') (vm' := vm) (vc' := v') (vb' := vb) (vs' := vs) (va' := va) (t' := { t with cache := t.cache ++ [x] }) hq hc hnD rfl h.nlt (owns_chg h.om hc (fun g hg e => h.ap g e hg)) ho' (owns_chg h.ob hc (rows_apart h.oc h.ob)) (owns_chg h.os hc (rows_apart h.oc h.os)) (owns_chg h.oa hc (rows_apart h.oc h.oa))
    (fun g hg => .inl (h.sm g hg)) hnew (fun g hg => .inl (h.sb g hg)) (fun g hg => .inl (h.ss g hg)) (fun g hg => .inl (h.sa g hg)) (fun g hg e => by
      rcases hor with e' | e'
      · rw [e'] at hg; exact h.ap g hg e
      · rw [e'] at hg; cases hg
        have := h.lt _ (h.sm _ e)
        simp at this
        omega)
  refine ⟨v', w', hr, own_slice3 ho', hbD.cell rfl, hbD.free 3, ⟨_, _, _, _, _, h1⟩, h2.mono (fun k hk => ?_)⟩
  rcases hk with hk | rfl
  · exact h.sc k hk
  · exact h.sd
/-- A cell that holds no row is put anew, or a row is laid down. -/
theorem RkIn.put0 {w : World} {D q j : Nat} {u vm vc vb vs va vm' vc' vb' vs' va' : Value} {S : Nat → Prop} {t t' : Rsk} (h : RkIn w D q vm vc vb vs va S t)
    (hcells : (rcells q vm vc vb vs va t).set j u = rcells q vm' vc' vb' vs' va' t') (hn : t'.n = t.n)
    (hm : vm' = vm ∧ t'.m = t.m ∨ vm' = .slice none 0 0 ∧ t'.m = []) (hc : vc' = vc ∧ t'.cache = t.cache ∨ vc' = .slice none 0 0 ∧ t'.cache = []) (hb : vb' = vb ∧ t'.bad = t.bad) (hs : vs' = vs ∧ t'.stuck = t.stuck) (ha : va' = va ∧ t'.astray = t.astray ∨ va' = .slice none 0 0 ∧ t'.astray = none) :
    RkIn (w.setCell ⟨D, j, none⟩ u) D q vm' vc' vb' vs' va' S t' ∧ Chg (fun k => k = D) w (w.setCell ⟨D, j, none⟩ u) := by
  have hc1 : Chg (fun k => k = D) w (w.setCell ⟨D, j, none⟩ u) := chg1 j u
  obtain ⟨rfl, eb⟩ := hb
  obtain ⟨rfl, es⟩ := hs
  have ob := owns_chg h.ob hc1 (h.ob.nd h.blk)
  have os := owns_chg h.os hc1 (h.os.nd h.blk)
  have hblk : Blk (w.setCell ⟨D, j, none⟩ u) D (rcells q vm' vc' vb' vs' va' t') 40 := by rw [← hcells]; exact h.blk.set j u
  have hlt : ∀ k, S k → k < (w.setCell ⟨D, j, none⟩ u).heap.size := fun k hk => Nat.lt_of_lt_of_le (h.lt k hk) hc1.size
  have hnn : ∀ g, (Value.slice none 0 0).ownBlock ≠ some g := fun g e => by simp [Value.ownBlock] at e
  have om : OwnP (w.setCell ⟨D, j, none⟩ u) 0 vm' t'.m ∧ (∀ g, vm'.ownBlock = some g → S g) ∧ (∀ g, vm'.ownBlock = some g → vm.ownBlock = some g) := by
    rcases hm with ⟨rfl, e⟩ | ⟨rfl, e⟩
    · rw [e]; exact ⟨owns_chg h.om hc1 (h.om.nd h.blk), h.sm, fun _ h => h⟩
    · rw [e]; exact ⟨World.ownsRow_nil _ _ _ _, fun g hg => absurd hg (hnn g), fun g hg => absurd hg (hnn g)⟩
  have oc : OwnP (w.setCell ⟨D, j, none⟩ u) 0 vc' t'.cache ∧ (∀ g, vc'.ownBlock = some g → S g) ∧ (∀ g, vc'.ownBlock = some g → vc.ownBlock = some g) := by
    rcases hc with ⟨rfl, e⟩ | ⟨rfl, e⟩
    · rw [e]; exact ⟨owns_chg h.oc hc1 (h.oc.nd h.blk), h.sc, fun _ h => h⟩
    · rw [e]; exact ⟨World.ownsRow_nil _ _ _ _, fun g hg => absurd hg (hnn g), fun g hg => absurd hg (hnn g)⟩
  have oa : OwnN (w.setCell ⟨D, j, none⟩ u) 0 va' t'.astray.toList ∧ (∀ g, va'.ownBlock = some g → S g) := by
    rcases ha with ⟨rfl, e⟩ | ⟨rfl, e⟩
    · rw [e]; exact ⟨owns_chg h.oa hc1 (h.oa.nd h.blk), h.sa⟩
    · rw [e]; exact ⟨World.ownsRow_nil _ _ _ _, fun g hg => absurd hg (hnn g)⟩
  exact ⟨⟨hblk, om.1, oc.1, by rw [eb]; exact ob, by rw [es]; exact os, oa.1, om.2.1, oc.2.1, h.sb, h.ss, oa.2, fun g hg e => h.ap g (oc.2.2 g hg) (om.2.2 g e), h.sd, h.sq, hlt, by rw [hn]; exact h.nlt⟩, hc1⟩
def rkept (t : Rsk) (a : Nat) (b : Bs) : Rsk := if a < t.n then { t with cache := t.cache ++ [(a, b)] } else t
def rwrote (t : Rsk) (p : Pw) (a : Nat) (b : Bs) : Int × Rsk × Pw :=
  if t.dead then (3, t, p) else if p.on = false then (3, t, p) else
  if a < t.n then (if b.length = 512 then
    (if p.step.1 = false then (3, t, p.step.2) else if t.lose then (0, { t with lose := false }, p.step.2) else
      match t.astray with
      | some x => (0, rkept { t with astray := none } x b, p.step.2)
      | none => (0, rkept t a b, p.step.2)) else (1, t, p)) else (1, t, p)
/-- What an act on the document's disk leaves. -/
def Rwrote (D q : Nat) (S : Nat → Prop) (r : Int × Rsk × Pw) (w : World) (e : Ending) (w' : World) : Prop :=
  e = .returned (.int .i64 r.1) ∧ RkAt w' D q (Ext S w w') r.2.1 ∧ RpAt w' q r.2.2 ∧ Chg (fun k => S k ∨ k = q) w w'
theorem RpAt.c {w : World} {q : Nat} {p : Pw} (h : RpAt w q p) : w.cell? ⟨q, 0, none⟩ = some (.bool (!p.on)) ∧ w.cell? ⟨q, 1, none⟩ = some (.int .i64 p.fuse) ∧ q < w.heap.size := ⟨h.blk.cell rfl, h.blk.cell rfl, h.blk.lt⟩
theorem rwrote_same {D q : Nat} {S : Nat → Prop} {t : Rsk} {p : Pw} {w : World} {r : Int} (h : RkAt w D q S t) (hp : RpAt w q p) : Rwrote D q S (r, t, p) w (.returned (.int .i64 r)) w := ⟨rfl, h.ext hp.blk.lt, hp, Chg.refl _ _⟩
set_option maxRecDepth 100000 in
set_option maxHeartbeats 4000000 in
theorem rwrite_any (D q : Nat) (S : Nat → Prop) (t : Rsk) (p : Pw) (a : Nat) (b : Bs) (ha : a < 65536) (_ : b.length < 1000000) (hal : ∀ x, t.astray = some x → x < 65536) (w : World) (h : RkAt w D q S t) (hp : RpAt w q p) (hs : Small t) :
    Calls Try.prog 37 #[.pointer (some ⟨D, 0, none⟩), .int .u16 (a : Int), .string (bstr b)] w (Rwrote D q S (rwrote t p a b) w) := by
  have HK := Lib.hid h
  have HP := Lib.hid hp
  have HS := Lib.hid hs
  have HAL := Lib.hid hal
  obtain ⟨vm, vc, vb, vs, va, h⟩ := h
  obtain ⟨c0, c1, -, -, -, -, c6, -, -⟩ := h.c
  have hn := h.nlt
  have wa := IntWalk.i64_in (a : Int) (by omega)
  have hq := hp.blk.lt
  have d0 : w.cell? ⟨q, 0, none⟩ = some (.bool (!p.on)) := hp.blk.cell rfl
  have H := Lib.hid h
  have hbs := bstr_size b
  clear h hs hp hal
  unfold rwrote
  by_cases hd : t.dead = true
  · rw [hd] at c6 ⊢
    simp only [if_true]
    go_enter Try.func37, Try.ntmps37
    go_wp2_with fail
    go_ret
    exact rwrote_same HK.out HP.out
  · have hd' : t.dead = false := by simpa using hd
    rw [if_neg hd]
    rw [hd'] at c6
    clear hd
    by_cases hon : p.on = false
    · rw [hon] at d0
      rw [if_pos hon]
      simp only [Bool.not_false] at d0
      go_enter Try.func37, Try.ntmps37
      go_wp2_with fail
      go_ret
      exact rwrote_same HK.out HP.out
    · rw [if_neg hon]
      have hon' : p.on = true := by simpa using hon
      rw [hon'] at d0
      simp only [Bool.not_true] at d0
      clear hon
      by_cases hlt : a < t.n
      · rw [if_pos hlt]
        have hge : ¬ ((t.n : Int) ≤ (a : Int)) := by omega
        by_cases hbl : b.length = 512
        · rw [if_pos hbl]
          rw [hbl] at hbs
          have hne : ((bstr b).size : Int) = 512 := by omega
          clear hbl
          by_cases hst : p.step.1 = false
          · rw [if_pos hst]
            go_enter Try.func37, Try.ntmps37
            go_wp2_with fail
            refine (rstep_any q p w HP.out).mono ?_
            rw [hst]
            rintro e w1 ⟨rfl, hp1, hc1⟩
            have HP1 := Lib.hid hp1
            have HC1 := Lib.hid hc1
            have hqn : ∀ k, S k → ¬ k = q := fun k hk e => H.out.sq (e ▸ hk)
            have h1 := H.out.chg hc1 hqn
            have HK1 := Lib.hid (HK.out.chg hc1 hqn)
            have hq1 : q < w1.heap.size := Nat.lt_of_lt_of_le hq hc1.size
            have hs1 : w.heap.size ≤ w1.heap.size := hc1.size
            obtain ⟨e0, -, -, e3, -, -, -, e7, e8⟩ := h1.c
            have H1 := Lib.hid h1
            have hx1 := h1.blk.free 7
            have hx2 := h1.blk.free 8
            clear hc1 hp1 h1 hqn c0 c1 c6 d0
            go_wp2_with fail
            go_ret
            exact ⟨rfl, (HK1.out.ext hq1).ext2 hs1 hq, HP1.out, HC1.out.mono (fun _ h => .inr h)⟩
          · rw [if_neg hst]
            have hst' : p.step.1 = true := by simpa using hst
            clear hst
            have hst := hst'
            by_cases hlo : t.lose = true
            · rw [if_pos hlo]
              go_enter Try.func37, Try.ntmps37
              go_wp2_with fail
              refine (rstep_any q p w HP.out).mono ?_
              rw [hst]
              rintro e w1 ⟨rfl, hp1, hc1⟩
              have HP1 := Lib.hid hp1
              have HC1 := Lib.hid hc1
              have hqn : ∀ k, S k → ¬ k = q := fun k hk e => H.out.sq (e ▸ hk)
              have h1 := H.out.chg hc1 hqn
              have HK1 := Lib.hid (HK.out.chg hc1 hqn)
              have hq1 : q < w1.heap.size := Nat.lt_of_lt_of_le hq hc1.size
              have hs1 : w.heap.size ≤ w1.heap.size := hc1.size
              obtain ⟨e0, -, -, e3, -, -, -, e7, e8⟩ := h1.c
              have H1 := Lib.hid h1
              have hx1 := h1.blk.free 7
              have hx2 := h1.blk.free 8
              clear hc1 hp1 h1 hqn c0 c1 c6 d0
              rw [hlo] at e7
              clear e8 e3
              go_wp2_with fail
              go_ret
              obtain ⟨k1, k2⟩ := H1.out.put0 (j := 7) (u := .bool false) (vm' := vm) (vc' := vc) (vb' := vb) (vs' := vs) (va' := va) (t' := { t with lose := false }) rfl rfl (.inl ⟨rfl, rfl⟩) (.inl ⟨rfl, rfl⟩) ⟨rfl, rfl⟩ ⟨rfl, rfl⟩ (.inl ⟨rfl, rfl⟩)
              exact ⟨rfl, RkAt.ext ⟨_, _, _, _, _, k1⟩ hq, HP1.out.chg k2 (fun e => H.out.sq (e ▸ H.out.sd)), (HC1.out.mono (fun _ h => .inr h)).trans k2 (fun k e => .inl (.inl (e ▸ H.out.sd)))⟩
            · rw [if_neg hlo]
              have hlo' : t.lose = false := by simpa using hlo
              clear hlo
              obtain ⟨oa, hoa⟩ : ∃ oa, t.astray = oa := ⟨_, rfl⟩
              rw [hoa]
              cases oa with
              | none =>
                simp only
                obtain ⟨spa, ca, hva⟩ : ∃ sp c, va = .slice sp 0 c := by
                  obtain ⟨sp, c, e⟩ := own_slice H.out.oa
                  rw [hoa] at e
                  exact ⟨sp, c, e⟩
                have hz : ¬ ((0 : Int) < 0) := by omega
                have hk := hlt
                · unfold rkept
                  rw [if_pos hk]
                  go_enter Try.func37, Try.ntmps37
                  go_wp2_with fail
                  refine (rstep_any q p w HP.out).mono ?_
                  rw [hst]
                  rintro e w1 ⟨rfl, hp1, hc1⟩
                  have HP1 := Lib.hid hp1
                  have HC1 := Lib.hid hc1
                  have hqn : ∀ k, S k → ¬ k = q := fun k hk e => H.out.sq (e ▸ hk)
                  have h1 := H.out.chg hc1 hqn
                  have HK1 := Lib.hid (HK.out.chg hc1 hqn)
                  have hq1 : q < w1.heap.size := Nat.lt_of_lt_of_le hq hc1.size
                  have hs1 : w.heap.size ≤ w1.heap.size := hc1.size
                  obtain ⟨e0, -, -, e3, -, -, -, e7, e8⟩ := h1.c
                  have H1 := Lib.hid h1
                  have hx1 := h1.blk.free 7
                  have hx2 := h1.blk.free 8
                  clear hc1 hp1 h1 hqn c0 c1 c6 d0
                  rw [hlo'] at e7
                  rw [hva] at e8
                  clear hz
                  obtain ⟨v9, w5, hr, ⟨sp9, n9, c9, rfl⟩, hu9, hf9, hrk, hch⟩ := kept_put H1.out hq1 (a, b) HS.out.c 37
                  have HRK := Lib.hid hrk
                  have HCH := Lib.hid hch
                  clear hrk hch
                  have HR := Lib.hid hr
                  clear hr
                  go_wp2_with (first | (at_builtin; refine wpL_ok rfl (ex_app37 rfl rfl rfl HR.out) ?_) | fail)
                  go_ret
                  exact ⟨rfl, RkAt.ext2 HRK.out hs1 hq, HP1.out.chg HCH.out H.out.sq, (HC1.out.mono (fun _ h => .inr h)).trans HCH.out (fun k e => .inl (.inl e))⟩
              | some x =>
                simp only
                have hx := HAL.out x hoa
                have wx := IntWalk.i64_in (x : Int) (by omega)
                by_cases hk : x < t.n
                · unfold rkept
                  simp only [hk, if_true]
                  have hki : (x : Int) < (t.n : Int) := by omega
                  go_enter Try.func37, Try.ntmps37
                  go_wp2_with fail
                  refine (rstep_any q p w HP.out).mono ?_
                  rw [hst]
                  rintro e w1 ⟨rfl, hp1, hc1⟩
                  have HP1 := Lib.hid hp1
                  have HC1 := Lib.hid hc1
                  have hqn : ∀ k, S k → ¬ k = q := fun k hk e => H.out.sq (e ▸ hk)
                  have h1 := H.out.chg hc1 hqn
                  have HK1 := Lib.hid (HK.out.chg hc1 hqn)
                  have hq1 : q < w1.heap.size := Nat.lt_of_lt_of_le hq hc1.size
                  have hs1 : w.heap.size ≤ w1.heap.size := hc1.size
                  obtain ⟨e0, -, -, e3, -, -, -, e7, e8⟩ := h1.c
                  have H1 := Lib.hid h1
                  have hx1 := h1.blk.free 7
                  have hx2 := h1.blk.free 8
                  clear hc1 hp1 h1 hqn c0 c1 c6 d0
                  rw [hlo'] at e7
                  have hns := own_ns H1.out.oa
                  rw [hoa] at hns
                  obtain ⟨spx, cx, hvx, -, -, h3⟩ := hns
                  obtain ⟨gx, rfl, hgx, hcx⟩ := h3 (by simp)
                  have hc0 : w1.cell? ⟨gx, 0, none⟩ = some (.int .u16 (x : Int)) := hcx 0 x rfl
                  rw [hvx] at e8
                  clear hcx h3 hgx
                  simp only [List.length_cons, List.length_nil, Nat.zero_add, Option.toList] at e8
                  obtain ⟨k1, k2⟩ := H1.out.put0 (j := 8) (u := .slice none 0 0) (vm' := vm) (vc' := vc) (vb' := vb) (vs' := vs) (va' := .slice none 0 0) (t' := { t with astray := none }) rfl rfl (.inl ⟨rfl, rfl⟩) (.inl ⟨rfl, rfl⟩) ⟨rfl, rfl⟩ ⟨rfl, rfl⟩ (.inr ⟨rfl, rfl⟩)
                  have K1 := Lib.hid k1
                  have K2 := Lib.hid k2
                  have hq2 : q < (w1.setCell ⟨D, 8, none⟩ (.slice none 0 0)).heap.size := Nat.lt_of_lt_of_le hq1 k2.size
                  clear k1 k2 hvx
                  obtain ⟨v9, w5, hr, ⟨sp9, n9, c9, rfl⟩, hu9, hf9, hrk, hch⟩ := kept_put K1.out hq2 (x, b) HS.out.c 37
                  have HRK := Lib.hid hrk
                  have HCH := Lib.hid hch
                  clear hrk hch
                  have hsz : (w1.setCell ⟨D, 8, none⟩ (.slice none 0 0)).heap.size = w1.heap.size := by simp
                  rw [hsz] at hr
                  have HR := Lib.hid hr
                  clear hr hsz
                  go_wp2_with (first | (at_builtin; refine wpL_ok rfl (ex_app37 rfl rfl rfl HR.out) ?_) | fail)
                  go_ret
                  exact ⟨rfl, RkAt.ext2 HRK.out (Nat.le_trans hs1 K2.out.size) hq, (HP1.out.chg K2.out (fun e => H.out.sq (e ▸ H.out.sd))).chg HCH.out H.out.sq, ((HC1.out.mono (fun _ h => .inr h)).trans K2.out (fun k e => .inl (.inl (e ▸ H.out.sd)))).trans HCH.out (fun k e => .inl (.inl e))⟩
                · unfold rkept
                  simp only [hk, if_false]
                  have hki : ¬ (x : Int) < (t.n : Int) := by omega
                  go_enter Try.func37, Try.ntmps37
                  go_wp2_with fail
                  refine (rstep_any q p w HP.out).mono ?_
                  rw [hst]
                  rintro e w1 ⟨rfl, hp1, hc1⟩
                  have HP1 := Lib.hid hp1
                  have HC1 := Lib.hid hc1
                  have hqn : ∀ k, S k → ¬ k = q := fun k hk e => H.out.sq (e ▸ hk)
                  have h1 := H.out.chg hc1 hqn
                  have HK1 := Lib.hid (HK.out.chg hc1 hqn)
                  have hq1 : q < w1.heap.size := Nat.lt_of_lt_of_le hq hc1.size
                  have hs1 : w.heap.size ≤ w1.heap.size := hc1.size
                  obtain ⟨e0, -, -, e3, -, -, -, e7, e8⟩ := h1.c
                  have H1 := Lib.hid h1
                  have hx1 := h1.blk.free 7
                  have hx2 := h1.blk.free 8
                  clear hc1 hp1 h1 hqn c0 c1 c6 d0
                  rw [hlo'] at e7
                  have hns := own_ns H1.out.oa
                  rw [hoa] at hns
                  obtain ⟨spx, cx, hvx, -, -, h3⟩ := hns
                  obtain ⟨gx, rfl, hgx, hcx⟩ := h3 (by simp)
                  have hc0 : w1.cell? ⟨gx, 0, none⟩ = some (.int .u16 (x : Int)) := hcx 0 x rfl
                  rw [hvx] at e8
                  clear hcx h3 hgx
                  simp only [List.length_cons, List.length_nil, Nat.zero_add, Option.toList] at e8
                  obtain ⟨k1, k2⟩ := H1.out.put0 (j := 8) (u := .slice none 0 0) (vm' := vm) (vc' := vc) (vb' := vb) (vs' := vs) (va' := .slice none 0 0) (t' := { t with astray := none }) rfl rfl (.inl ⟨rfl, rfl⟩) (.inl ⟨rfl, rfl⟩) ⟨rfl, rfl⟩ ⟨rfl, rfl⟩ (.inr ⟨rfl, rfl⟩)
                  have K1 := Lib.hid k1
                  have K2 := Lib.hid k2
                  have hq2 : q < (w1.setCell ⟨D, 8, none⟩ (.slice none 0 0)).heap.size := Nat.lt_of_lt_of_le hq1 k2.size
                  clear k1 k2 hvx
                  go_wp2_with fail
                  go_ret
                  exact ⟨rfl, RkAt.ext ⟨_, _, _, _, _, K1.out⟩ hq, HP1.out.chg K2.out (fun e => H.out.sq (e ▸ H.out.sd)), (HC1.out.mono (fun _ h => .inr h)).trans K2.out (fun k e => .inl (.inl (e ▸ H.out.sd)))⟩
        · rw [if_neg hbl]
          have hne : ¬ ((bstr b).size : Int) = 512 := by omega
          go_enter Try.func37, Try.ntmps37
          go_wp2_with fail
          go_ret
          exact rwrote_same HK.out HP.out
      · rw [if_neg hlt]
        have hge : (t.n : Int) ≤ (a : Int) := by omega
        go_enter Try.func37, Try.ntmps37
        go_wp2_with fail
        go_ret
        exact rwrote_same HK.out HP.out
end Go.Proofs.Ytneemllgimeacaa
