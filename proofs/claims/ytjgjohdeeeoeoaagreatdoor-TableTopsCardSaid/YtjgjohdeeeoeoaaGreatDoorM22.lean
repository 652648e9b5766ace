/- The tree's anew. -/
import Derived.Test.YtjgjohdeeeoeoaaGreatDoorM21
namespace Go.Proofs.YtjgjohdeeeoeoaaGreatDoor
open Go.RowKit
attribute [local go_sem] Oper.semAt_some
def tagP (lv obj off : Nat) : Pt := { zeroP with kind := 3, level := lv, obj := obj, off := off }
theorem tagP_ok {lv obj off : Nat} (h1 : lv < 256) (h2 : obj < 65536) (h3 : off < 4294967296) : (tagP lv obj off).OK :=
  ⟨by simp [tagP], h1, h2, h3, by simp [tagP, zeroP], by simp [tagP, zeroP], by simp [tagP, zeroP], fun x hx => by simp [tagP, zeroP] at hx; subst hx; omega⟩
def anP (s : Sh) (ns : List Pt) (lv obj off : Nat) : Pt := if ns = holes then zeroP else if putOk ns = false then zeroP else nwP s (tagP lv obj off) (nodeB ns)
def anE (s : Sh) (ns : List Pt) : Nat := if ns = holes then 0 else if putOk ns = false then 5 else nwE s
def anS (s : Sh) (ns : List Pt) (lv obj off : Nat) : Sh := if ns = holes then s else if putOk ns = false then s else nwS s (tagP lv obj off) (nodeB ns)
theorem Lim.nwS {m : Nat} {s : Sh} {p : Pt} {b : Bs} (h : Lim m s) (hm : m + 1 < 100000000) : Lim (m + 1) (nwS s p b) := by
  unfold Go.Proofs.YtjgjohdeeeoeoaaGreatDoor.nwS
  split
  · exact h.mono (by omega) hm
  · rename_i hf
    unfold fullS at hf
    have := h.rm
    exact ⟨Nat.le_trans h.rd (by omega), by have := h.md; simp; omega, Nat.le_trans h.gn (by omega), hm, by have := h.bl; simp; omega, h.bd, by show -1 ≤ max (s.room - 1) (-1) ∧ max (s.room - 1) (-1) ≤ 1000; omega⟩
theorem nwP_full {s : Sh} {p : Pt} {b : Bs} (h : nwE s ≠ 0) : nwP s p b = zeroP := by
  unfold nwP
  unfold nwE at h
  split
  · rfl
  · rename_i hf; rw [if_neg hf] at h; exact absurd rfl h
structure AnS (L : Nat → Nat) (w : World) (D obj : Nat) (ns : List Pt) (G : Nat) (s : Sh) (X : World) : Prop where
  sh : ∃ L1 v1, ShAt X L1 D s v1 ∧ Mv 5 L w L1 X ∧ L1 G = 0 ∧ L1 (G + 1) = 0 ∧ L1 (G + 1 + 1) = 0
  mb : Blk X G (mcells D obj) 145
  nd : Blk X (G + 1) (ncells ns) 170
  res : Blk X (G + 1 + 1) (pcells zeroP) 28
  lo : w.heap.size ≤ G
theorem AnS.below {L : Nat → Nat} {w : World} {D obj : Nat} {ns : List Pt} {G : Nat} {s : Sh} {X Y : World} (h : AnS L w D obj ns G s X) (hb : Below X.heap.size X Y) : AnS L w D obj ns G s Y := by
  obtain ⟨⟨L1, v1, h1, h2, h3⟩, k1, k2, k3, k4⟩ := h
  exact ⟨⟨L1, v1, h1.below hb, h2.trans (Mv.of_below hb h1.lt), h3⟩, k1.below hb k1.lt, k2.below hb k2.lt, k3.below hb k3.lt, k4⟩
theorem AnS.moved {L L1 : Nat → Nat} {w : World} {D obj : Nat} {ns : List Pt} {G : Nat} {s s' : Sh} {X Y : World} (h : AnS L w D obj ns G s X) (hm : Mv 5 L w L1 X) (hl : L1 G = 0 ∧ L1 (G + 1) = 0 ∧ L1 (G + 1 + 1) = 0) (hp : ShPost 5 L1 X D s' Y) : AnS L w D obj ns G s' Y := by
  obtain ⟨L2, v2, k1, k2⟩ := hp
  exact ⟨⟨L2, v2, k1, hm.trans k2, (k2.old _ h.mb.lt).trans hl.1, (k2.old _ h.nd.lt).trans hl.2.1, (k2.old _ h.res.lt).trans hl.2.2⟩, k2.blk h.mb hl.1, k2.blk h.nd hl.2.1, k2.blk h.res hl.2.2, h.lo⟩
theorem AnS.ends {L : Nat → Nat} {w : World} {D obj : Nat} {ns : List Pt} {G : Nat} {s : Sh} {X : World} (h : AnS L w D obj ns G s X) (q : Pt) : ShPost 5 L w D s (X.setRow (G + 1 + 1) (pcells q).toArray) ∧ Blk (X.setRow (G + 1 + 1) (pcells q).toArray) (G + 1 + 1) (pcells q) 28 := by
  obtain ⟨⟨L1, v1, h1, h2, h3⟩, k1, k2, k3, k4⟩ := h
  have hc := chgR X (G + 1 + 1) (pcells q).toArray
  have hz : (X.setRow (G + 1 + 1) (pcells q).toArray).heap.size = X.heap.size := by simp
  refine ⟨⟨L1, v1, h1.out hc (fun g e _ => .inl (by rw [e]; exact h3.2.2)) (fun _ _ => .inl rfl) (fun g hg => by rw [hz]; exact h1.lt g hg), ?_⟩, k3.row _⟩
  exact ⟨h2.chg.trans hc (fun g e => by right; have : g = G + 1 + 1 := e; omega), h2.old, h2.new⟩
def AnPost (L : Nat → Nat) (w : World) (D : Nat) (s : Sh) (ns : List Pt) (lv obj off m : Nat) (e : Ending) (w' : World) : Prop :=
  e = .returned (.tuple #[.agg (pcells (anP s ns lv obj off)).toArray, .int .i64 (anE s ns : Int)]) ∧ ShPost 5 L w D (anS s ns lv obj off) w' ∧ Lim m (anS s ns lv obj off)
theorem built_tag (lv obj off : Nat) : Tryz.prog.built 28 [(0, .int .u8 3), (1, .int .u8 (lv : Int)), (2, .int .u16 (obj : Int)), (3, .int .u32 (off : Int))] = some (pcells (tagP lv obj off)).toArray := by kernel_rfl
theorem ex_bldT {ρ : Operand → Value} {o : Oper} {x y z u : Operand} {w : World} {lv obj off : Nat} (ho : o.op = .build 28 #[(0, x), (1, y), (2, z), (3, u)]) (hx : ρ x = .int .u8 3) (hy : ρ y = .int .u8 (lv : Int)) (hz : ρ z = .int .u16 (obj : Int)) (hu : ρ u = .int .u32 (off : Int)) :
    (execOp ρ o).run Tryz.prog w = .ok (.value (.agg (pcells (tagP lv obj off)).toArray)) w := by
  have hr : (Instr.build 28 #[(0, .int .u8 3), (1, .int .u8 (lv : Int)), (2, .int .u16 (obj : Int)), (3, .int .u32 (off : Int))]).run Tryz.prog w = .ok (.agg (pcells (tagP lv obj off)).toArray) w := run_build w 28 _ _ (built_tag lv obj off)
  unfold execOp
  simp only [ho]
  rw [show (Array.map (fun x : Nat × Operand => (x.1, ρ x.2)) #[(0, x), (1, y), (2, z), (3, u)]) = #[(0, .int .u8 3), (1, .int .u8 (lv : Int)), (2, .int .u16 (obj : Int)), (3, .int .u32 (off : Int))] by simp [hx, hy, hz, hu]]
  simp only [Sem.run_bind, hr, Result.andThen_ok, Sem.run_pure]
set_option maxRecDepth 100000 in
set_option maxHeartbeats 8000000 in
theorem trAnew_any {w : World} {L : Nat → Nat} {D : Nat} {s : Sh} {v : Sv} {m : Nat} (obj : Nat) (ns : List Pt) (hns : NOK ns) (lv off : Nat) (hlv : lv < 256) (hobj : obj < 65536) (hoff : off < 4294967296) (h : ShAt w L D s v) (hk : Lim m s) (hm : m + 1 < 100000000) :
    Calls Tryz.prog 99 #[.agg (mcells D obj).toArray, .agg (ncells ns).toArray, .int .u8 (lv : Int), .int .u32 (off : Int)] w (AnPost L w D s ns lv obj off (m + 1)) := by
  have HA := Lib.hid hns
  have HX : Hid (∀ z, z = (pcells zeroP).toArray → AnS L w D obj ns w.heap.size s (((w.alloc (.cells (mcells D obj).toArray 145)).alloc (.cells (ncells ns).toArray 170)).alloc (.cells z 28))) := Lib.hid (fun z hz => by
    subst hz
    have hw1 : Below w.heap.size w (((w.alloc (.cells (mcells D obj).toArray 145)).alloc (.cells (ncells ns).toArray 170)).alloc (.cells (pcells zeroP).toArray 28)) := (((Below.refl _ _).alloc (Nat.le_refl _) _).alloc (by simp) _).alloc (by simp; omega) _
    exact ⟨⟨L, v, h.below hw1, Mv.of_below hw1 h.lt, h.not (Nat.le_refl _), h.not (by omega), h.not (by omega)⟩, ((Blk.new _ _ _).alloc _).alloc _, (Blk.new' _ _ _ _ _ (by simp) rfl).alloc _, Blk.new' _ _ _ _ _ (by simp) rfl, Nat.le_refl _⟩)
  have HK := Lib.hid hk; have HM := Lib.hid hm
  have HTG : Hid (tagP lv obj off).OK := Lib.hid (tagP_ok hlv hobj hoff)
  have HSZ := Lib.hid (size_pc zeroP_ok)
  obtain ⟨rp, hrp⟩ : ∃ r, anP s ns lv obj off = r := ⟨_, rfl⟩
  obtain ⟨re, hre⟩ : ∃ r, anE s ns = r := ⟨_, rfl⟩
  obtain ⟨rs, hrs⟩ : ∃ r, anS s ns lv obj off = r := ⟨_, rfl⟩
  have HRP := Lib.hid hrp; have HRE := Lib.hid hre; have HRS := Lib.hid hrs
  generalize hPost : AnPost L w D s ns lv obj off (m + 1) = Post
  have HP : Hid (∀ w', ShPost 5 L w D rs w' → Lim (m + 1) rs → Post (.returned (.tuple #[.agg (pcells rp).toArray, .int .i64 (re : Int)])) w') := Lib.hid fun w' h2 h3 => by rw [← hPost]; unfold AnPost; rw [hrp, hre, hrs]; exact ⟨rfl, h2, h3⟩
  have HLV : Hid (lv < 256 ∧ obj < 65536 ∧ off < 4294967296) := Lib.hid ⟨hlv, hobj, hoff⟩
  clear hns h hk hm hPost hrp hre hrs hlv hobj hoff
  go_enter Tryz.func99, Tryz.ntmps99
  go_upto_region 1 with fail
  refine (fun (k : ∀ W, AnS L w D obj ns w.heap.size s W → Code.wp _ _ _ _ W) => k _ (HX.out _ rfl)) ?_
  intro W hW
  obtain ⟨G, hG⟩ : ∃ g, w.heap.size = g := ⟨_, rfl⟩
  rw [hG] at hW ⊢
  have HX1 := Lib.hid hW
  clear hW HX hG
  go_wp2_with (first | (refine wpL_val rfl (ex_ldN HA.out HX1.out.nd rfl rfl) ?_) | fail)
  refine (empty_any ns HA.out W).mono ?_
  rintro e X2 ⟨rfl, hb2⟩
  have HX2 := Lib.hid (HX1.out.below hb2)
  have HRB := Lib.hid HX2.out.res
  clear hb2 HX1
  by_cases hh : ns = holes
  · have HBE := Lib.hid (HX2.out.ends zeroP)
    have e1 : rp = zeroP := by rw [← HRP.out]; unfold anP; rw [if_pos hh]
    have e2 : re = 0 := by rw [← HRE.out]; unfold anE; rw [if_pos hh]
    have e3 : rs = s := by rw [← HRS.out]; unfold anS; rw [if_pos hh]
    rw [e1, e2, e3] at HP
    have HE := Lib.hid (HP.out _ HBE.out.1 (HK.out.mono (by omega) HM.out))
    rw [decide_eq_true hh]
    clear e1 e2 e3 HP hh HRP HRE HRS
    go_wp2_with (first | (refine wpL_val rfl (ex_bld0 rfl) ?_) | (refine wpList_store_row rfl 28 (.tmp 8) (.tmp 15) rfl (G + 1 + 1) (pcells zeroP).toArray rfl rfl 28 _ HRB.out HSZ.out rfl (one_pc zeroP) ?_) | fail)
    refine bodyPost_ret (results_cs Tryz.results99 _ _ (G + 1 + 1) 28 _ rfl HBE.out.2 (size_pcl zeroP_ok)) rfl ?_
    exact HE.out
  · rw [decide_eq_false hh]
    have HNH : Hid (¬ ns = holes) := Lib.hid hh
    clear hh
    obtain ⟨⟨L1, v1, h1, h2, h3⟩, -⟩ := HX2.out
    have HPU := Lib.hid (nodePut_any ns HA.out X2 h1.tab.1)
    have HLT := Lib.hid h1.lt
    have HMV := Lib.hid h2; have HL3 := Lib.hid h3; have HSH := Lib.hid h1
    clear h1 h2 h3
    go_wp2_with (first | (refine wpL_val rfl (ex_ldN HA.out HX2.out.nd rfl rfl) ?_) | fail)
    refine HPU.out.mono ?_
    rintro e X3 ⟨hpp, hb3⟩
    have HX3 := Lib.hid (HX2.out.below hb3)
    have HSH3 := Lib.hid (HSH.out.below hb3)
    have HMV3 := Lib.hid (HMV.out.trans (Mv.of_below hb3 HLT.out))
    have HRB3 := Lib.hid HX3.out.res
    clear hb3 HPU HSH HMV HRB
    rcases hpp with ⟨hok, vv, rfl, hown⟩ | ⟨hno, rfl⟩
    · obtain ⟨sp, cap, rfl, q1, q2, q3, q4, q5⟩ := OwnB.form hown
      have hlen : (nodeB ns).length = 512 := by rw [nodeB_length HA.out.ok, HA.out.len]
      have hnw := shNew_any (tagP lv obj off) HTG.out (nodeB ns) sp cap HSH3.out (by have := HK.out.md; have := HM.out; omega) HK.out.bl HK.out.rm (by omega) q3 q4 (fun a ha => ⟨(q5 a ha).2, .inl (by
        have h1 := (q5 a ha).1
        have h2 := HLT.out a.block
        omega)⟩)
      obtain ⟨bl, hbl⟩ : ∃ n, (nodeB ns).length = n := ⟨_, rfl⟩
      rw [hbl] at hnw ⊢
      have e1 : nwP s (tagP lv obj off) (nodeB ns) = rp := by rw [← HRP.out]; unfold anP; rw [if_neg HNH.out, if_neg (by rw [hok]; decide)]
      have e2 : nwE s = re := by rw [← HRE.out]; unfold anE; rw [if_neg HNH.out, if_neg (by rw [hok]; decide)]
      have e3 : nwS s (tagP lv obj off) (nodeB ns) = rs := by rw [← HRS.out]; unfold anS; rw [if_neg HNH.out, if_neg (by rw [hok]; decide)]
      unfold NwPost at hnw
      rw [e1, e2, e3] at hnw
      have HNW := Lib.hid hnw
      have HPK : Hid rp.OK := Lib.hid (by rw [← e1]; exact nwP_ok HTG.out _)
      have HPZ : Hid (re ≠ 0 → rp = zeroP) := Lib.hid (fun h => by rw [← e1]; exact nwP_full (by rw [e2]; exact h))
      have HLM : Hid (Lim (m + 1) rs) := Lib.hid (by rw [← e3]; exact HK.out.nwS HM.out)
      have c0 : X3.cell? ⟨G, 0, none⟩ = some (.iface 45 (.pointer (some ⟨D, 0, none⟩))) := HX3.out.mb.cell rfl
      have c1 : X3.cell? ⟨G, 1, none⟩ = some (.int .u16 (obj : Int)) := HX3.out.mb.cell rfl
      clear hok hown q1 q2 q3 q4 q5 hlen hnw hbl e1 e2 e3 HX2 HRP HRE HRS
      go_wp2_with (first | (refine wpL_val rfl (ex_bldT (lv := lv) (obj := obj) (off := off) rfl rfl rfl rfl rfl) ?_) | fail)
      refine HNW.out.mono ?_
      rintro e X4 ⟨rfl, hp4⟩
      have HX4 := Lib.hid (HX3.out.moved HMV3.out HL3.out hp4)
      clear hp4 c0 c1 HNW HX3 HSH3 HMV3 HRB3
      have HSP := Lib.hid (size_pc HPK.out)
      have HLP : Hid ((pcells rp).toArray.size = 41) := Lib.hid (by rw [List.size_toArray, pcells_length HPK.out])
      go_upto_region 7 with (first | (refine wpList_store_row rfl 28 (.tmp 12) (.tmp 35) rfl X4.heap.size (pcells rp).toArray rfl rfl 28 _ (heap_alloc_new X4 _) HSP.out (by rw [HLP.out]; rfl) (one_pc rp) ?_) | fail)
      refine (fun (k : ∀ W, (AnS L w D obj ns G rs W ∧ Blk W X4.heap.size (pcells rp) 28) → Code.wp _ _ _ _ W) => k _ ⟨HX4.out.below (blk_row1 X4 _ (pcells rp) 28).2, (blk_row1 X4 _ (pcells rp) 28).1⟩) ?_
      rintro X5 ⟨hx5, hb5⟩
      obtain ⟨g5, hg5⟩ : ∃ g, X4.heap.size = g := ⟨_, rfl⟩
      rw [hg5] at hb5 ⊢
      have HX5 := Lib.hid hx5; have HB5 := Lib.hid hb5
      have HRB5 := Lib.hid hx5.res
      clear hx5 hb5 hg5 HX4
      by_cases he : re = 0
      · subst he
        have HBE := Lib.hid (HX5.out.ends rp)
        have HE := Lib.hid (HP.out _ HBE.out.1 HLM.out)
        have HZN : Hid ((pcells zeroP).toArray.size = (pcells rp).toArray.size) := Lib.hid (by rw [HLP.out, List.size_toArray, pcells_length zeroP_ok])
        clear HP
        go_wp2_with (first | (refine wpL_val rfl (ex_ldP HPK.out HB5.out rfl rfl) ?_) | (refine wpList_store_row rfl 28 (.tmp 8) (.tmp 41) rfl (G + 1 + 1) (pcells rp).toArray rfl rfl 28 _ HRB5.out HSP.out HZN.out (one_pc rp) ?_) | fail)
        refine bodyPost_ret (results_cs Tryz.results99 _ _ (G + 1 + 1) 28 _ rfl HBE.out.2 (size_pcl HPK.out)) rfl ?_
        exact HE.out
      · have he' : ¬ (re : Int) = 0 := by omega
        have HBE := Lib.hid (HX5.out.ends zeroP)
        rw [HPZ.out he] at HP
        have HE := Lib.hid (HP.out _ HBE.out.1 HLM.out)
        clear HP he
        go_wp2_with (first | (refine wpL_val rfl (ex_bld0 rfl) ?_) | (refine wpList_store_row rfl 28 (.tmp 8) (.tmp 39) rfl (G + 1 + 1) (pcells zeroP).toArray rfl rfl 28 _ HRB5.out HSZ.out rfl (one_pc zeroP) ?_) | fail)
        refine bodyPost_ret (results_cs Tryz.results99 _ _ (G + 1 + 1) 28 _ rfl HBE.out.2 (size_pcl zeroP_ok)) rfl ?_
        exact HE.out
    · have HBE := Lib.hid (HX3.out.ends zeroP)
      have e1 : rp = zeroP := by rw [← HRP.out]; unfold anP; rw [if_neg HNH.out, if_pos hno]
      have e2 : re = 5 := by rw [← HRE.out]; unfold anE; rw [if_neg HNH.out, if_pos hno]
      have e3 : rs = s := by rw [← HRS.out]; unfold anS; rw [if_neg HNH.out, if_pos hno]
      rw [e1, e2, e3] at HP
      have HE := Lib.hid (HP.out _ HBE.out.1 (HK.out.mono (by omega) HM.out))
      clear e1 e2 e3 HP hno HRP HRE HRS
      go_wp2_with (first | (refine wpL_val rfl (ex_bld0 rfl) ?_) | (refine wpList_store_row rfl 28 (.tmp 8) (.tmp 23) rfl (G + 1 + 1) (pcells zeroP).toArray rfl rfl 28 _ HRB3.out HSZ.out rfl (one_pc zeroP) ?_) | fail)
      refine bodyPost_ret (results_cs Tryz.results99 _ _ (G + 1 + 1) 28 _ rfl HBE.out.2 (size_pcl zeroP_ok)) rfl ?_
      exact HE.out
structure Ww where
  p : Pt
  e : Nat
  s : Sh
structure Gw where
  now : List Pt
  e : Nat
  s : Sh
def dl : Lf := (0, zeroP)
def goW (f : Sh → Pt → List Lf → Ww) (wide : Nat) (was : List Pt) : Nat → Sh → List Pt → List Lf → Gw
  | 0, s, now, _ => ⟨now, 0, s⟩
  | fuel + 1, s, now, l =>
    if l = [] then ⟨now, 0, s⟩
    else if (f s (was.getD ((l.getD 0 dl).1 / wide % 8) zeroP) (l.take (headN wide l))).e ≠ 0 then ⟨now, (f s (was.getD ((l.getD 0 dl).1 / wide % 8) zeroP) (l.take (headN wide l))).e, (f s (was.getD ((l.getD 0 dl).1 / wide % 8) zeroP) (l.take (headN wide l))).s⟩
    else goW f wide was fuel (f s (was.getD ((l.getD 0 dl).1 / wide % 8) zeroP) (l.take (headN wide l))).s (now.set ((l.getD 0 dl).1 / wide % 8) (f s (was.getD ((l.getD 0 dl).1 / wide % 8) zeroP) (l.take (headN wide l))).p) (l.drop (headN wide l))
def endW (obj : Nat) (n : Nat) (p : Pt) (was : List Pt) (off : Nat) (g : Gw) : Ww :=
  if g.e ≠ 0 then ⟨zeroP, g.e, g.s⟩ else if g.now = was then ⟨p, 0, g.s⟩
  else ⟨anP (oldN g.s p n was g.now) g.now n obj off, anE (oldN g.s p n was g.now) g.now, anS (oldN g.s p n was g.now) g.now n obj off⟩
def withP (obj : Nat) : Nat → Sh → Pt → List Lf → Ww
  | 0, s, p, l => if l = [] then ⟨p, 0, s⟩ else ⟨(l.getD 0 dl).2, 0, s⟩
  | n + 1, s, p, l => if l = [] then ⟨p, 0, s⟩ else if rnE s p ≠ 0 then ⟨zeroP, rnE s p, rnS s p⟩
    else endW obj (n + 1) p (rnN s p) ((l.getD 0 dl).1 / 8 ^ (n + 1)) (goW (withP obj n) (8 ^ n) (rnN s p) l.length (rnS s p) (rnN s p) l)
theorem withP_succ (obj n : Nat) (s : Sh) (p : Pt) (l : List Lf) : withP obj (n + 1) s p l = if l = [] then ⟨p, 0, s⟩ else if rnE s p ≠ 0 then ⟨zeroP, rnE s p, rnS s p⟩
    else endW obj (n + 1) p (rnN s p) ((l.getD 0 dl).1 / 8 ^ (n + 1)) (goW (withP obj n) (8 ^ n) (rnN s p) l.length (rnS s p) (rnN s p) l) := rfl
def cW : Nat → Nat
  | 0 => 0
  | n + 1 => 11 + 64 * cW n
def WithC (n : Nat) : Prop := ∀ {w : World} {L : Nat → Nat} {D obj : Nat} {s : Sh} {v : Sv} {m : Nat} (p : Pt) (_ : p.OK) (_ : obj < 65536) (l : List Lf) (_ : ∀ x ∈ l, Lf.OK x) (sp : Option Addr) (cap : Nat) (_ : l.length ≤ cap) (_ : l.length ≤ 64) (_ : SrcF w sp l) (_ : ∀ a, sp = some a → a.block < w.heap.size ∧ (L a.block = 0 ∨ L a.block = 10)) (_ : ShAt w L D s v) (_ : Lim m s) (_ : m + cW n < 100000000),
    Calls Tryz.prog 73 #[.agg (mcells D obj).toArray, .agg (pcells p).toArray, .int .u8 (n : Int), .slice sp l.length cap] w fun e w' => e = .returned (.tuple #[.agg (pcells (withP obj n s p l).p).toArray, .int .i64 ((withP obj n s p l).e : Int)]) ∧ ShPost 5 L w D (withP obj n s p l).s w' ∧ Lim (m + cW n) (withP obj n s p l).s ∧ (withP obj n s p l).p.OK
structure WbS (L : Nat → Nat) (w : World) (D obj : Nat) (p : Pt) (l : List Lf) (sp : Option Addr) (G : Nat) (s : Sh) (X : World) : Prop where
  sh : ∃ L1 v1, ShAt X L1 D s v1 ∧ Mv 5 L w L1 X ∧ (L1 G = 0 ∧ L1 (G + 1) = 0 ∧ L1 (G + 1 + 1) = 0) ∧ ∀ a, sp = some a → a.block < X.heap.size ∧ (L1 a.block = 0 ∨ L1 a.block = 10)
  mb : Blk X G (mcells D obj) 145
  p : Blk X (G + 1) (pcells p) 28
  res : Blk X (G + 1 + 1) (pcells zeroP) 28
  src : SrcF X sp l
  lo : w.heap.size ≤ G
theorem WbS.below {L : Nat → Nat} {w : World} {D obj : Nat} {p : Pt} {l : List Lf} {sp : Option Addr} {G : Nat} {s : Sh} {X Y : World} (h : WbS L w D obj p l sp G s X) (hb : Below X.heap.size X Y) : WbS L w D obj p l sp G s Y := by
  obtain ⟨⟨L1, v1, h1, h2, h3, h4⟩, k1, k2, k3, k4, k5⟩ := h
  exact ⟨⟨L1, v1, h1.below hb, h2.trans (Mv.of_below hb h1.lt), h3, fun a ha => ⟨Nat.lt_of_lt_of_le (h4 a ha).1 hb.size, (h4 a ha).2⟩⟩, k1.below hb k1.lt, k2.below hb k2.lt, k3.below hb k3.lt, k4.grown hb, k5⟩
theorem WbS.moved {L L1 : Nat → Nat} {w : World} {D obj : Nat} {p : Pt} {l : List Lf} {sp : Option Addr} {G : Nat} {s s' : Sh} {X Y : World} (h : WbS L w D obj p l sp G s X) (hm : Mv 5 L w L1 X) (hl : L1 G = 0 ∧ L1 (G + 1) = 0 ∧ L1 (G + 1 + 1) = 0) (ha : ∀ a, sp = some a → a.block < X.heap.size ∧ (L1 a.block = 0 ∨ L1 a.block = 10)) (hp : ShPost 5 L1 X D s' Y) : WbS L w D obj p l sp G s' Y := by
  obtain ⟨L2, v2, k1, k2⟩ := hp
  exact ⟨⟨L2, v2, k1, hm.trans k2, ⟨(k2.old _ h.mb.lt).trans hl.1, (k2.old _ h.p.lt).trans hl.2.1, (k2.old _ h.res.lt).trans hl.2.2⟩, fun a ha' => ⟨Nat.lt_of_lt_of_le (ha a ha').1 k2.size, by rw [k2.old _ (ha a ha').1]; exact (ha a ha').2⟩⟩, k2.blk h.mb hl.1, k2.blk h.p hl.2.1, k2.blk h.res hl.2.2, h.src.chg k2.chg (fun a ha' hf => by have := (ha a ha').2; unfold Foot at hf; omega), h.lo⟩
theorem WbS.ends {L : Nat → Nat} {w : World} {D obj : Nat} {p : Pt} {l : List Lf} {sp : Option Addr} {G : Nat} {s : Sh} {X : World} (h : WbS L w D obj p l sp G s X) (q : Pt) : ShPost 5 L w D s (X.setRow (G + 1 + 1) (pcells q).toArray) ∧ Blk (X.setRow (G + 1 + 1) (pcells q).toArray) (G + 1 + 1) (pcells q) 28 := by
  obtain ⟨⟨L1, v1, h1, h2, h3, h4⟩, k1, k2, k3, k4, k5⟩ := h
  have hc := chgR X (G + 1 + 1) (pcells q).toArray
  have hz : (X.setRow (G + 1 + 1) (pcells q).toArray).heap.size = X.heap.size := by simp
  refine ⟨⟨L1, v1, h1.out hc (fun g e _ => .inl (by rw [e]; exact h3.2.2)) (fun _ _ => .inl rfl) (fun g hg => by rw [hz]; exact h1.lt g hg), ?_⟩, k3.row _⟩
  exact ⟨h2.chg.trans hc (fun g e => by right; have : g = G + 1 + 1 := e; omega), h2.old, h2.new⟩
structure WiS (L : Nat → Nat) (w : World) (D obj : Nat) (p : Pt) (l : List Lf) (sp : Option Addr) (G ga gb : Nat) (was now : List Pt) (s : Sh) (X : World) : Prop where
  b : WbS L w D obj p l sp G s X
  wa : Blk X ga (ncells was) 170
  nw : Blk X gb (ncells now) 170
  ne : w.heap.size ≤ ga ∧ w.heap.size ≤ gb ∧ ga ≠ gb ∧ G < ga ∧ G + 1 < ga ∧ G + 1 + 1 < ga ∧ G + 1 + 1 < gb
  lab : ∃ L1 v1, ShAt X L1 D s v1 ∧ Mv 5 L w L1 X ∧ (L1 G = 0 ∧ L1 (G + 1) = 0 ∧ L1 (G + 1 + 1) = 0) ∧ (∀ a, sp = some a → a.block < X.heap.size ∧ (L1 a.block = 0 ∨ L1 a.block = 10) ∧ a.block ≠ gb) ∧ L1 ga = 0 ∧ L1 gb = 0
theorem WiS.below {L : Nat → Nat} {w : World} {D obj : Nat} {p : Pt} {l : List Lf} {sp : Option Addr} {G ga gb : Nat} {was now : List Pt} {s : Sh} {X Y : World} (h : WiS L w D obj p l sp G ga gb was now s X) (hb : Below X.heap.size X Y) : WiS L w D obj p l sp G ga gb was now s Y := by
  obtain ⟨h0, k1, k2, k3, ⟨L1, v1, h1, h2, h3, h4, h5⟩⟩ := h
  exact ⟨h0.below hb, k1.below hb k1.lt, k2.below hb k2.lt, k3, ⟨L1, v1, h1.below hb, h2.trans (Mv.of_below hb h1.lt), h3, fun a ha => ⟨Nat.lt_of_lt_of_le (h4 a ha).1 hb.size, (h4 a ha).2⟩, h5⟩⟩
theorem WiS.moved {L L1 : Nat → Nat} {w : World} {D obj : Nat} {p : Pt} {l : List Lf} {sp : Option Addr} {G ga gb : Nat} {was now : List Pt} {s s' : Sh} {X Y : World} (h : WiS L w D obj p l sp G ga gb was now s X) (hm : Mv 5 L w L1 X) (hl : L1 G = 0 ∧ L1 (G + 1) = 0 ∧ L1 (G + 1 + 1) = 0) (ha : ∀ a, sp = some a → a.block < X.heap.size ∧ (L1 a.block = 0 ∨ L1 a.block = 10) ∧ a.block ≠ gb) (hg : L1 ga = 0 ∧ L1 gb = 0) (hp : ShPost 5 L1 X D s' Y) : WiS L w D obj p l sp G ga gb was now s' Y := by
  have hb := h.b.moved hm hl (fun a ha' => ⟨(ha a ha').1, (ha a ha').2.1⟩) hp
  obtain ⟨L2, v2, k1, k2⟩ := hp
  exact ⟨hb, k2.blk h.wa hg.1, k2.blk h.nw hg.2, h.ne, ⟨L2, v2, k1, hm.trans k2, ⟨(k2.old _ h.b.mb.lt).trans hl.1, (k2.old _ h.b.p.lt).trans hl.2.1, (k2.old _ h.b.res.lt).trans hl.2.2⟩, fun a ha' => ⟨Nat.lt_of_lt_of_le (ha a ha').1 k2.size, by rw [k2.old _ (ha a ha').1]; exact (ha a ha').2.1, (ha a ha').2.2⟩, (k2.old _ h.wa.lt).trans hg.1, (k2.old _ h.nw.lt).trans hg.2⟩⟩
theorem WiS.put {L : Nat → Nat} {w : World} {D obj : Nat} {p : Pt} {l : List Lf} {sp : Option Addr} {G ga gb : Nat} {was now : List Pt} {s : Sh} {X : World} (h : WiS L w D obj p l sp G ga gb was now s X) (hn : NOK now) {i : Nat} (hi : i < 8) {q : Pt} (hq : q.OK) : WiS L w D obj p l sp G ga gb was (now.set i q) s (X.setCells gb (i * 41) (pcells q)) := by
  obtain ⟨h0, k1, k2, k3, ⟨L1, v1, h1, h2, h3, h4, h5⟩⟩ := h
  have hc := Chg.setsG (fun k => k = gb) rfl (pcells q) (i * 41) X
  have hz := setCells_size gb (pcells q) (i * 41) X
  have hs : ShAt (X.setCells gb (i * 41) (pcells q)) L1 D s v1 := h1.out hc (fun g e _ => .inl (by rw [e]; exact h5.2)) (fun _ _ => .inl rfl) (fun g hg => by rw [hz]; exact h1.lt g hg)
  have hm : Mv 5 L w L1 (X.setCells gb (i * 41) (pcells q)) := ⟨h2.chg.trans hc (fun g e => by right; have : g = gb := e; omega), h2.old, h2.new⟩
  have nG : ∀ g, g < gb ∨ g ≠ gb → ¬ g = gb := fun g hg e => by omega
  obtain ⟨⟨_, _, _, _, _, _⟩, j1, j2, j3, j4, j5⟩ := h0
  exact ⟨⟨⟨L1, v1, hs, hm, h3, fun a ha => ⟨by rw [hz]; exact (h4 a ha).1, (h4 a ha).2.1⟩⟩, j1.chg hc (by omega), j2.chg hc (by omega), j3.chg hc (by omega), j4.chg hc (fun a ha => (h4 a ha).2.2), j5⟩, k1.chg hc k3.2.2.1, blk_setE hn k2 hi (Nat.mul_comm i 41) hq, k3, ⟨L1, v1, hs, hm, h3, fun a ha => ⟨by rw [hz]; exact (h4 a ha).1, (h4 a ha).2⟩, h5⟩⟩
theorem sliceFromF (sp : Option Addr) (N cap n : Nat) (hn : n ≤ N) (hc : N ≤ cap) : ∃ sp2, (∀ W : World, (Instr.sliceAt 95 (.slice sp N cap) (some (.int .i64 (n : Int))) none none).run Tryz.prog W = .ok (.slice sp2 (N - n) (cap - n)) W) ∧ (∀ W (l : List Lf), l.length = N → SrcF W sp l → SrcF W sp2 (l.drop n)) ∧ ∀ a, sp2 = some a → ∃ a0, sp = some a0 ∧ a.block = a0.block := by
  refine ⟨if cap = n then sp else sp.map (·.add (n * 42)), fun W => ?_, fun W l hl h h0 => ?_, fun a ha => ?_⟩
  · rw [run_sliceAt_slice W 95 _ _ _ _ elemF, run_slice_l W 95 sp N cap elemF .i64 n (by omega) (by omega), elemF', sizeOfF]
    simp [Result.andThen, sliced]
  · rw [List.length_drop, hl] at h0
    obtain ⟨g, o, e, hg, hr⟩ := h (by omega)
    rw [if_neg (by omega)]
    refine ⟨g, o + n * 42, by rw [e]; simp only [Option.map_some, Addr.add_mid], hg, fun i x hx => ?_⟩
    rw [List.getElem?_drop] at hx
    have := hr (n + i) x hx
    rw [Nat.add_mul, ← Nat.add_assoc] at this
    exact this
  · split at ha
    · exact ⟨a, ha, rfl⟩
    · cases sp with
      | none => cases ha
      | some b => simp at ha; subst ha; exact ⟨b, rfl, by unfold Addr.add; split <;> rfl⟩
theorem SrcF.take {W : World} {sp : Option Addr} {l : List Lf} (h : SrcF W sp l) (n : Nat) : SrcF W sp (l.take n) := fun h0 => by
  obtain ⟨g, o, e, hg, hr⟩ := h (by rw [List.length_take] at h0; omega)
  refine ⟨g, o, e, hg, fun i x hx => ?_⟩
  rw [List.getElem?_take] at hx
  split at hx
  · exact hr i x hx
  · cases hx
theorem ex_rem8 {ρ : Operand → Value} {o : Oper} {x y : Operand} {w : World} {a : Nat} {t : TypeId} (ho : o.op = .binOp .rem 24 x y t) (hx : ρ x = .int .u32 (a : Int)) (hy : ρ y = .int .u32 8) : (execOp ρ o).run Tryz.prog w = .ok (.value (.int .u32 ((a % 8 : Nat) : Int))) w := by
  have e : (a : Int).tmod 8 = (a : Int) % 8 := Int.tmod_eq_emod_of_nonneg (by omega)
  unfold execOp
  simp only [ho]
  go_simp
theorem ex_iaN8 {ρ : Operand → Value} {o : Oper} {x y : Operand} {w : World} {g i : Nat} (hi : i < 8) (ho : o.op = .indexAddr 170 x y) (hx : ρ x = .pointer (some ⟨g, 0, none⟩)) (hy : ρ y = .int .u32 (i : Int)) : (execOp ρ o).run Tryz.prog w = .ok (.value (.pointer (some ⟨g, i * 41, none⟩))) w := by
  have h1 : (i : Int) < 8 := by omega
  have h0 : (0 : Int) ≤ (i : Int) := by omega
  unfold execOp
  simp only [ho]
  go_simp
section
variable {ops : Array Oper} {Q : Exit → Act → World → Prop} {S : World → Prop}
theorem wpG_mid {i : Nat} {r : Tr} {a : Act} {w : World} (o : Oper) (hi : ops.toList[i]? = some o) (hw : Region.wanted o (yielded ops a.tmps) = true) (ty : TypeId) (x y : Operand) (ho : o.op = .store ty x y) (b off : Nat) (cells : Array Value) (hx : a.eval x = .pointer (some ⟨b, off, none⟩)) (hy : a.eval y = .agg cells) (ht : w.there b off cells.size) (hs : (Tryz.prog.info? ty).map (·.size) = some cells.size) (h1 : cells.all (·.oneCell') = true)
    (S' : World → Prop) (hSS : ∀ w, S' w → S w) (hS : S' (w.setCells b off cells.toList)) (h : wpG Tryz.prog ops Q r S' (a.put o.dst undef) (w.setCells b off cells.toList)) : wpG Tryz.prog ops Q (.step i r) S a w := by
  refine wpG_bare o hi hw fun K hK => ?_
  exact wpList_store_mid rfl ty x y ho b off cells hx hy ht hs h1 (wpG_list_nil (hK _ _ S' hSS hS h))
end
theorem with0 : WithC 0 := by
  intro w L D obj s v m p hp hobj l hok sp cap hc hl hS hsp h hk hm
  have HPO := Lib.hid hp
  have HX : Hid (∀ z, z = (pcells zeroP).toArray → WbS L w D obj p l sp w.heap.size s (((w.alloc (.cells (mcells D obj).toArray 145)).alloc (.cells (pcells p).toArray 28)).alloc (.cells z 28))) := Lib.hid (fun z hz => by
    subst hz
    have hw1 : Below w.heap.size w (((w.alloc (.cells (mcells D obj).toArray 145)).alloc (.cells (pcells p).toArray 28)).alloc (.cells (pcells zeroP).toArray 28)) := (((Below.refl _ _).alloc (Nat.le_refl _) _).alloc (by simp) _).alloc (by simp; omega) _
    exact ⟨⟨L, v, h.below hw1, Mv.of_below hw1 h.lt, ⟨h.not (Nat.le_refl _), h.not (by omega), h.not (by omega)⟩, fun a ha => ⟨Nat.lt_of_lt_of_le (hsp a ha).1 hw1.size, (hsp a ha).2⟩⟩, ((Blk.new _ _ _).alloc _).alloc _, (Blk.new' _ _ _ _ _ (by simp) rfl).alloc _, Blk.new' _ _ _ _ _ (by simp) rfl, hS.grown hw1, Nat.le_refl _⟩)
  have HOK := Lib.hid hok
  obtain ⟨N, hN⟩ : ∃ N, l.length = N := ⟨_, rfl⟩
  have HN := Lib.hid hN; have HK := Lib.hid hk
  rw [hN] at hc hl ⊢
  have HC := Lib.hid hc; have HL := Lib.hid hl
  obtain ⟨r, hr⟩ : ∃ r, withP obj 0 s p l = r := ⟨_, rfl⟩
  have HR : Hid (r = if l = [] then ⟨p, 0, s⟩ else ⟨(l.getD 0 dl).2, 0, s⟩) := Lib.hid hr.symm
  rw [hr]
  generalize hPost : (fun e w' => e = Ending.returned (.tuple #[.agg (pcells r.p).toArray, .int .i64 (r.e : Int)]) ∧ ShPost 5 L w D r.s w' ∧ Lim (m + cW 0) r.s ∧ r.p.OK) = Post
  have HP : Hid (∀ w', ShPost 5 L w D r.s w' → Lim m r.s → r.p.OK → Post (.returned (.tuple #[.agg (pcells r.p).toArray, .int .i64 (r.e : Int)])) w') := Lib.hid fun w' h2 h3 h4 => by rw [← hPost]; exact ⟨rfl, h2, h3, h4⟩
  have HSZ := Lib.hid (size_pc hp)
  have HZP : Hid ((pcells zeroP).toArray.size = (pcells p).toArray.size) := Lib.hid (by rw [List.size_toArray, List.size_toArray, pcells_length hp, pcells_length zeroP_ok])
  clear hp hobj hok hc hl hS hsp h hk hm hN hr hPost
  go_enter Tryz.func73, Tryz.ntmps73
  go_upto_region 1 with fail
  refine (fun (k : ∀ W, WbS L w D obj p l sp w.heap.size s W → Code.wp _ _ _ _ W) => k _ (HX.out _ rfl)) ?_
  intro W hW
  obtain ⟨G, hG⟩ : ∃ g, w.heap.size = g := ⟨_, rfl⟩
  rw [hG] at hW ⊢
  have HX1 := Lib.hid hW
  have HRB := Lib.hid hW.res
  clear hW HX hG
  by_cases h0 : N = 0
  · subst h0
    have hl0 : l = [] := List.eq_nil_of_length_eq_zero HN.out
    obtain rfl : r = ⟨p, 0, s⟩ := by rw [HR.out, if_pos hl0]
    have HBE := Lib.hid (HX1.out.ends p)
    have HE := Lib.hid (HP.out _ HBE.out.1 HK.out HPO.out)
    clear hl0 HR HP
    rw [show ((0 : Nat) : Int) = (0 : Int) from rfl]
    go_wp2_with (first | (refine wpL_val rfl (ex_ldP HPO.out HX1.out.p rfl rfl) ?_) | (refine wpList_store_row rfl 28 (.tmp 8) (.tmp 19) rfl (G + 1 + 1) (pcells p).toArray rfl rfl 28 _ HRB.out HSZ.out HZP.out (one_pc p) ?_) | fail)
    refine bodyPost_ret (results_cs Tryz.results73 _ _ (G + 1 + 1) 28 _ rfl HBE.out.2 (size_pcl HPO.out)) rfl ?_
    exact HE.out
  · obtain ⟨x, hx⟩ : ∃ x, l[0]? = some x := ⟨_, List.getElem?_eq_getElem (by have := HN.out; omega)⟩
    obtain ⟨g, o', rfl, hg⟩ := HX1.out.src.form (by have := HN.out; omega)
    have hgd : l.getD 0 dl = x := by rw [List.getD_eq_getElem?_getD, hx]; rfl
    obtain rfl : r = ⟨x.2, 0, s⟩ := by rw [HR.out, if_neg (fun e => by rw [e] at hx; cases hx), hgd]
    have HXO : Hid (Lf.OK x) := Lib.hid (HOK.out x (List.mem_of_getElem? hx))
    have HRG : Hid (W.rangeAt g (o' + 1) (pcells x.2)) := Lib.hid (by
      have := rng_ptr (HX1.out.src.at hx)
      rw [Nat.zero_mul, Nat.add_zero] at this
      exact this)
    have HBE := Lib.hid (HX1.out.ends x.2)
    have HE := Lib.hid (HP.out _ HBE.out.1 HK.out HXO.out.2)
    have HS2 := Lib.hid (size_pc HXO.out.2)
    have HZ2 : Hid ((pcells zeroP).toArray.size = (pcells x.2).toArray.size) := Lib.hid (by rw [List.size_toArray, List.size_toArray, pcells_length HXO.out.2, pcells_length zeroP_ok])
    have hN0 : ((N : Int) == 0) = false := by simp; omega
    have hN1 : 0 < N := by omega
    have hN2 : (0 : Int) < (N : Int) := by omega
    have hN3 : ¬ N ≤ 0 := by omega
    clear hx hgd HR HP hg
    go_wp2_with (first | (refine wpL_val rfl (ex_ld (ty := 28) (cs := pcells x.2) rfl rfl HRG.out Tryz.underlying28 rfl (by rw [sizeP, pcells_length HXO.out.2])) ?_) | (refine wpList_store_row rfl 28 (.tmp 8) (.tmp 25) rfl (G + 1 + 1) (pcells x.2).toArray rfl rfl 28 _ HRB.out HS2.out HZ2.out (one_pc x.2) ?_) | fail)
    refine bodyPost_ret (results_cs Tryz.results73 _ _ (G + 1 + 1) 28 _ rfl HBE.out.2 (size_pcl HXO.out.2)) rfl ?_
    exact HE.out
end Go.Proofs.YtjgjohdeeeoeoaaGreatDoor
