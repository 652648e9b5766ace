/- A copy is looked at. -/
import Derived.Test.YtmgagalhpkieoaaGreatDoorM27
import Derived.Great.BuildSlice
namespace Go.Proofs.YtmgagalhpkieoaaGreatDoor
open Go.RowKit

attribute [local go_sem] Oper.semAt_some

structure GdS (w : World) (lab : Nat → Nat) (P : Pl) (x : Mi Dsk Sp) (p : Pt) (c : Cpy) (X : World) : Prop where
  bp : Blk X w.heap.size (pcells p) 58
  bc : Blk X (w.heap.size + 1) (plc c) 115
  mi : MiAt X lab P x
  bel : Below w.heap.size w X
theorem gdS_start {w : World} {lab : Nat → Nat} {P : Pl} {x : Mi Dsk Sp} (h : MiAt w lab P x) (p : Pt) (c : Cpy) : GdS w lab P x p c ((w.alloc (.cells (pcells p).toArray 58)).alloc (.cells (plc c).toArray 115)) := by
  have hb : Below w.heap.size w ((w.alloc (.cells (pcells p).toArray 58)).alloc (.cells (plc c).toArray 115)) := ((Below.refl _ _).alloc (Nat.le_refl _) _).alloc (by simp) _
  exact ⟨(Blk.new _ _ _).alloc _, Blk.new' _ _ _ _ _ (by simp) rfl, h.below hb, hb⟩
section
variable {w X Y : World} {lab : Nat → Nat} {P : Pl} {x : Mi Dsk Sp} {p : Pt} {c : Cpy}
theorem GdS.grown (h : GdS w lab P x p c X) (hb : Below X.heap.size X Y) : GdS w lab P x p c Y :=
  ⟨h.bp.below hb h.bp.lt, h.bc.below hb h.bc.lt, h.mi.below hb, h.bel.trans (hb.mono h.bel.size)⟩
theorem GdS.drew (h : GdS w lab P x p c X) : GdS w lab P x p c X.drew := h.grown (Below.refl _ _).drew
end
theorem toldB_src {w w2 : World} {v : Value} {b : d_Bs} (h : ToldB w w2 v (some b)) : ∃ g, v = .slice (some ⟨g, 0, none⟩) 512 512 ∧ b.length = 512 ∧ Blk w2 g (b.map V8) 5 ∧ w.heap.size ≤ g := h
def GoodPost (w : World) (t : Option Bs) (e : Ending) (w' : World) : Prop := ∃ v, e = .returned (.tuple #[v, .bool t.isSome]) ∧ ToldB w w' v t ∧ Below w.heap.size w w'
set_option maxRecDepth 100000 in
set_option maxHeartbeats 4000000 in
theorem good0_any (p : Pt) (hp : p.OK) (a : Nat) (ha : a < 65536) (w : World) (lab : Nat → Nat) (P : Pl) (x : Mi Dsk Sp) (n : Nat) (h : MiAt w lab P x) (hl : Lim x n) (hn : n < 900000) :
    Calls Tryz.prog 83 #[.pointer (some ⟨P.M, 0, none⟩), .agg (pcells p).toArray, .agg (plc (0, a)).toArray] w (GoodPost w (gd kinD x p (0, a))) := by
  have HP := Lib.hid hp; have HA := Lib.hid ha; have HL := Lib.hid hl; have HN := Lib.hid hn
  have HS := Lib.hid (gdS_start h p (0, a))
  have HZ : Hid ((Tryz.prog.info? 58).map (·.size) = some (pcells p).length) := Lib.hid (by rw [sizeP, pcells_length hp])
  have HB0 := Lib.hid (readE_some (x.d 0) x.p a)
  have HG0 : Hid (gd kinD x p (0, a) = match readB (x.d 0) x.p a with | some b => if fitsP p b then some b else none | none => none) := Lib.hid rfl
  obtain ⟨tg, htg⟩ : ∃ t, gd kinD x p (0, a) = t := ⟨_, rfl⟩
  rw [htg]
  rw [htg] at HG0
  clear hp ha hl hn h htg
  go_enter Tryz.func83, Tryz.ntmps83
  go_upto_region 1 with fail
  generalize ((w.alloc (.cells (pcells p).toArray 58)).alloc (.cells (plc (0, a)).toArray 115)) = W0 at HS ⊢
  have HW0 : Hid (w.heap.size ≤ W0.drew.heap.size) := Lib.hid HS.out.drew.bel.size
  refine gS (.take 0 (.take 1 (.take 2 (.take 3 (.take 4 (.take 5 (.take 6 (.take 7 (.take 8 (.step 9 (.take 10 (.take 11 (.take 12 (.take 13 (.take 14 (.nil)))))))))))))))) (GdS w lab P x p (0, a)) HS.out.drew ?_
  refine gT (.pointer (some ⟨P.M, 0, none⟩)) ?_; try simp only [pS]
  refine gT (.pointer (some ⟨w.heap.size + 1, 0, none⟩)) ?_; try simp only [pS]
  refine wpG_take _ (.int .i64 0) rfl (by rfl) (fun X hX => q_ldI rfl rfl (hX.bc.cell rfl)) ?_; try simp only [pS]
  refine wpG_take _ (.pointer (some ⟨P.M, 0, none⟩)) rfl (by rfl) (fun X hX => ex_nc rfl rfl) ?_; try simp only [pS]
  refine gT (.pointer (some ⟨P.M, 0, none⟩)) ?_; try simp only [pS]
  refine gT (.pointer (some ⟨P.M, 0, none⟩)) ?_; try simp only [pS]
  refine wpG_take _ (.pointer (some ⟨P.D 0, 0, none⟩)) rfl (by rfl) (fun X hX => q_ldD rfl rfl ((MiAt.cells hX.mi).1)) ?_; try simp only [pS]
  refine gT (.pointer (some ⟨w.heap.size + 1, 1, none⟩)) ?_; try simp only [pS]
  refine wpG_take _ (.int .u16 (a : Int)) rfl (by rfl) (fun X hX => q_ldU rfl rfl (hX.bc.cell rfl)) ?_; try simp only [pS]
  refine wpG_call _ rfl (by rfl) 109 #[.pointer (some ⟨P.D 0, 0, none⟩), .int .u16 (a : Int)] (fun _ => by go_simp) (fun u w' => ∃ v, u = .tuple #[v, .int .i64 (readE (x.d 0) x.p a)] ∧ ToldB W0.drew w' v (readB (x.d 0) x.p a)) ((read_any (P.D 0) P.Q _ (x.d 0) x.p a HA.out W0.drew (HS.out.drew.mi.dk 0 (by omega)) HS.out.drew.mi.pw (by have := HL.out.c 0 (by omega); have := HN.out; omega)).mono fun e w' ⟨v, e1, e2, e3⟩ => ⟨_, e1, HS.out.drew.grown e3, v, rfl, e2⟩) ?_
  rintro u W1 hs1 ⟨v1, rfl, ht1⟩
  refine ⟨_, fun _ h => h, hs1, ?_⟩; try simp only [pS]
  refine gT (.tuple #[v1, .int .i64 (readE (x.d 0) x.p a)]) ?_; try simp only [pS]
  refine gT (v1) ?_; try simp only [pS]
  refine gT (.int .i64 (readE (x.d 0) x.p a)) ?_; try simp only [pS]
  refine gT (v1) ?_; try simp only [pS]
  refine gT (.int .i64 (readE (x.d 0) x.p a)) ?_; try simp only [pS]
  refine wpG_nil ?_
  generalize readB (x.d 0) x.p a = rb at *
  generalize readE (x.d 0) x.p a = re at *
  have HS1 := Lib.hid hs1
  have hbs : Below w.heap.size w W1 := hs1.bel
  have HBS := Lib.hid hbs
  clear hs1 hbs HS
  cases rb with
  | none =>
    have hr : ¬ re = 0 := fun e => by have := HB0.out.1 e; simp at this
    have hg : tg = none := HG0.out
    subst hg
    have ht : v1 = .slice none 0 0 := ht1
    subst ht
    clear HG0 HB0 ht1
    go_wp2_with fail
    go_ret2
    exact ⟨_, rfl, rfl, HBS.out⟩
  | some b =>
    have hr : re = 0 := HB0.out.2 rfl
    subst hr
    have hg : tg = if fitsP p b then some b else none := HG0.out
    obtain ⟨g, rfl, hbl, hbk, hgs⟩ := toldB_src ht1
    have hgs2 : w.heap.size ≤ g := Nat.le_trans (HW0.out) hgs
    have HTG := Lib.hid hg
    have HBK := Lib.hid hbk; have HBL := Lib.hid hbl; have HGS := Lib.hid hgs2
    have HGP : Hid (Blk W1 w.heap.size (pcells p) 58) := Lib.hid HS1.out.bp
    clear ht1 hbk hbl hgs hgs2 HG0 HB0 hg
    have hf : Calls Tryz.prog 23 #[.agg (pcells p).toArray, .slice (some ⟨g, 0, none⟩) 512 512] W1 fun e w' => e = .returned (.bool (fitsP p b)) ∧ Below W1.heap.size W1 w' := by
      have := fits_any p HP.out b (some ⟨g, 0, none⟩) 512 W1 (by rw [HBL.out]; omega) (by rw [HBL.out]; omega) (by unfold maxLen; omega) (Blk.srcB HBK.out) HS1.out.mi.tab
      rw [HBL.out] at this
      exact this
    have HF := Lib.hid hf
    clear hf
    obtain ⟨m, hm⟩ : ∃ m, fitsP p b = m := ⟨_, rfl⟩
    have HM := Lib.hid hm
    clear hm
    cases m
    all_goals (
      go_wp2_with (first | (refine q_valG (by rfl) (ex_ld (ty := 58) (cs := pcells p) rfl rfl (rng_all HGP.out) Tryz.underlying58 rfl HZ.out) ?_) | (go_at_call 23; refine HF.out.mono ?_; rintro e w' ⟨rfl, hb⟩; rw [HM.out]) | fail)
      go_ret2)
    · obtain rfl : tg = none := by have h1 := HTG.out; rw [HM.out] at h1; exact h1
      exact ⟨_, rfl, rfl, HBS.out.trans (hb.mono HBS.out.size)⟩
    · obtain rfl : tg = some b := by have h1 := HTG.out; rw [HM.out] at h1; exact h1
      exact ⟨_, rfl, ⟨g, rfl, HBL.out, HBK.out.below hb HBK.out.lt, HGS.out⟩, HBS.out.trans (hb.mono HBS.out.size)⟩
set_option maxRecDepth 100000 in
set_option maxHeartbeats 4000000 in
theorem good1_any (p : Pt) (hp : p.OK) (a : Nat) (ha : a < 65536) (w : World) (lab : Nat → Nat) (P : Pl) (x : Mi Dsk Sp) (n : Nat) (h : MiAt w lab P x) (hl : Lim x n) (hn : n < 900000) :
    Calls Tryz.prog 83 #[.pointer (some ⟨P.M, 0, none⟩), .agg (pcells p).toArray, .agg (plc (1, a)).toArray] w (GoodPost w (gd kinD x p (1, a))) := by
  have HP := Lib.hid hp; have HA := Lib.hid ha; have HL := Lib.hid hl; have HN := Lib.hid hn
  have HS := Lib.hid (gdS_start h p (1, a))
  have HZ : Hid ((Tryz.prog.info? 58).map (·.size) = some (pcells p).length) := Lib.hid (by rw [sizeP, pcells_length hp])
  have HB0 := Lib.hid (readE_some (x.d 1) x.p a)
  have HG0 : Hid (gd kinD x p (1, a) = match readB (x.d 1) x.p a with | some b => if fitsP p b then some b else none | none => none) := Lib.hid rfl
  obtain ⟨tg, htg⟩ : ∃ t, gd kinD x p (1, a) = t := ⟨_, rfl⟩
  rw [htg]
  rw [htg] at HG0
  clear hp ha hl hn h htg
  go_enter Tryz.func83, Tryz.ntmps83
  go_upto_region 1 with fail
  generalize ((w.alloc (.cells (pcells p).toArray 58)).alloc (.cells (plc (1, a)).toArray 115)) = W0 at HS ⊢
  have HW0 : Hid (w.heap.size ≤ W0.drew.heap.size) := Lib.hid HS.out.drew.bel.size
  refine gS (.take 0 (.take 1 (.take 2 (.take 3 (.take 4 (.take 5 (.take 6 (.take 7 (.take 8 (.step 9 (.take 10 (.take 11 (.take 12 (.take 13 (.take 14 (.nil)))))))))))))))) (GdS w lab P x p (1, a)) HS.out.drew ?_
  refine gT (.pointer (some ⟨P.M, 0, none⟩)) ?_; try simp only [pS]
  refine gT (.pointer (some ⟨w.heap.size + 1, 0, none⟩)) ?_; try simp only [pS]
  refine wpG_take _ (.int .i64 1) rfl (by rfl) (fun X hX => q_ldI rfl rfl (hX.bc.cell rfl)) ?_; try simp only [pS]
  refine wpG_take _ (.pointer (some ⟨P.M, 0, none⟩)) rfl (by rfl) (fun X hX => ex_nc rfl rfl) ?_; try simp only [pS]
  refine gT (.pointer (some ⟨P.M, 0, none⟩)) ?_; try simp only [pS]
  refine gT (.pointer (some ⟨P.M, 1, none⟩)) ?_; try simp only [pS]
  refine wpG_take _ (.pointer (some ⟨P.D 1, 0, none⟩)) rfl (by rfl) (fun X hX => q_ldD rfl rfl ((MiAt.cells hX.mi).2.1)) ?_; try simp only [pS]
  refine gT (.pointer (some ⟨w.heap.size + 1, 1, none⟩)) ?_; try simp only [pS]
  refine wpG_take _ (.int .u16 (a : Int)) rfl (by rfl) (fun X hX => q_ldU rfl rfl (hX.bc.cell rfl)) ?_; try simp only [pS]
  refine wpG_call _ rfl (by rfl) 109 #[.pointer (some ⟨P.D 1, 0, none⟩), .int .u16 (a : Int)] (fun _ => by go_simp) (fun u w' => ∃ v, u = .tuple #[v, .int .i64 (readE (x.d 1) x.p a)] ∧ ToldB W0.drew w' v (readB (x.d 1) x.p a)) ((read_any (P.D 1) P.Q _ (x.d 1) x.p a HA.out W0.drew (HS.out.drew.mi.dk 1 (by omega)) HS.out.drew.mi.pw (by have := HL.out.c 1 (by omega); have := HN.out; omega)).mono fun e w' ⟨v, e1, e2, e3⟩ => ⟨_, e1, HS.out.drew.grown e3, v, rfl, e2⟩) ?_
  rintro u W1 hs1 ⟨v1, rfl, ht1⟩
  refine ⟨_, fun _ h => h, hs1, ?_⟩; try simp only [pS]
  refine gT (.tuple #[v1, .int .i64 (readE (x.d 1) x.p a)]) ?_; try simp only [pS]
  refine gT (v1) ?_; try simp only [pS]
  refine gT (.int .i64 (readE (x.d 1) x.p a)) ?_; try simp only [pS]
  refine gT (v1) ?_; try simp only [pS]
  refine gT (.int .i64 (readE (x.d 1) x.p a)) ?_; try simp only [pS]
  refine wpG_nil ?_
  generalize readB (x.d 1) x.p a = rb at *
  generalize readE (x.d 1) x.p a = re at *
  have HS1 := Lib.hid hs1
  have hbs : Below w.heap.size w W1 := hs1.bel
  have HBS := Lib.hid hbs
  clear hs1 hbs HS
  cases rb with
  | none =>
    have hr : ¬ re = 0 := fun e => by have := HB0.out.1 e; simp at this
    have hg : tg = none := HG0.out
    subst hg
    have ht : v1 = .slice none 0 0 := ht1
    subst ht
    clear HG0 HB0 ht1
    go_wp2_with fail
    go_ret2
    exact ⟨_, rfl, rfl, HBS.out⟩
  | some b =>
    have hr : re = 0 := HB0.out.2 rfl
    subst hr
    have hg : tg = if fitsP p b then some b else none := HG0.out
    obtain ⟨g, rfl, hbl, hbk, hgs⟩ := toldB_src ht1
    have hgs2 : w.heap.size ≤ g := Nat.le_trans (HW0.out) hgs
    have HTG := Lib.hid hg
    have HBK := Lib.hid hbk; have HBL := Lib.hid hbl; have HGS := Lib.hid hgs2
    have HGP : Hid (Blk W1 w.heap.size (pcells p) 58) := Lib.hid HS1.out.bp
    clear ht1 hbk hbl hgs hgs2 HG0 HB0 hg
    have hf : Calls Tryz.prog 23 #[.agg (pcells p).toArray, .slice (some ⟨g, 0, none⟩) 512 512] W1 fun e w' => e = .returned (.bool (fitsP p b)) ∧ Below W1.heap.size W1 w' := by
      have := fits_any p HP.out b (some ⟨g, 0, none⟩) 512 W1 (by rw [HBL.out]; omega) (by rw [HBL.out]; omega) (by unfold maxLen; omega) (Blk.srcB HBK.out) HS1.out.mi.tab
      rw [HBL.out] at this
      exact this
    have HF := Lib.hid hf
    clear hf
    obtain ⟨m, hm⟩ : ∃ m, fitsP p b = m := ⟨_, rfl⟩
    have HM := Lib.hid hm
    clear hm
    cases m
    all_goals (
      go_wp2_with (first | (refine q_valG (by rfl) (ex_ld (ty := 58) (cs := pcells p) rfl rfl (rng_all HGP.out) Tryz.underlying58 rfl HZ.out) ?_) | (go_at_call 23; refine HF.out.mono ?_; rintro e w' ⟨rfl, hb⟩; rw [HM.out]) | fail)
      go_ret2)
    · obtain rfl : tg = none := by have h1 := HTG.out; rw [HM.out] at h1; exact h1
      exact ⟨_, rfl, rfl, HBS.out.trans (hb.mono HBS.out.size)⟩
    · obtain rfl : tg = some b := by have h1 := HTG.out; rw [HM.out] at h1; exact h1
      exact ⟨_, rfl, ⟨g, rfl, HBL.out, HBK.out.below hb HBK.out.lt, HGS.out⟩, HBS.out.trans (hb.mono HBS.out.size)⟩
theorem good_any (p : Pt) (hp : p.OK) (c : Cpy) (hc : c.1 < 2) (ha : c.2 < 65536) (w : World) (lab : Nat → Nat) (P : Pl) (x : Mi Dsk Sp) (n : Nat) (h : MiAt w lab P x) (hl : Lim x n) (hn : n < 900000) :
    Calls Tryz.prog 83 #[.pointer (some ⟨P.M, 0, none⟩), .agg (pcells p).toArray, .agg (plc c).toArray] w (GoodPost w (gd kinD x p c)) := by
  obtain ⟨d, a⟩ := c
  obtain rfl | rfl : d = 0 ∨ d = 1 := by simp only at hc; omega
  · exact good0_any p hp a ha w lab P x n h hl hn
  · exact good1_any p hp a ha w lab P x n h hl hn
end Go.Proofs.YtmgagalhpkieoaaGreatDoor
/- Whether a pointer is among some; the moves, told anew. -/
namespace Go.Proofs.YtmgagalhpkieoaaGreatDoor
open Go.RowKit

attribute [local go_sem] Oper.semAt_some

def SrcM (w : World) (v : Value) (l : List Pt) : Prop :=
  ∃ sp cap, v = .slice sp l.length cap ∧ l.length ≤ cap ∧ cap ≤ maxLen ∧ (sp = none → cap = 0) ∧ (0 < l.length → ∃ g, sp = some ⟨g, 0, none⟩ ∧ g < w.heap.size ∧ ∀ i q, l[i]? = some q → w.rangeAt g (i * 41) (pcells q))
theorem rng_below {w w' : World} {g o : Nat} {cs : List Value} (h : w.rangeAt g o cs) (hb : Below w.heap.size w w') (hg : g < w.heap.size) : w'.rangeAt g o cs := fun j v hv => by
  have := h j v hv
  rw [hb.cell (p := ⟨g, o + j, none⟩) hg]
  exact this
theorem SrcM.grown {w w' : World} {v : Value} {l : List Pt} (h : SrcM w v l) (hb : Below w.heap.size w w') : SrcM w' v l := by
  obtain ⟨sp, cap, e, h1, h2, h4, h3⟩ := h
  refine ⟨sp, cap, e, h1, h2, h4, fun h0 => ?_⟩
  obtain ⟨g, e1, hg, hr⟩ := h3 h0
  exact ⟨g, e1, Nat.lt_of_lt_of_le hg hb.size, fun i q hq => rng_below (hr i q hq) hb hg⟩
theorem OwnM.src {w : World} {B : Nat} {v : Value} {l : List Pt} (h : OwnM w B v l) (hok : ∀ q ∈ l, q.OK) : SrcM w v l := by
  rcases h.2 with ⟨rfl, hn⟩ | ⟨g, cap, cur, rfl, hb, hg, hc, hm, hs, ht⟩
  · exact ⟨none, 0, by rw [hn], by omega, by unfold maxLen; omega, fun _ => rfl, fun h0 => by omega⟩
  · have hlt : g < w.heap.size := (Array.getElem?_eq_some_iff.1 hg).1
    refine ⟨some ⟨g, 0, none⟩, cap, rfl, hc, hm, (fun e => by cases e), fun _ => ⟨g, rfl, hlt, fun i q hq j u hj => ?_⟩⟩
    have hj41 : j < 41 := by have := (List.getElem?_eq_some_iff.1 hj).1; rw [pcells_length (hok q (List.mem_of_getElem? hq))] at this; exact this
    have h1 := prows_at l i q hok hq j hj41
    rw [hj, ← ht, List.getElem?_take] at h1
    rw [if_pos (by have := (List.getElem?_eq_some_iff.1 hq).1; omega)] at h1
    have hblk : Blk w g cur.toList 58 := by unfold Blk; simpa using hg
    exact hblk.cell h1
theorem any_take {l : List Pt} {p q : Pt} {k : Nat} (h : l[k]? = some q) (h0 : (l.take k).any (fun q => eqP p q) = false) (h1 : eqP p q = false) : (l.take (k + 1)).any (fun q => eqP p q) = false := by
  rw [take_one h, List.any_append, h0]
  simp [h1]
theorem any_at {l : List Pt} {p q : Pt} {k : Nat} (h : l[k]? = some q) (h1 : eqP p q = true) : l.any (fun q => eqP p q) = true := List.any_eq_true.2 ⟨q, List.mem_of_getElem? h, h1⟩
def IdxS (w : World) (p : Pt) (v : Value) (l : List Pt) (X : World) : Prop := Blk X w.heap.size (pcells p) 58 ∧ SrcM X v l ∧ Below w.heap.size w X
theorem IdxS.grown {w X Y : World} {p : Pt} {v : Value} {l : List Pt} (h : IdxS w p v l X) (hb : Below X.heap.size X Y) : IdxS w p v l Y := ⟨h.1.below hb h.1.lt, h.2.1.grown hb, h.2.2.trans (hb.mono h.2.2.size)⟩
def IdxR (l : List Pt) (p : Pt) (r : Int) : Prop := (r = -1 ∧ l.any (fun q => eqP p q) = false) ∨ (0 ≤ r ∧ l.any (fun q => eqP p q) = true)
theorem q_iaP {ρ : Operand → Value} {o : Oper} {x y : Operand} {g n cap k : Nat} {w : World} (ho : o.op = .indexAddr 43 x y) (hx : ρ x = .slice (some ⟨g, 0, none⟩) n cap) (hy : ρ y = .int .i64 (k : Int)) (hk : k < n ∧ n ≤ cap) :
    (execOp ρ o).run Tryz.prog w = .ok (.value (.pointer (some ⟨g, k * 41, none⟩))) w := by
  have h1 : ¬ n ≤ k := by omega
  unfold execOp
  simp only [ho]
  go_simp
set_option maxRecDepth 100000 in
set_option maxHeartbeats 4000000 in
theorem index_any (l : List Pt) (v : Value) (p : Pt) (hp : p.OK) (hok : ∀ q ∈ l, q.OK) (hl : l.length < 1000000) (w : World) (h : SrcM w v l) : Calls Tryz.prog 124 #[v, .agg (pcells p).toArray] w fun e w' => ∃ r, e = .returned (.int .i64 r) ∧ IdxR l p r ∧ Below w.heap.size w w' := by
  have HP := Lib.hid hp; have HOK := Lib.hid hok; have HL := Lib.hid hl; have HLP := Lib.hid (pcells_length hp)
  have hb0 : Below w.heap.size w (w.alloc (.cells (pcells p).toArray 58)) := (Below.refl _ _).alloc (Nat.le_refl _) _
  have HS : Hid (IdxS w p v l (w.alloc (.cells (pcells p).toArray 58))) := Lib.hid ⟨Blk.new _ _ _, h.grown hb0, hb0⟩
  obtain ⟨sp, cap, rfl, hc, hm, -, hr⟩ := h
  obtain ⟨N, hN⟩ : ∃ N, l.length = N := ⟨_, rfl⟩
  rw [hN] at HS hc hr ⊢
  have HN := Lib.hid hN; have HC := Lib.hid hc; have HR := Lib.hid hr; have HN2 : Hid (N < 1000000) := Lib.hid (by omega)
  clear hp hok hl hb0 hc hm hr hN
  go_enter Tryz.func124, Tryz.ntmps124
  go_wp2_with fail
  generalize (w.alloc (.cells (pcells p).toArray 58)) = W0 at HS ⊢
  go_loopw [8] (fun i wr => ∃ k : Nat, k ≤ N ∧ i = .int .i64 (k : Int) ∧ (l.take k).any (fun q => eqP p q) = false ∧ IdxS w p (.slice sp N cap) l wr) (fun i _ => N - (intOf i).toNat)
  case atStart => exact ⟨0, by omega, rfl, by simp, HS.out⟩
  case round =>
    clear HS
    obtain ⟨k, hk, rfl, hno, hs⟩ := hrel
    have HNO := Lib.hid hno; have HS := Lib.hid hs
    clear hno hs
    have wk1 := IntWalk.i64_in ((k : Int) + 1) (by have := HN2.out; omega)
    by_cases hlt : k < N
    · obtain ⟨q, hq⟩ : ∃ q, l[k]? = some q := ⟨_, List.getElem?_eq_getElem (by have := HN.out; omega)⟩
      obtain ⟨g, rfl, hg, -⟩ := HR.out (by omega)
      have HQ : Hid q.OK := Lib.hid (HOK.out q (List.mem_of_getElem? hq))
      have HLQ := Lib.hid (pcells_length HQ.out)
      have HRG : Hid (∀ X, IdxS w p (.slice (some ⟨g, 0, none⟩) N cap) l X → X.rangeAt g (k * 41) (pcells q)) := Lib.hid (fun X hX => by
        obtain ⟨sp', cap', e, _, _, _, h3⟩ := hX.2.1
        obtain ⟨g', e2, _, h4⟩ := h3 (by have := HN.out; omega)
        injection e with e3 _ _
        rw [e2] at e3
        injection e3 with e4
        injection e4 with e5 _ _
        rw [e5]
        exact h4 k q hq)
      have HKN : Hid (k < N ∧ N ≤ cap) := Lib.hid ⟨hlt, HC.out⟩
      have HQK := Lib.hid hq
      clear hg hq
      go_upto_region 4 with fail
      refine gS (.take 0 (.take 1 (.take 2 (.take 3 (.take 4 (.take 5 (.nil))))))) (IdxS w p (.slice (some ⟨g, 0, none⟩) N cap) l) (HS.out.grown (Below.refl _ _).drew) ?_
      refine wpG_take _ (.agg (pcells p).toArray) rfl (by rfl) (fun X hX => ex_ld (ty := 58) (cs := pcells p) rfl rfl (rng_all hX.1) Tryz.underlying58 rfl (by rw [sizeP, HLP.out])) ?_; try simp only [pS]
      refine gT (.slice (some ⟨g, 0, none⟩) N cap) ?_; try simp only [pS]
      refine gT (.int .i64 (k : Int)) ?_; try simp only [pS]
      refine wpG_take _ (.pointer (some ⟨g, k * 41, none⟩)) rfl (by rfl) (fun X hX => q_iaP rfl rfl rfl HKN.out) ?_; try simp only [pS]
      refine wpG_take _ (.agg (pcells q).toArray) rfl (by rfl) (fun X hX => ex_ld (ty := 58) (cs := pcells q) rfl rfl (HRG.out X hX) Tryz.underlying58 rfl (by rw [sizeP, HLQ.out])) ?_; try simp only [pS]
      refine wpG_take _ (.bool (eqP p q)) rfl (by rfl) (fun X hX => ex_eqP rfl rfl rfl HP.out HQ.out) ?_; try simp only [pS]
      refine wpG_nil ?_
      cases hcase : eqP p q with
      | false =>
        have HN3 : Hid ((l.take (k + 1)).any (fun q => eqP p q) = false) := Lib.hid (any_take HQK.out HNO.out hcase)
        go_wp2_with fail
        go_roundw
        case rel => exact ⟨k + 1, by omega, by go_num, HN3.out, HS.out.grown (Below.refl _ _).drew⟩
        case measure => simp [intOf]; omega
      | true =>
        have HN3 : Hid (l.any (fun q => eqP p q) = true) := Lib.hid (any_at HQK.out hcase)
        go_wp2_with fail
        go_ret
        exact ⟨_, rfl, .inr ⟨by omega, HN3.out⟩, (HS.out.grown (Below.refl _ _).drew).2.2⟩
    · obtain rfl : k = N := by omega
      have HN3 : Hid (l.any (fun q => eqP p q) = false) := Lib.hid (by have := HNO.out; rw [List.take_of_length_le (by have := HN.out; omega)] at this; exact this)
      go_wp2_with fail
      go_ret
      exact ⟨_, rfl, .inl ⟨rfl, HN3.out⟩, HS.out.2.2⟩
set_option maxRecDepth 100000 in
set_option maxHeartbeats 4000000 in
theorem contains_any (l : List Pt) (v : Value) (p : Pt) (hp : p.OK) (hok : ∀ q ∈ l, q.OK) (hl : l.length < 1000000) (w : World) (h : SrcM w v l) : Calls Tryz.prog 111 #[v, .agg (pcells p).toArray] w fun e w' => e = .returned (.bool (l.any (fun q => eqP p q))) ∧ Below w.heap.size w w' := by
  have hb0 : Below w.heap.size w (w.alloc (.cells (pcells p).toArray 58)) := (Below.refl _ _).alloc (Nat.le_refl _) _
  have HS : Hid (IdxS w p v l (w.alloc (.cells (pcells p).toArray 58))) := Lib.hid ⟨Blk.new _ _ _, h.grown hb0, hb0⟩
  have HZ : Hid ((Tryz.prog.info? 58).map (·.size) = some (pcells p).toArray.size) := Lib.hid (size_pc hp)
  obtain ⟨m, hm⟩ : ∃ m, l.any (fun q => eqP p q) = m := ⟨_, rfl⟩
  rw [hm]
  have HM := Lib.hid hm; have HP := Lib.hid hp; have HOK := Lib.hid hok; have HL := Lib.hid hl
  obtain ⟨sp, cap, rfl, -⟩ := h
  clear hb0 hm hp hok hl
  go_enter Tryz.func111, Tryz.ntmps111
  go_upto_region 1 with fail
  generalize (w.alloc (.cells (pcells p).toArray 58)) = W0 at HS ⊢
  have HG : Hid (W0.heap[w.heap.size]? = some (.cells (pcells p).toArray 58 (0, 0))) := Lib.hid HS.out.1
  go_wp2_with (first | (refine wpList_load_row rfl 58 (.tmp 3) rfl w.heap.size rfl 58 _ _ _ HG.out Tryz.underlying58 rfl HZ.out ?_) | fail)
  refine (index_any l _ p HP.out HOK.out HL.out W0 HS.out.2.1).mono ?_
  rintro e w' ⟨r, rfl, hr, hb⟩
  have HB : Hid (Below w.heap.size w w') := Lib.hid (HS.out.2.2.trans (hb.mono HS.out.2.2.size))
  rcases hr with ⟨rfl, hr⟩ | ⟨h0, hr⟩
  · obtain rfl : m = false := by rw [← HM.out]; exact hr
    clear hb hr
    go_wp2_with fail
    go_ret
    exact ⟨rfl, HB.out⟩
  · obtain rfl : m = true := by rw [← HM.out]; exact hr
    clear hb hr
    go_wp2_with fail
    go_ret
    exact ⟨rfl, HB.out⟩
end Go.Proofs.YtmgagalhpkieoaaGreatDoor
/- A slice literal of one struct, whatever its cells. -/
namespace Go.Proofs.YtmgagalhpkieoaaGreatDoor
open Go.RowKit

theorem fold_splice (off : Nat) (vs : List Value) (cs : Array Value) (h : off + vs.length ≤ cs.size) : (vs.zipIdx 0).foldl (fun cs (x : Value × Nat) => cs.setIfInBounds (off + x.2) x.1) cs = (splice cs.toList off vs).toArray := by
  obtain ⟨h1, h2⟩ := Go.Great.foldl_set off vs 0 cs
  apply Array.ext_getElem?
  intro k
  rw [h2 k]
  simp only [List.getElem?_toArray, splice, Nat.add_zero]
  by_cases hk : k < off
  · rw [if_neg (by omega), List.getElem?_append_left (by simp; omega), List.getElem?_take, if_pos hk]
    simp
  · rw [List.getElem?_append_right (by simp; omega)]
    have e : (cs.toList.take off).length = off := by simp; omega
    rw [e]
    by_cases hk2 : k < off + vs.length
    · rw [if_pos (by omega), List.getElem?_append_left (by omega)]
    · rw [if_neg (by omega), List.getElem?_append_right (by omega), List.getElem?_drop]
      rw [show off + vs.length + (k - off - vs.length) = k by omega]
      simp
theorem fill_whole {pl : Nat → Option (Nat × Nat)} {cells : Array Value} {size : Nat} {v : Value} (hp : pl 0 = some (0, size)) (hv : v.cells.size = size) (hle : cells.size = size) :
    Instr.fill pl cells [(0, v)] = some v.cells := by
  have hf := fold_splice 0 v.cells.toList cells (by simp; omega)
  unfold Instr.fill
  simp only [hp]
  rw [if_neg (by simp [hv]; omega)]
  unfold Instr.fill
  congr 1
  have e : splice cells.toList 0 v.cells.toList = v.cells.toList := by
    unfold splice
    rw [List.drop_of_length_le (by simp; omega)]
    simp
  rw [e] at hf
  rw [← Array.foldl_toList]
  simpa using hf
theorem q_one (p : Pt) {ρ : Operand → Value} {o : Oper} {x : Operand} {w : World} (ho : o.op = .buildSlice 43 1 #[(0, x)]) (hx : ρ x = .agg (pcells p).toArray) (hp : p.OK) :
    (execOp ρ o).run Tryz.prog w = .ok (.value (.slice (some ⟨w.heap.size, 0, none⟩) 1 1)) (w.alloc (.cells (pcells p).toArray 58)) := by
  obtain ⟨i, z, hi, hz, hzs, his, _⟩ := info_partsPt
  have hr := run_buildSlice (P := Tryz.prog) w 43 58 1 #[(0, .agg (pcells p).toArray)] (pcells p).toArray i z Tryz.underlying43 hi hz (by rw [his]; omega) (by rw [his]; omega)
    (fill_whole (size := 41) (by simp [his]) (by simp [Value.cells, pcells_length hp]) (by simp [his]))
  unfold execOp
  simp only [ho]
  rw [show (Array.map (fun x : Nat × Operand => (x.1, ρ x.2)) #[(0, x)]) = #[(0, .agg (pcells p).toArray)] by simp [hx]]
  simp only [Sem.run_bind, hr, Result.andThen_ok]
  rfl
end Go.Proofs.YtmgagalhpkieoaaGreatDoor
