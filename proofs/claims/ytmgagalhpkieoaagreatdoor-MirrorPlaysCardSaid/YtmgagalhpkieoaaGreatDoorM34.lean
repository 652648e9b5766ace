/- A drawn region within a round of a range over a function: walked by a schedule, as everywhere. -/
import Derived.Test.YtmgagalhpkieoaaGreatDoorM33
namespace Go.Proofs.YtmgagalhpkieoaaGreatDoor
open Go.RowKit

theorem upon_inRound {P : Program} {o : Oper} {a : Act} {K : Act → World → Prop} {Q : Exit → Act → World → Prop} (l n : Nat) : ∀ r : Result Next, o.upon P a K Q r → o.uponIn (Fence.wide.inRound l) n P a K Q r
  | .ok (.value _) _, h => h
  | .ok .skip _, h => h
  | .ok (.defer _) _, h => h
  | .ok (.enter _ _) _, h => ⟨fun hd => (by cases hd), CallsIn.inRound l (callsIn_wide.2 h)⟩
  | .ok (.row _ _) _, h => ⟨fun hd => (by cases hd), fun c cs _ => let ⟨v, w', r, s⟩ := h c cs; ⟨v, w', r, stepsIn_wide.2 s⟩⟩
  | .halt (.panic _) _, h => h
theorem wpOp_inRound {P : Program} {ops : Array Oper} {i : Nat} {a : Act} {w : World} {K : Act → World → Prop} {Q : Exit → Act → World → Prop} (l n : Nat) (hd : ∀ o : Oper, ops[i]? = some o → ∀ c, o.op ≠ .defer c) (hQ : ¬ LetsOut Q) (h : wpOp P ops Q i K a w) : wpOpIn (Fence.wide.inRound l) n P ops Q i K a w := by
  unfold wpOp at h
  unfold wpOpIn
  cases ho : ops[i]? with
  | none => rw [ho] at h; exact h
  | some o =>
    rw [ho] at h
    simp only at h ⊢
    by_cases hw : Region.wanted o (yielded ops a.tmps) = true
    · rw [if_pos hw] at h ⊢
      rcases h with h | h
      · refine ⟨fun _ _ => trivial, ?_⟩
        rw [show (Fence.wide.inRound l).round = some l from rfl, Oper.semAt_some l a.eval o (hd o ho)]
        exact upon_inRound l n _ h
      · exact absurd h.2 hQ
    · rw [if_neg hw] at h ⊢
      exact ⟨fun _ _ => trivial, h⟩
theorem wpAny_inRound {P : Program} {md : Region.Mode} {ops : Array Oper} {Q : Exit → Act → World → Prop} (l n : Nat) (hd : ∀ (i : Nat) (o : Oper), ops[i]? = some o → ∀ c, o.op ≠ .defer c) (hQ : ¬ LetsOut Q) : ∀ (fuel : Nat) (listed : Array Bool) (a : Act) (w : World), wpAny P md ops Q fuel listed a w → wpAnyIn (Fence.wide.inRound l) n P md ops Q fuel listed a w
  | 0, _, _, _, h => h
  | fuel + 1, listed, _, _, h => ⟨h.1, fun i hi => wpOpIn_mono (fun a' w' h' => wpAny_inRound l n hd hQ fuel _ a' w' h') (wpOp_inRound l n (hd i) hQ (h.2 i hi))⟩
def noDefer (ops : Array Oper) : Bool := ops.all fun (o : Oper) => match o.op with | .defer _ => false | _ => true
theorem noDefer_at {ops : Array Oper} (h : noDefer ops = true) : ∀ (i : Nat) (o : Oper), ops[i]? = some o → ∀ c, o.op ≠ .defer c := fun i o ho c e => by
  unfold noDefer at h
  rw [Array.all_eq_true'] at h
  have := h o (Array.mem_of_getElem? ho)
  rw [e] at this
  cases this
theorem wpIn_region_sched {P : Program} {ops : Array Oper} {Q : Exit → Act → World → Prop} {n r : Nat} {id : Nat} {a : Act} {w : World} (l : Tr) (hm : P.follows .mixedOrders = true) (hB : schedB ops l = true) (hd : noDefer ops = true) (hQ : ∀ d v c a w, Q (.panic c) (a.put d v) w → Q (.panic c) a w) (hL : ¬ LetsOut Q)
    (S : World → Prop) (hS : S w.drew) (h : wpG P ops Q l S a w.drew) : (Code.region id ops true).wpIn (Fence.wide.inRound r) n P Q a w := by
  simp only [schedB, Bool.and_eq_true, beq_iff_eq] at hB
  refine wpIn_region_any hm ?_
  have := wpAnyH_of_sched (P := P) hB.1 hQ l (Array.replicate ops.size false) S a w.drew hB.2.2 hS h
  rw [hB.2.1] at this
  exact wpAny_inRound r n (noDefer_at hd) hL _ _ _ _ (wpAny_of_held _ _ _ _ this)
end Go.Proofs.YtmgagalhpkieoaaGreatDoor
/- Write. -/
namespace Go.Proofs.YtmgagalhpkieoaaGreatDoor
open Go.RowKit Go.Shelf

attribute [local go_sem] Oper.semAt_some

theorem SrcA.stp {w w' : World} {lab lab' : Nat → Nat} {sp : Option Addr} {b : Bs} (h : SrcA w sp b) (hl : ∀ a, sp = some a → lab a.block = 0) (hs : Stp w lab w' lab') : SrcA w' sp b ∧ ∀ a, 0 < b.length → sp = some a → lab' a.block = 0 := by
  refine ⟨fun h0 => ?_, fun a h0 e => ?_⟩
  · obtain ⟨g, o, rfl, hg, hc⟩ := h h0
    have hz := hl _ rfl
    refine ⟨g, o, rfl, Nat.lt_of_lt_of_le hg hs.chg.size, fun j hj => ?_⟩
    rw [World.cell?_of_block (w := w) (a := ⟨g, o + j, none⟩) (hs.chg.block g hg (fun hf => hf.1 hz))]
    exact hc j hj
  · obtain ⟨g, o, rfl, hg, hc⟩ := h h0
    cases e
    exact hs.lab0 hg (hl _ rfl)
def wrF (b : Bs) (r : Int × Mi Dsk Sp) (c : Cpy) : Int × Mi Dsk Sp := (if (wrote1 kinD r.2 b c).1 = 0 then 0 else r.1, (wrote1 kinD r.2 b c).2)
def wrs (x : Mi Dsk Sp) (b : Bs) (l : List Cpy) : Int × Mi Dsk Sp := l.foldl (wrF b) (21, x)
theorem wrs_snoc (x : Mi Dsk Sp) (b : Bs) (l : List Cpy) (c : Cpy) : wrs x b (l ++ [c]) = wrF b (wrs x b l) c := by unfold wrs; rw [List.foldl_append]; rfl
theorem wrs_lim {x : Mi Dsk Sp} {n : Nat} (h : Lim x n) (b : Bs) (l : List Cpy) : Lim (wrs x b l).2 (n + l.length) := Lim.wrotes b l 21 x n h
structure StpX (g8 : Nat) (w : World) (lab : Nat → Nat) (w' : World) (lab' : Nat → Nat) : Prop where
  chg : Chg (fun b => Foot8 lab b ∨ b = g8) w w'
  eq : ∀ b, b < w.heap.size → lab' b = lab b ∨ lab' b = 0
section
variable {g8 : Nat} {a b c : World} {la lb lc : Nat → Nat}
theorem StpX.refl : StpX g8 a la a la := ⟨Chg.refl _ _, fun _ _ => .inl rfl⟩
theorem StpX.trans (h : StpX g8 a la b lb) (k : Stp b lb c lc) : StpX g8 a la c lc :=
  ⟨h.chg.trans k.chg (fun i hi => by
    by_cases hs : i < a.heap.size
    · left; left
      unfold Foot8 at *
      rcases h.eq i hs with e | e
      · rw [← e]; exact hi
      · exact absurd e hi.1
    · right; omega), fun i hi => by
    rcases k.eq i (Nat.lt_of_lt_of_le hi h.chg.size) with e | e
    · rw [e]; exact h.eq i hi
    · exact .inr e⟩
theorem StpX.cell (h : StpX g8 a la b lb) (j : Nat) (v : Value) : StpX g8 a la (b.setCell ⟨g8, j, none⟩ v) lb := ⟨h.chg.setCell (.inl (.inr rfl)) j v, h.eq⟩
theorem StpX.lab0 (h : StpX g8 a la b lb) {g : Nat} (hs : g < a.heap.size) (hg : la g = 0) : lb g = 0 := by
  rcases h.eq g hs with e | e
  · rw [e]; exact hg
  · exact e
end
structure WrS (g0 : Nat) (sp : Option Addr) (cap : Nat) (P : Pl) (X : World) : Prop where
  c3 : X.cell? ⟨g0, 0, none⟩ = some (.pointer (some ⟨P.M, 0, none⟩))
  c5 : X.cell? ⟨g0 + 1 + 1, 0, none⟩ = some (.slice sp 512 cap)
  m0 : X.cell? ⟨P.M, 0, none⟩ = some (.pointer (some ⟨P.D 0, 0, none⟩))
  m1 : X.cell? ⟨P.M, 1, none⟩ = some (.pointer (some ⟨P.D 1, 0, none⟩))
structure WrI (g0 g8 gs : Nat) (W4 : World) (lab : Nat → Nat) (sp : Option Addr) (cap : Nat) (P : Pl) (x : Mi Dsk Sp) (b : Bs) (pre : List Cp) (W : World) : Prop where
  ok : ∃ lab', MiTi W4.heap.size W lab' P (wrs x b (cpv pre)).2 ∧ StpX g8 W4 lab W lab'
  bm : Blk W g0 [.pointer (some ⟨P.M, 0, none⟩)] 31
  bs : Blk W (g0 + 1 + 1) [.slice sp 512 cap] 59
  be : Blk W g8 [.int .i64 (wrs x b (cpv pre)).1] 67
  src : SrcA W sp b
def WrX (_ : Code) (_ : List Cp) (_ : World) : Prop := False
theorem SrcA.kept {A W : World} {row : Option Nat} {sp : Option Addr} {b : Bs} (h : SrcA A sp b) (hg : A.grownBy W row) (hr : ∀ r, row = some r → ∃ o : Obj, A.heap[r]? = some o ∧ o.isCells = false) : SrcA W sp b := fun h0 => by
  obtain ⟨g, o, rfl, hgs, hc⟩ := h h0
  refine ⟨g, o, rfl, Nat.lt_of_lt_of_le hgs hg.size, fun j hj => cell_kept (hc j hj) hg hr⟩
theorem wrI_own (g0 g8 gs : Nat) (W4 : World) (lab : Nat → Nat) (sp : Option Addr) (cap : Nat) (P : Pl) (x : Mi Dsk Sp) (b : Bs) : OwnFrom W4.heap.size (WrI g0 g8 gs W4 lab sp cap P x b) := fun s A B row h hg hr => by
  have hr' : ∀ r, row = some r → ∃ o : Obj, A.heap[r]? = some o ∧ o.isCells = false := fun r e => (hr r e).2
  obtain ⟨lab', h1, h2⟩ := h.ok
  exact ⟨⟨lab', h1.grown hg hr, h2.chg.grown hg (fun k hk => .inr (hr k hk).1), h2.eq⟩, h.bm.kept hg hr', h.bs.kept hg hr', h.be.kept hg hr', h.src.kept hg hr'⟩
theorem wrX_own (B : Nat) (c : Code) : OwnFrom B (WrX c) := fun _ _ _ _ h _ _ => h.elim
set_option maxRecDepth 100000 in
set_option maxHeartbeats 16000000 in
theorem write_any8 (p : Pt) (hp : p.OK) (b : Bs) (sp : Option Addr) (k cap : Nat) (w : World) (lab : Nat → Nat) (P : Pl) (x : Mi Dsk Sp) (n : Nat) (h : MiAt w lab P x) (hl : Lim x n) (hn : n < 600000) (hbk : b.length = k) (hk : k ≤ 1000) (hkc : k ≤ cap) (hcm : cap ≤ maxLen) (hS : SrcA w sp b) (hsp : ∀ a, sp = some a → lab a.block = 0) :
    Calls Tryz.prog 12 #[.pointer (some ⟨P.M, 0, none⟩), .agg (pcells p).toArray, .slice sp k cap] w fun e w' => e = .returned (.int .i64 (writeR kinD x p b).1) ∧ MiPost w lab P (writeR kinD x p b).2 w' := by
  have HP := Lib.hid hp; have HL := Lib.hid hl; have HN := Lib.hid hn
  obtain ⟨W0, hW0⟩ : ∃ W, W = ((w.alloc (.cells #[.pointer (some ⟨P.M, 0, none⟩)] 31)).alloc (.cells (pcells p).toArray 58)).alloc (.cells #[.slice sp k cap] 59) := ⟨_, rfl⟩
  have hb0 : Below w.heap.size w W0 := by rw [hW0]; exact (((Below.refl _ _).alloc (Nat.le_refl _) _).alloc (by simp) _).alloc (by simp; omega) _
  have hbm : Blk W0 w.heap.size [.pointer (some ⟨P.M, 0, none⟩)] 31 := by rw [hW0]; exact ((Blk.new' _ _ [_] _ _ rfl rfl).alloc _).alloc _
  have hbp : Blk W0 (w.heap.size + 1) (pcells p) 58 := by rw [hW0]; exact (Blk.new' _ _ (pcells p) _ _ (by simp) rfl).alloc _
  have hbs : Blk W0 (w.heap.size + 1 + 1) [.slice sp k cap] 59 := by rw [hW0]; exact Blk.new' _ _ [_] _ _ (by simp) rfl
  have HW0 := Lib.hid hW0; have HB0 := Lib.hid hb0; have HBM := Lib.hid hbm; have HBP := Lib.hid hbp; have HBS := Lib.hid hbs
  have HZ : Hid ((Tryz.prog.info? 58).map (·.size) = some (pcells p).length) := Lib.hid (by rw [sizeP, pcells_length hp])
  have HM0 := Lib.hid (h.below hb0)
  have HST0 : Hid (Stp w lab W0 lab) := Lib.hid (Stp.below hb0)
  have HS0 := Lib.hid (hS.grown hb0)
  have HSP := Lib.hid hsp
  have HK := Lib.hid (And.intro hbk (And.intro hk (And.intro hkc hcm)))
  have HLT : Hid (∀ j, j < 3 → lab (w.heap.size + j) = 0) := Lib.hid (fun j _ => h.lab0 (by omega))
  have HMW := Lib.hid h
  cases hmay : mayP p with
  | false =>
    have hE : writeR kinD x p b = (1, x) := by unfold writeR; rw [if_neg (by rw [hmay]; simp)]
    have hR : refuseE p = 1 := by unfold refuseE; rw [if_neg (by rw [hmay]; simp)]
    have HR := Lib.hid hR
    rw [hE]
    have c0 := hbm.cell (j := 0) rfl
    clear hp hl hn h hW0 hb0 hbm hbp hbs hS hsp hbk hk hkc hcm hmay hE hR
    go_enter Tryz.func12, Tryz.ntmps12
    go_upto_region 1 with fail
    rw [← HW0.out]
    go_wp2_with (first | (refine q_valG (by rfl) (ex_ld (ty := 58) (cs := pcells p) rfl rfl (rng_all HBP.out) Tryz.underlying58 rfl HZ.out) ?_) | (go_at_call 42; refine (refuse_any p HP.out P.M _ HM0.out.rt).mono ?_; rintro e w' ⟨rfl, hb⟩; rw [HR.out]) | fail)
    go_ret
    exact ⟨rfl, HST0.out.post (MiPost.of_below HM0.out hb)⟩
  | true =>
    have hR : refuseE p = 0 := by unfold refuseE; rw [if_pos hmay]
    have HR := Lib.hid hR
    have HF : Hid (∀ W, Below W0.heap.size W0 W → Calls Tryz.prog 23 #[.agg (pcells p).toArray, .slice sp k cap] W fun e w' => e = .returned (.bool (fitsP p b)) ∧ Below W.heap.size W w') := Lib.hid (fun W hb => by
      have := fits_any p HP.out b sp cap W (by omega) (by omega) hcm (HS0.out.grown hb) (HM0.out.below hb).tab
      rw [hbk] at this
      exact this)
    cases hfit : fitsP p b with
    | false =>
      have hE : writeR kinD x p b = (1, x) := by unfold writeR; rw [if_pos hmay, if_neg (by rw [hfit]; simp)]
      have HFIT := Lib.hid hfit
      rw [hE]
      have c0 := hbm.cell (j := 0) rfl
      clear hp hl hn h hW0 hb0 hbm hbp hbs hS hsp hbk hk hkc hcm hmay hE hR hfit
      go_enter Tryz.func12, Tryz.ntmps12
      go_upto_region 1 with fail
      rw [← HW0.out]
      go_wp2_with (first | (refine q_valG (by rfl) (ex_ld (ty := 58) (cs := pcells p) rfl rfl (rng_all HBP.out) Tryz.underlying58 rfl HZ.out) ?_) | fail)
      refine (refuse_any p HP.out P.M _ HM0.out.rt).mono ?_
      rintro e W1 ⟨rfl, hb1⟩
      rw [HR.out]
      have HB1 := Lib.hid hb1
      have HBP1 := Lib.hid (HBP.out.below hb1 HBP.out.lt)
      have c5 := (HBS.out.below hb1 HBS.out.lt).cell (j := 0) rfl
      clear hb1 c0
      go_wp2_with (first | (refine q_valG (by rfl) (ex_ld (ty := 58) (cs := pcells p) rfl rfl (rng_all HBP1.out) Tryz.underlying58 rfl HZ.out) ?_) | fail)
      refine (HF.out W1 HB1.out).mono ?_
      rintro e W2 ⟨rfl, hb2⟩
      rw [HFIT.out]
      go_wp2_with fail
      go_ret
      exact ⟨rfl, HST0.out.post (MiPost.of_below HM0.out (HB1.out.trans (hb2.mono HB1.out.size)))⟩
    | true =>
      have hE : writeR kinD x p b = wrs x b (copiesP p) := by unfold writeR; rw [if_pos hmay, if_pos hfit]; rfl
      have hb5 : b.length = 512 := fits_len hfit
      obtain rfl : k = 512 := by omega
      have HFIT := Lib.hid hfit; have HBL := Lib.hid hb5
      obtain ⟨eE, heE⟩ : ∃ z, (wrs x b (copiesP p)).1 = z := ⟨_, rfl⟩
      have HEE := Lib.hid heE
      rw [hE, heE]
      have c0 := hbm.cell (j := 0) rfl
      clear hp hl hn h hW0 hb0 hbm hbp hbs hS hsp hbk hk hkc hcm hmay hE hR hfit hb5 heE
      refine callsIn_wide.1 (callsIn_of_wp_marks (F := Fence.wide) (n := 5) Tryz.func12 rfl trivial ?_ rfl)
      refine wpIn_wide.2 ?_
      simp only [Tryz.ntmps12, List.size_toArray, List.length_cons, List.length_nil, Nat.reduceAdd, Nat.reduceSub, Array.replicate_succ, Array.replicate_zero, List.push_toArray, List.append_toArray, List.nil_append, List.cons_append]
      go_upto_region 1 with fail
      rw [← HW0.out]
      go_wp2_with (first | (refine q_valG (by rfl) (ex_ld (ty := 58) (cs := pcells p) rfl rfl (rng_all HBP.out) Tryz.underlying58 rfl HZ.out) ?_) | fail)
      refine (refuse_any p HP.out P.M _ HM0.out.rt).mono ?_
      rintro e W1 ⟨rfl, hb1⟩
      rw [HR.out]
      have HB1 := Lib.hid hb1
      have HBP1 := Lib.hid (HBP.out.below hb1 HBP.out.lt)
      have c5 := (HBS.out.below hb1 HBS.out.lt).cell (j := 0) rfl
      clear hb1 c0
      go_wp2_with (first | (refine q_valG (by rfl) (ex_ld (ty := 58) (cs := pcells p) rfl rfl (rng_all HBP1.out) Tryz.underlying58 rfl HZ.out) ?_) | fail)
      refine (HF.out W1 HB1.out).mono ?_
      rintro e W2 ⟨rfl, hb2⟩
      rw [HFIT.out]
      have HB2 : Hid (Below W0.heap.size W0 W2) := Lib.hid (HB1.out.trans (hb2.mono HB1.out.size))
      clear hb2 c5 HBP1 HB1
      go_upto_region 7 with fail
      obtain ⟨W3, hW3⟩ : ∃ W3, W3 = W2.alloc (.cells #[.int .i64 21] 67) := ⟨_, rfl⟩
      rw [← hW3]
      have hb3 : Below W2.heap.size W2 W3 := by rw [hW3]; exact (Below.refl _ _).alloc (Nat.le_refl _) _
      have hbe : Blk W3 W2.heap.size [.int .i64 21] 67 := by rw [hW3]; exact Blk.new _ [_] _
      have hb4 : Below W3.heap.size W3 (W3.alloc (.cells (pcells p).toArray 58)) := (Below.refl _ _).alloc (Nat.le_refl _) _
      have hB5 : Blk (W3.alloc (.cells (pcells p).toArray 58)) W3.heap.size (pcells p) 58 := Blk.new _ _ _
      have hb04 : Below W0.heap.size W0 (W3.alloc (.cells (pcells p).toArray 58)) := (HB2.out.trans (hb3.mono HB2.out.size)).trans (hb4.mono (Nat.le_trans HB2.out.size hb3.size))
      obtain ⟨labT, hti, hstT⟩ := (HM0.out.below hb04).tidy
      have hst4 : Stp W0 lab (W3.alloc (.cells (pcells p).toArray 58)) labT := (Stp.below hb04).trans hstT
      have HST4 : Hid (Stp w lab (W3.alloc (.cells (pcells p).toArray 58)) labT) := Lib.hid (HST0.out.trans hst4)
      have HI0 : Hid (WrI w.heap.size W2.heap.size 0 (W3.alloc (.cells (pcells p).toArray 58)) labT sp cap P x b [] (W3.alloc (.cells (pcells p).toArray 58))) := Lib.hid ⟨⟨labT, hti, StpX.refl⟩, HBM.out.below hb04 HBM.out.lt, HBS.out.below hb04 HBS.out.lt, hbe.below hb4 hbe.lt, HS0.out.grown hb04⟩
      have HZL : Hid (labT w.heap.size = 0 ∧ labT (w.heap.size + 1 + 1) = 0 ∧ labT W2.heap.size = 0 ∧ ∀ a, sp = some a → labT a.block = 0) := Lib.hid ⟨hst4.lab0 HBM.out.lt (HMW.out.lab0 (by omega)), hst4.lab0 HBS.out.lt (HMW.out.lab0 (by omega)), hstT.lab0 (hbe.below hb4 hbe.lt).lt (HMW.out.lab0 (by have := HB0.out.size; have := HB2.out.size; omega)), fun a e => by
        obtain ⟨g, o, e2, hg, _⟩ := HS0.out (by rw [HBL.out]; omega)
        rw [e2] at e; cases e
        exact hst4.lab0 hg (HSP.out _ e2)⟩
      have HWS : Hid (w.heap.size + 3 ≤ W2.heap.size) := Lib.hid (by have h1 := HBS.out.lt; have h2 := HB2.out.size; omega)
      have HB5 := Lib.hid hB5; have HTI := Lib.hid hti
      have HG3 : Hid (Blk W3 (w.heap.size + 1) (pcells p) 58) := Lib.hid ((HBP.out.below HB2.out HBP.out.lt).below hb3 (HBP.out.below HB2.out HBP.out.lt).lt)
      clear hW3 hb3 hbe hb4 hB5 hb04 hti hstT hst4
      go_wp2_with (first | (refine q_valG (by rfl) (ex_ld (ty := 58) (cs := pcells p) rfl rfl (rng_all HG3.out) Tryz.underlying58 rfl HZ.out) ?_) | (go_at_call 44; refine (copies_any p W3).mono ?_; rintro e w' ⟨rfl, rfl⟩) | fail)
      refine wpIn_wide.1 (wpIn_rangeFunc_ownG (n := 5) (w := W3.alloc (.cells (pcells p).toArray 58)) rfl (by omega) (gf := 86) (lb := #[.pointer (some ⟨W3.heap.size, 0, none⟩)]) rfl trivial (enters_of Tryz.func86 (by kernel_rfl) rfl)
        (copies_stops Fence.wide 4 trivial rfl (by omega) W3.heap.size p HP.out _ HB5.out) (fun _ _ => trivial) (fun _ _ _ _ _ _ _ _ => trivial) (Below.refl _ _) (fun _ => rfl)
        (WrI w.heap.size W2.heap.size 0 (W3.alloc (.cells (pcells p).toArray 58)) labT sp cap P x b) WrX (wrI_own _ _ _ _ _ _ _ _ _ _) (wrX_own _) HI0.out
        (fun x => { tmps := #[.pointer (some ⟨P.M, 0, none⟩), .agg (pcells p).toArray, .slice sp 512 cap, .pointer (some ⟨w.heap.size, 0, none⟩), .pointer (some ⟨w.heap.size + 1, 0, none⟩), .pointer (some ⟨w.heap.size + 1 + 1, 0, none⟩), .int .i64 0, .int .i64 0, .pointer (some ⟨W2.heap.size, 0, none⟩), .int .i64 (x.1.1 : Int), .int .u16 (x.1.2 : Int), .pointer (some ⟨P.M, 0, none⟩), .agg (pcells p).toArray, .int .i64 0, .int .i64 0, .bool false, undef, .agg (pcells p).toArray, .slice sp 512 cap, .bool true, .bool false, .agg (pcells p).toArray, .func (.func 86) #[] #[.pointer (some ⟨W3.heap.size, 0, none⟩)], .int .i64 (x.1.1 : Int), .int .u16 (x.1.2 : Int), undef, undef, undef, undef, undef, undef, undef, undef, undef, undef, undef], defers := [] }) ?assign ?body ?done ?stop)
      case assign =>
        intro l y W K hK
        unfold encC
        gi_wp2
        exact hK
      case body =>
        rintro l pre ⟨⟨d, a⟩, hd, ha0, hal⟩ W hI hpre
        simp only at hd ha0 hal
        have HI := Lib.hid hI
        have c3 := hI.bm.cell (j := 0) rfl
        have c5 := hI.bs.cell (j := 0) rfl
        clear hI
        obtain rfl | rfl : d = 0 ∨ d = 1 := by omega
        · skip
          obtain ⟨labW, hti, hst⟩ := HI.out.ok
          obtain ⟨A0, hA1, hA2⟩ := hti.ti
          have HTW := Lib.hid hti; have HSW := Lib.hid hst
          have hzw : labW w.heap.size = 0 ∧ labW (w.heap.size + 1 + 1) = 0 ∧ labW W2.heap.size = 0 ∧ ∀ a, sp = some a → labW a.block = 0 := ⟨hst.lab0 HI0.out.bm.lt HZL.out.1, hst.lab0 HI0.out.bs.lt HZL.out.2.1, hst.lab0 HI0.out.be.lt HZL.out.2.2.1, fun a e => by
            obtain ⟨g, o, e2, hg, _⟩ := HI0.out.src (by rw [HBL.out]; omega)
            rw [e2] at e; cases e
            exact hst.lab0 hg (HZL.out.2.2.2 _ e2)⟩
          have HZW := Lib.hid hzw
          have hA1' : ∀ k, k < 2 → A0 k < (W3.alloc (.cells (pcells p).toArray 58)).heap.size ∧ DkAtM W.drew (P.D k) P.Q (A0 k) (fun b => labW b = k + 1) ((wrs x b (cpv pre)).2.d k) := fun k hk => ⟨(hA1 k hk).1, (hA1 k hk).2.chg (Chg.of_below (F := fun _ => False) (Below.refl _ _).drew) (fun _ _ h => h)⟩
          have HA1 := Lib.hid hA1'
          have HA2 : Hid (∀ b, labW b ≠ 0 → (∃ k, k < 2 ∧ b = A0 k) ∨ IsC W.drew b) := Lib.hid hA2
          obtain ⟨R, hR⟩ : ∃ R, wrote ((wrs x b (cpv pre)).2.d 0) (wrs x b (cpv pre)).2.p a b = R := ⟨_, rfl⟩
          obtain ⟨r, s', p'⟩ := R
          have hwr := d_write_anyC (P.D 0) P.Q (A0 0) _ ((wrs x b (cpv pre)).2.d 0) (wrs x b (cpv pre)).2.p a b sp 512 cap hal HBL.out W.drew HI.out.src.drew (hA1' 0 (by omega)).2 (hti.at'.drew.pw) (by
            have h1 := (wrs_lim HL.out b (cpv pre)).c 0 (by omega)
            have h2 := HN.out
            simp at h1
            omega)
          rw [hR] at hwr
          have HWR := Lib.hid hwr
          have HXN : Hid (wrs x b (cpv (pre ++ [(⟨(0, a), hd, ha0, hal⟩ : Cp)])) = (if r = 0 then 0 else (wrs x b (cpv pre)).1, { (wrs x b (cpv pre)).2 with d := upk (wrs x b (cpv pre)).2.d 0 s', p := p' })) := Lib.hid (by
            have e : cpv (pre ++ [(⟨(0, a), hd, ha0, hal⟩ : Cp)]) = cpv pre ++ [(0, a)] := by simp
            rw [e, wrs_snoc]
            unfold wrF wrote1
            show (if (wrote ((wrs x b (cpv pre)).2.d 0) (wrs x b (cpv pre)).2.p a b).1 = 0 then (0 : Int) else _, ({ (wrs x b (cpv pre)).2 with d := upk (wrs x b (cpv pre)).2.d 0 (wrote ((wrs x b (cpv pre)).2.d 0) (wrs x b (cpv pre)).2.p a b).2.1, p := (wrote ((wrs x b (cpv pre)).2.d 0) (wrs x b (cpv pre)).2.p a b).2.2 } : Mi Dsk Sp)) = _
            rw [hR])
          have m0 := hti.at'.cells.1
          have m1 := hti.at'.cells.2.1
          have HST : Hid (∀ w', DkAtM w' (P.D 0) P.Q (A0 0) (ExtC (fun b => labW b = 0 + 1) W.drew w') s' → PwAt w' P.Q p' → Chg (fun b => labW b = 0 + 1 ∨ b = P.Q) W.drew w' →
              KeepsFrom (W3.alloc (.cells (pcells p).toArray 58)).heap.size W w' ∧ ∃ lab', MiTi (W3.alloc (.cells (pcells p).toArray 58)).heap.size w' lab' P { (wrs x b (cpv pre)).2 with d := upk (wrs x b (cpv pre)).2.d 0 s', p := p' } ∧ StpX W2.heap.size (W3.alloc (.cells (pcells p).toArray 58)) labT w' lab' ∧ lab' W2.heap.size = 0 ∧
                Blk w' w.heap.size [.pointer (some ⟨P.M, 0, none⟩)] 31 ∧ Blk w' (w.heap.size + 1 + 1) [.slice sp 512 cap] 59 ∧ Blk w' W2.heap.size [.int .i64 (wrs x b (cpv pre)).1] 67 ∧ SrcA w' sp b) := Lib.hid (fun w' h1 h2 h3 => by
            obtain ⟨lab', ht', hs', hk'⟩ := MiTi.wrote (HTW.out.at'.drew) HA1.out HA2.out (k := 0) (by omega) h1 h2 h3
            refine ⟨(keepsFrom_chg (F := fun _ => False) (Chg.of_below (Below.refl _ _).drew) (fun _ h => h.elim)).trans hk', lab', ht', (HSW.out.trans (Stp.below (Below.refl _ _).drew)).trans hs', hs'.lab0 HI.out.be.lt HZW.out.2.2.1, hs'.blk HI.out.bm.drew HZW.out.1, hs'.blk HI.out.bs.drew HZW.out.2.1, hs'.blk HI.out.be.drew HZW.out.2.2.1, (HI.out.src.drew.stp HZW.out.2.2.2 hs').1⟩)
          clear hti hst hA1 hA2 hA1' hwr hzw hR
          have hmix : Tryz.prog.follows .mixedOrders = true := by kernel_rfl
          dsimp only
          gi_wp2_with fail
          refine wpIn_region_sched (.take 0 (.take 1 (.take 2 (.take 3 (.take 4 (.take 5 (.take 6 (.take 7 (.step 8 (.take 9 (.nil))))))))))) (by kernel_rfl) (by kernel_rfl) (by kernel_rfl) (fun d _ _ _ _ h => by cases d <;> exact h) (fun ⟨_, _, h⟩ => h) (WrS w.heap.size sp cap P) (show WrS w.heap.size sp cap P W.drew from ⟨HI.out.bm.drew.cell rfl, HI.out.bs.drew.cell rfl, m0, m1⟩) ?_
          refine wpG_take _ (.pointer (some ⟨P.M, 0, none⟩)) rfl (by rfl) (fun X hX => q_ldM rfl rfl (hX.c3)) ?_; try simp only [pS]
          refine gT (.int .i64 0) ?_; try simp only [pS]
          refine wpG_take _ (.pointer (some ⟨P.M, 0, none⟩)) rfl (by rfl) (fun X hX => ex_nc rfl rfl) ?_; try simp only [pS]
          refine gT (.pointer (some ⟨P.M, 0, none⟩)) ?_; try simp only [pS]
          refine gT (.pointer (some ⟨P.M, 0, none⟩)) ?_; try simp only [pS]
          refine wpG_take _ (.pointer (some ⟨P.D 0, 0, none⟩)) rfl (by rfl) (fun X hX => q_ldD rfl rfl (hX.m0)) ?_; try simp only [pS]
          refine gT (.int .u16 (a : Int)) ?_; try simp only [pS]
          refine wpG_take _ (.slice sp 512 cap) rfl (by rfl) (fun X hX => q_ldB rfl rfl (hX.c5)) ?_; try simp only [pS]
          refine wpG_call _ rfl (by rfl) 49 #[.pointer (some ⟨P.D 0, 0, none⟩), .int .u16 (a : Int), .slice sp 512 cap] (fun _ => by go_simp) (fun u w' => u = .int .i64 r ∧ DkAtM w' (P.D 0) P.Q (A0 0) (ExtC (fun b => labW b = 0 + 1) W.drew w') s' ∧ PwAt w' P.Q p' ∧ Chg (fun b => labW b = 0 + 1 ∨ b = P.Q) W.drew w') (HWR.out.mono fun e w' hh => by
            obtain ⟨e1, h1, h2, h3⟩ := hh
            obtain ⟨-, lab', ht', -, -, hbm', hbs', -, -⟩ := HST.out w' h1 h2 h3
            exact ⟨_, e1, ⟨hbm'.cell rfl, hbs'.cell rfl, ht'.at'.cells.1, ht'.at'.cells.2.1⟩, rfl, h1, h2, h3⟩) ?_
          rintro u w' hs1 ⟨rfl, h1, h2, h3⟩
          refine ⟨_, fun _ h => h, hs1, ?_⟩; try simp only [pS]
          refine wpG_take _ (.bool (decide (r = 0))) rfl (by rfl) (fun X hX => ex_eqi Tryz.underlying67 rfl rfl rfl) ?_; try simp only [pS]
          refine wpG_nil ?_
          have HKK := Lib.hid (And.intro h1 (And.intro h2 h3))
          obtain ⟨hkf, lab', ht', hs', hl', hbm', hbs', hbe', hsrc'⟩ := HST.out w' h1 h2 h3
          have ce := hbe'.cell (j := 0) rfl
          have fe := hbe'.free 0
          have HT' := Lib.hid ht'; have HS' := Lib.hid hs'; have HL' := Lib.hid hl'; have HBM' := Lib.hid hbm'; have HBS' := Lib.hid hbs'; have HBE' := Lib.hid hbe'; have HSR' := Lib.hid hsrc'; have HKF := Lib.hid hkf
          clear h1 h2 h3 hkf ht' hs' hl' hbm' hbs' hbe' hsrc' hs1
          by_cases hr0 : r = 0
          · subst hr0
            gi_wp2_with fail
            have hc8 : Chg (fun k => k = W2.heap.size) w' (w'.setCell ⟨W2.heap.size, 0, none⟩ (.int .i64 0)) := chg1 _ _ _ _
            have hkf2 := HKF.out.trans (keepsFrom_chg hc8 (fun k e => by subst e; exact HBE'.out.isC))
            refine ⟨by first | exact hkf2 | (simpa using hkf2), trivial, ?_⟩
            refine ⟨⟨lab', ?_, HS'.out.cell 0 _⟩, HBM'.out.chg hc8 (by have := HWS.out; omega), HBS'.out.chg hc8 (by have := HWS.out; omega), ?_, HSR'.out.chg hc8 (fun g e => ⟨_, _, by subst e; exact HBE'.out, by simp⟩)⟩
            · rw [HXN.out]
              exact HT'.out.out hc8 (fun k e => by subst e; exact HL'.out)
            · rw [HXN.out]
              exact HBE'.out.set 0 _
          · have hr1 : ¬ (r : Int) = 0 := hr0
            gi_wp2_with fail
            refine ⟨by first | exact HKF.out | (simpa using HKF.out), trivial, ⟨lab', ?_, HS'.out⟩, HBM'.out, HBS'.out, ?_, HSR'.out⟩
            · rw [HXN.out]
              exact HT'.out
            · rw [HXN.out, if_neg hr0]
              exact HBE'.out
        · skip
          obtain ⟨labW, hti, hst⟩ := HI.out.ok
          obtain ⟨A0, hA1, hA2⟩ := hti.ti
          have HTW := Lib.hid hti; have HSW := Lib.hid hst
          have hzw : labW w.heap.size = 0 ∧ labW (w.heap.size + 1 + 1) = 0 ∧ labW W2.heap.size = 0 ∧ ∀ a, sp = some a → labW a.block = 0 := ⟨hst.lab0 HI0.out.bm.lt HZL.out.1, hst.lab0 HI0.out.bs.lt HZL.out.2.1, hst.lab0 HI0.out.be.lt HZL.out.2.2.1, fun a e => by
            obtain ⟨g, o, e2, hg, _⟩ := HI0.out.src (by rw [HBL.out]; omega)
            rw [e2] at e; cases e
            exact hst.lab0 hg (HZL.out.2.2.2 _ e2)⟩
          have HZW := Lib.hid hzw
          have hA1' : ∀ k, k < 2 → A0 k < (W3.alloc (.cells (pcells p).toArray 58)).heap.size ∧ DkAtM W.drew (P.D k) P.Q (A0 k) (fun b => labW b = k + 1) ((wrs x b (cpv pre)).2.d k) := fun k hk => ⟨(hA1 k hk).1, (hA1 k hk).2.chg (Chg.of_below (F := fun _ => False) (Below.refl _ _).drew) (fun _ _ h => h)⟩
          have HA1 := Lib.hid hA1'
          have HA2 : Hid (∀ b, labW b ≠ 0 → (∃ k, k < 2 ∧ b = A0 k) ∨ IsC W.drew b) := Lib.hid hA2
          obtain ⟨R, hR⟩ : ∃ R, wrote ((wrs x b (cpv pre)).2.d 1) (wrs x b (cpv pre)).2.p a b = R := ⟨_, rfl⟩
          obtain ⟨r, s', p'⟩ := R
          have hwr := d_write_anyC (P.D 1) P.Q (A0 1) _ ((wrs x b (cpv pre)).2.d 1) (wrs x b (cpv pre)).2.p a b sp 512 cap hal HBL.out W.drew HI.out.src.drew (hA1' 1 (by omega)).2 (hti.at'.drew.pw) (by
            have h1 := (wrs_lim HL.out b (cpv pre)).c 1 (by omega)
            have h2 := HN.out
            simp at h1
            omega)
          rw [hR] at hwr
          have HWR := Lib.hid hwr
          have HXN : Hid (wrs x b (cpv (pre ++ [(⟨(1, a), hd, ha0, hal⟩ : Cp)])) = (if r = 0 then 0 else (wrs x b (cpv pre)).1, { (wrs x b (cpv pre)).2 with d := upk (wrs x b (cpv pre)).2.d 1 s', p := p' })) := Lib.hid (by
            have e : cpv (pre ++ [(⟨(1, a), hd, ha0, hal⟩ : Cp)]) = cpv pre ++ [(1, a)] := by simp
            rw [e, wrs_snoc]
            unfold wrF wrote1
            show (if (wrote ((wrs x b (cpv pre)).2.d 1) (wrs x b (cpv pre)).2.p a b).1 = 0 then (0 : Int) else _, ({ (wrs x b (cpv pre)).2 with d := upk (wrs x b (cpv pre)).2.d 1 (wrote ((wrs x b (cpv pre)).2.d 1) (wrs x b (cpv pre)).2.p a b).2.1, p := (wrote ((wrs x b (cpv pre)).2.d 1) (wrs x b (cpv pre)).2.p a b).2.2 } : Mi Dsk Sp)) = _
            rw [hR])
          have m0 := hti.at'.cells.1
          have m1 := hti.at'.cells.2.1
          have HST : Hid (∀ w', DkAtM w' (P.D 1) P.Q (A0 1) (ExtC (fun b => labW b = 1 + 1) W.drew w') s' → PwAt w' P.Q p' → Chg (fun b => labW b = 1 + 1 ∨ b = P.Q) W.drew w' →
              KeepsFrom (W3.alloc (.cells (pcells p).toArray 58)).heap.size W w' ∧ ∃ lab', MiTi (W3.alloc (.cells (pcells p).toArray 58)).heap.size w' lab' P { (wrs x b (cpv pre)).2 with d := upk (wrs x b (cpv pre)).2.d 1 s', p := p' } ∧ StpX W2.heap.size (W3.alloc (.cells (pcells p).toArray 58)) labT w' lab' ∧ lab' W2.heap.size = 0 ∧
                Blk w' w.heap.size [.pointer (some ⟨P.M, 0, none⟩)] 31 ∧ Blk w' (w.heap.size + 1 + 1) [.slice sp 512 cap] 59 ∧ Blk w' W2.heap.size [.int .i64 (wrs x b (cpv pre)).1] 67 ∧ SrcA w' sp b) := Lib.hid (fun w' h1 h2 h3 => by
            obtain ⟨lab', ht', hs', hk'⟩ := MiTi.wrote (HTW.out.at'.drew) HA1.out HA2.out (k := 1) (by omega) h1 h2 h3
            refine ⟨(keepsFrom_chg (F := fun _ => False) (Chg.of_below (Below.refl _ _).drew) (fun _ h => h.elim)).trans hk', lab', ht', (HSW.out.trans (Stp.below (Below.refl _ _).drew)).trans hs', hs'.lab0 HI.out.be.lt HZW.out.2.2.1, hs'.blk HI.out.bm.drew HZW.out.1, hs'.blk HI.out.bs.drew HZW.out.2.1, hs'.blk HI.out.be.drew HZW.out.2.2.1, (HI.out.src.drew.stp HZW.out.2.2.2 hs').1⟩)
          clear hti hst hA1 hA2 hA1' hwr hzw hR
          have hmix : Tryz.prog.follows .mixedOrders = true := by kernel_rfl
          dsimp only
          gi_wp2_with fail
          refine wpIn_region_sched (.take 0 (.take 1 (.take 2 (.take 3 (.take 4 (.take 5 (.take 6 (.take 7 (.step 8 (.take 9 (.nil))))))))))) (by kernel_rfl) (by kernel_rfl) (by kernel_rfl) (fun d _ _ _ _ h => by cases d <;> exact h) (fun ⟨_, _, h⟩ => h) (WrS w.heap.size sp cap P) (show WrS w.heap.size sp cap P W.drew from ⟨HI.out.bm.drew.cell rfl, HI.out.bs.drew.cell rfl, m0, m1⟩) ?_
          refine wpG_take _ (.pointer (some ⟨P.M, 0, none⟩)) rfl (by rfl) (fun X hX => q_ldM rfl rfl (hX.c3)) ?_; try simp only [pS]
          refine gT (.int .i64 1) ?_; try simp only [pS]
          refine wpG_take _ (.pointer (some ⟨P.M, 0, none⟩)) rfl (by rfl) (fun X hX => ex_nc rfl rfl) ?_; try simp only [pS]
          refine gT (.pointer (some ⟨P.M, 0, none⟩)) ?_; try simp only [pS]
          refine gT (.pointer (some ⟨P.M, 1, none⟩)) ?_; try simp only [pS]
          refine wpG_take _ (.pointer (some ⟨P.D 1, 0, none⟩)) rfl (by rfl) (fun X hX => q_ldD rfl rfl (hX.m1)) ?_; try simp only [pS]
          refine gT (.int .u16 (a : Int)) ?_; try simp only [pS]
          refine wpG_take _ (.slice sp 512 cap) rfl (by rfl) (fun X hX => q_ldB rfl rfl (hX.c5)) ?_; try simp only [pS]
          refine wpG_call _ rfl (by rfl) 49 #[.pointer (some ⟨P.D 1, 0, none⟩), .int .u16 (a : Int), .slice sp 512 cap] (fun _ => by go_simp) (fun u w' => u = .int .i64 r ∧ DkAtM w' (P.D 1) P.Q (A0 1) (ExtC (fun b => labW b = 1 + 1) W.drew w') s' ∧ PwAt w' P.Q p' ∧ Chg (fun b => labW b = 1 + 1 ∨ b = P.Q) W.drew w') (HWR.out.mono fun e w' hh => by
            obtain ⟨e1, h1, h2, h3⟩ := hh
            obtain ⟨-, lab', ht', -, -, hbm', hbs', -, -⟩ := HST.out w' h1 h2 h3
            exact ⟨_, e1, ⟨hbm'.cell rfl, hbs'.cell rfl, ht'.at'.cells.1, ht'.at'.cells.2.1⟩, rfl, h1, h2, h3⟩) ?_
          rintro u w' hs1 ⟨rfl, h1, h2, h3⟩
          refine ⟨_, fun _ h => h, hs1, ?_⟩; try simp only [pS]
          refine wpG_take _ (.bool (decide (r = 0))) rfl (by rfl) (fun X hX => ex_eqi Tryz.underlying67 rfl rfl rfl) ?_; try simp only [pS]
          refine wpG_nil ?_
          have HKK := Lib.hid (And.intro h1 (And.intro h2 h3))
          obtain ⟨hkf, lab', ht', hs', hl', hbm', hbs', hbe', hsrc'⟩ := HST.out w' h1 h2 h3
          have ce := hbe'.cell (j := 0) rfl
          have fe := hbe'.free 0
          have HT' := Lib.hid ht'; have HS' := Lib.hid hs'; have HL' := Lib.hid hl'; have HBM' := Lib.hid hbm'; have HBS' := Lib.hid hbs'; have HBE' := Lib.hid hbe'; have HSR' := Lib.hid hsrc'; have HKF := Lib.hid hkf
          clear h1 h2 h3 hkf ht' hs' hl' hbm' hbs' hbe' hsrc' hs1
          by_cases hr0 : r = 0
          · subst hr0
            gi_wp2_with fail
            have hc8 : Chg (fun k => k = W2.heap.size) w' (w'.setCell ⟨W2.heap.size, 0, none⟩ (.int .i64 0)) := chg1 _ _ _ _
            have hkf2 := HKF.out.trans (keepsFrom_chg hc8 (fun k e => by subst e; exact HBE'.out.isC))
            refine ⟨by first | exact hkf2 | (simpa using hkf2), trivial, ?_⟩
            refine ⟨⟨lab', ?_, HS'.out.cell 0 _⟩, HBM'.out.chg hc8 (by have := HWS.out; omega), HBS'.out.chg hc8 (by have := HWS.out; omega), ?_, HSR'.out.chg hc8 (fun g e => ⟨_, _, by subst e; exact HBE'.out, by simp⟩)⟩
            · rw [HXN.out]
              exact HT'.out.out hc8 (fun k e => by subst e; exact HL'.out)
            · rw [HXN.out]
              exact HBE'.out.set 0 _
          · have hr1 : ¬ (r : Int) = 0 := hr0
            gi_wp2_with fail
            refine ⟨by first | exact HKF.out | (simpa using HKF.out), trivial, ⟨lab', ?_, HS'.out⟩, HBM'.out, HBS'.out, ?_, HSR'.out⟩
            · rw [HXN.out]
              exact HT'.out
            · rw [HXN.out, if_neg hr0]
              exact HBE'.out

      case done =>
        rintro D ys W hD rfl hI hK
        have hcp : cpv (cps p) = copiesP p := cps_val HP.out
        obtain ⟨lab', hti', hstx⟩ := hI.ok
        rw [hcp] at hti'
        have ce := hI.be.cell (j := 0) rfl
        rw [hcp, HEE.out] at ce
        have hz : lab' D = 0 := by
          obtain ⟨A, hA1, hA2⟩ := hti'.ti
          by_cases e : lab' D = 0
          · exact e
          · rcases hA2 D e with ⟨k, hk, rfl⟩ | ⟨o, ho, hn⟩
            · have := (hA1 k hk).1; omega
            · rw [hK] at ho; cases ho; cases hn
        have hDw : w.heap.size ≤ D := Nat.le_trans HST4.out.chg.size hD
        have hst : Stp w lab W lab' := ⟨HST4.out.chg.trans hstx.chg (fun i hi => by
          by_cases hs : i < w.heap.size
          · left
            rcases hi with hi | rfl
            · unfold Foot8 at *
              rcases HST4.out.eq i hs with e | e
              · rw [← e]; exact hi
              · exact absurd e hi.1
            · have := HWS.out; omega
          · right; omega), fun i hi => by
          rcases hstx.eq i (Nat.lt_of_lt_of_le hi HST4.out.chg.size) with e | e
          · rw [e]; exact HST4.out.eq i hi
          · exact .inr e⟩
        have HFIN : Hid (MiPost w lab P (wrs x b (copiesP p)).2 (W.putObj D (.deferred none))) := Lib.hid ⟨lab', hti'.at'.putObj hz _, hst.putNew hDw _⟩
        have HK := Lib.hid hK
        clear hI hti' hstx hK hst hz hcp hD hDw
        go_wp2_with fail
        refine ⟨by simp, .inl ⟨_, _, rfl, run_takeDeferred HK.out, ?_⟩⟩
        refine ⟨.int .i64 eE, ?_, rfl, HFIN.out⟩
        simp [results, Tryz.f12, go_sem]
      case stop =>
        rintro D c pre W hD hpre hX hK
        exact hX.elim
end Go.Proofs.YtmgagalhpkieoaaGreatDoor
