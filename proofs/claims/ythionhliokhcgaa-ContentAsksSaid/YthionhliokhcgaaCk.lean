/- Content: Write's walk. -/
import Derived.Test.YthionhliokhcgaaCj
namespace Go.Proofs.Ythionhliokhcgaa
open Go.RowKit Go.Shelf

attribute [local go_sem] Oper.semAt_some

/-- What Write leaves. -/
def CWrPost (w : World) (B D : Nat) (vs : List Value) (m : List B8) (bad : Nat) (av : Value) (aq : List Nat) (sz X : Nat) (b : B8) (e : Ending) (w' : World) : Prop :=
  ∃ (n : Nat) (er : Bool) (v : Value) (z : Nat), Ran bad wtP X (X + b.length) n er ∧ CEnd w B D vs m bad av (aq ++ ranQ wtP X (X + b.length) n er) w' ∧ e = .returned (.tuple #[v, .int .u32 (z : Int), .int .i64 (if er = true then 21 else 0)]) ∧ if er = true then v = .slice none 0 0 ∧ z = 0 else z = max sz (X + b.length) ∧ ChAt w' w.heap.size v (wrU m b X (X + b.length) n)
set_option maxRecDepth 100000 in
set_option maxHeartbeats 16000000 in
theorem cwrite_any {w : World} {B D : Nat} {vs : List Value} {m : List B8} {bad : Nat} {av : Value} {aq : List Nat} (h : ShW w B D vs m bad av aq) (hm : ∀ l ∈ m, l.length ≤ 512) (hB : B ≤ w.heap.size) (hq : aq.length + 100 < 1000000) (sz X : Nat) (b : B8) (sp : Option Addr) (cap : Nat) (hsz : sz ≤ 32768) (hL : 0 < b.length) (hL2 : b.length ≤ 2048) (hX : X + b.length ≤ 32768) (hc : b.length ≤ cap) (hcm : cap ≤ maxLen) (hsrc : SrcW w D av w sp b) :
    Calls Try.prog 8 #[shC D, .int .u32 (sz : Int), .int .i64 (X : Int), .slice sp b.length cap] w (CWrPost w B D vs m bad av aq sz X b) := by
  have HSH := Lib.hid h; have HM := Lib.hid hm; have HB := Lib.hid hB; have HQ := Lib.hid hq; have HSZ := Lib.hid hsz; have HC := Lib.hid hc; have HCM := Lib.hid hcm; have HSRC := Lib.hid hsrc
  generalize hPost : CWrPost w B D vs m bad av aq sz X b = Post
  have HP : Hid (∀ n er v z W, Ran bad wtP X (X + b.length) n er → CEnd w B D vs m bad av (aq ++ ranQ wtP X (X + b.length) n er) W → (if er = true then v = .slice none 0 0 ∧ z = 0 else z = max sz (X + b.length) ∧ ChAt W w.heap.size v (wrU m b X (X + b.length) n)) → Post (.returned (.tuple #[v, .int .u32 ((z : Nat) : Int), .int .i64 (if er = true then 21 else 0)])) W) := Lib.hid fun n er v z W h1 h2 h3 => by rw [← hPost]; exact ⟨n, er, v, z, h1, h2, rfl, h3⟩
  obtain ⟨L, hLe⟩ : ∃ L, b.length = L := ⟨_, rfl⟩
  obtain ⟨te, hte⟩ : ∃ te, X + L = te := ⟨_, rfl⟩
  rw [hLe, hte] at HP
  have HTE : Hid (te = X + b.length ∧ te ≤ 32768 ∧ X ≤ te) := Lib.hid (by omega)
  have hr0 : refN (X : Int) (L : Int) = 0 := by unfold refN; rw [if_neg (by omega)]
  have HR0 := Lib.hid hr0
  have e1 : ¬ ((32768 : Int) - (L : Int) < (X : Int)) := by omega
  have e2 : ((L : Int) == 0) = false := by simp; omega
  have e2' : ¬ (L : Int) = 0 := by omega
  have e3 : (X : Int) + (L : Int) = (te : Int) := by omega
  have HE3 := Lib.hid e3
  have w1 : IntKind.u32.wrap (te : Int) = (te : Int) := by rw [IntKind.wrap_u32]; omega
  have w2 : IntKind.u64.wrap (X : Int) = (X : Int) := by rw [IntKind.wrap_u64]; omega
  have w3 : IntKind.u64.wrap (te : Int) = (te : Int) := by rw [IntKind.wrap_u64]; omega
  have HLT : Hid (0 < L ∧ L ≤ 2048 ∧ X ≤ 32768) := Lib.hid (by omega)
  have b1 : (X : Int) ≤ 32768 := by omega
  have b2 : (L : Int) ≤ 2048 := by omega
  rw [hLe] at HC ⊢
  have HLE := Lib.hid hLe
  clear hLe
  clear h hm hB hq hsz hL hL2 hX hc hcm hsrc hPost hr0 hte
  refine callsIn_wide.1 (callsIn_of_wp_marks (F := Fence.wide) (n := 5) Try.func8 rfl trivial ?_ rfl)
  refine wpIn_wide.2 ?_
  simp only [Try.ntmps8, List.size_toArray, List.length_cons, List.length_nil, Nat.reduceAdd, Nat.reduceSub, Array.replicate_succ, Array.replicate_zero, List.push_toArray, List.append_toArray, List.nil_append, List.cons_append]
  go_upto_region 1 with fail
  obtain ⟨W0, hW0⟩ : ∃ W0, (((w.alloc (.cells #[.slice sp L cap] 24)).alloc (.cells #[.slice none 0 0] 35)).alloc (.cells #[.int .u32 0] 34)).alloc (.cells #[.int .i64 0] 36) = W0 := ⟨_, rfl⟩
  rw [hW0]
  have hb0 : Below w.heap.size w W0 := by
    rw [← hW0]; exact ((((Below.refl _ _).alloc (Nat.le_refl _) _).alloc (by simp) _).alloc (by simp; omega) _).alloc (by simp; omega) _
  have hz0 : W0.heap.size = w.heap.size + 4 := by rw [← hW0]; simp
  have hk7 : Blk W0 w.heap.size [.slice sp L cap] 24 := by rw [← hW0]; exact (((Blk.new' _ _ _ _ _ rfl rfl).alloc _).alloc _).alloc _
  have hk8 : Blk W0 (w.heap.size + 1) [.slice none 0 0] 35 := by rw [← hW0]; exact ((Blk.new' _ _ _ _ _ (by simp) rfl).alloc _).alloc _
  have hk9 : Blk W0 (w.heap.size + 1 + 1) [.int .u32 0] 34 := by rw [← hW0]; exact (Blk.new' _ _ _ _ _ (by simp) rfl).alloc _
  have hk10 : Blk W0 (w.heap.size + 1 + 1 + 1) [.int .i64 0] 36 := by rw [← hW0]; exact Blk.new' _ _ _ _ _ (by simp) rfl
  have HB0 := Lib.hid hb0; have HK7 := Lib.hid hk7; have HK8 := Lib.hid hk8; have HK9 := Lib.hid hk9; have HK10 := Lib.hid hk10; have HZ0 := Lib.hid hz0
  have c7 := hk7.cell (j := 0) rfl
  clear hW0 hb0 hz0 hk7 hk8 hk9 hk10
  go_wp2_with fail
  refine (crefuse_any D (X : Int) (L : Int) W0).mono ?_
  rintro e w' ⟨rfl, rfl⟩
  rw [HR0.out]
  go_upto_region 9 with fail
  clear c7 e1 e2 e2' e3 w1 b1 b2
  go_upto_region 10 with fail
  have hk13 : Blk (W0.alloc (.cells #[.slice none 0 0] 35)) W0.heap.size [.slice none 0 0] 35 := Blk.new' _ _ _ _ _ rfl rfl
  have hbA : Below W0.heap.size W0 (W0.alloc (.cells #[.slice none 0 0] 35)) := (Below.refl _ _).alloc (Nat.le_refl _) _
  have hb1 := HB0.out.trans (hbA.mono HB0.out.size)
  have hk7 := HK7.out.below hbA HK7.out.lt
  have hk8 := HK8.out.below hbA HK8.out.lt
  have hk9 := HK9.out.below hbA HK9.out.lt
  have hk10 := HK10.out.below hbA HK10.out.lt
  obtain ⟨W1, hW1⟩ : ∃ W, W0.alloc (.cells #[.slice none 0 0] 35) = W := ⟨_, rfl⟩
  obtain ⟨g13, hg13⟩ : ∃ g, W0.heap.size = g := ⟨_, rfl⟩
  have hz0 := HZ0.out
  rw [hg13] at hk13 hz0 ⊢
  rw [hW1] at hb1 hk7 hk8 hk9 hk10 hk13 ⊢
  have HB1 := Lib.hid hb1; have HK7 := Lib.hid hk7; have HK8 := Lib.hid hk8; have HK9 := Lib.hid hk9; have HK10 := Lib.hid hk10; have HK13 := Lib.hid hk13; have HZ := Lib.hid hz0
  clear hW1 hg13 hb1 hbA hk7 hk8 hk9 hk10 hk13 hz0 HZ0 HB0
  go_wp2_with fail
  refine (cpieces_any D X te 15 W1).mono ?_
  rintro e wS ⟨rfl, hwS⟩
  obtain ⟨hcs, hbS⟩ := cst_start HSH.out HB.out HB1.out X te 15 hwS
  have HBS : Hid (Below w.heap.size w wS) := Lib.hid (HB1.out.trans (hbS.mono HB1.out.size))
  have hxm : min (pcA X 0) te = X := by rw [show pcA X 0 = X from rfl]; have := HTE.out; omega
  have HSZS : Hid (W1.heap.size + 3 < wS.heap.size) := Lib.hid hcs.gl
  have HGW : Hid (g13 < W1.heap.size) := Lib.hid HK13.out.lt
  have HWB : Hid (WtB w wS.heap.size (w.heap.size + 1) (w.heap.size + 1 + 1) (w.heap.size + 1 + 1 + 1) g13) := Lib.hid (by
    have := HSZS.out; have := HZ.out; have := HGW.out
    exact ⟨by omega, by omega, by omega, by omega, by omega, by omega, by omega⟩)
  have HG7 : Hid (w.heap.size ≤ w.heap.size ∧ w.heap.size < wS.heap.size) := Lib.hid (by have := HSZS.out; have := HZ.out; have := HGW.out; omega)
  have HN7 : Hid (w.heap.size ≠ w.heap.size + 1 ∧ w.heap.size ≠ w.heap.size + 1 + 1 ∧ w.heap.size ≠ w.heap.size + 1 + 1 + 1 ∧ w.heap.size ≠ g13) := Lib.hid (by have := HZ.out; omega)
  have HWS : Hid (w.heap.size ≤ wS.heap.size) := Lib.hid HBS.out.size
  have HH0 : Hid (HdJ ⟨w, wS.heap.size⟩ B D W1.heap.size vs m bad av wtP X te 15 aq (WtK w.heap.size (w.heap.size + 1) (w.heap.size + 1 + 1) (w.heap.size + 1 + 1 + 1) g13 (wrU m b X te) (WrE w D av w.heap.size X te b)) 0 wS) := Lib.hid ⟨by rw [show askU wtP X te 0 = [] from rfl, List.append_nil]; exact hcs, ⟨fun j hj => by omega⟩, ⟨HK8.out.below hbS HK8.out.lt, HK9.out.below hbS HK9.out.lt, HK10.out.below hbS HK10.out.lt, ⟨_, HK13.out.below hbS HK13.out.lt, ChAt.nil _ _⟩, by
    refine ⟨sp, cap, ?_, ?_, HCM.out, ?_⟩
    · rw [hxm, show te - X = L by have := HTE.out; have := HLE.out; omega]; exact HK7.out.below hbS HK7.out.lt
    · rw [hxm]; have := HC.out; have := HTE.out; have := HLE.out; omega
    · rw [hxm, Nat.sub_self]
      exact HSRC.out.keep (fun g h1 h2 h3 => HBS.out.block g h1)⟩⟩
  have HKK : Hid (Keeps D av ⟨w, wS.heap.size⟩ (WtK w.heap.size (w.heap.size + 1) (w.heap.size + 1 + 1) (w.heap.size + 1 + 1 + 1) g13 (wrU m b X te) (WrE w D av w.heap.size X te b))) := Lib.hid (wtK_keeps HWB.out.h9 HSH.out.d.lt (fun g hg => c_owns_lt HSH.out.q hg) (wrE_keeps HWS.out))
  obtain ⟨G, hG⟩ : ∃ G, W1.heap.size = G := ⟨_, rfl⟩
  rw [hG] at HH0 HSZS HGW
  simp only [hG]
  clear hG hcs hbS hxm hwS HK7 HK8 HK9 HK10 HK13 HB1
  go_wp2_with fail
  refine (wpIn_wide (n := 5)).1 ?_
  apply (wpIn_rangeFunc_w (n := 5) (w := wS) (α := Nat) rfl (by omega) (gf := 19) (lb := #[.pointer (some ⟨G + 1, 0, none⟩), .pointer (some ⟨G + 1 + 1, 0, none⟩), .pointer (some ⟨G + 1 + 1 + 1, 0, none⟩), .pointer (some ⟨G, 0, none⟩)]) rfl trivial (enters_of Try.func19 (by kernel_rfl) rfl)
    (encs := fun i => ycE (yc vs bad wtP X te i)) (fun _ => rfl)
    (fun pre A => pre = List.range pre.length ∧ HdJ ⟨w, wS.heap.size⟩ B D G vs m bad av wtP X te 15 aq (WtK w.heap.size (w.heap.size + 1) (w.heap.size + 1 + 1) (w.heap.size + 1 + 1 + 1) g13 (wrU m b X te) (WrE w D av w.heap.size X te b)) pre.length A)
    (fun pre x A => pre = List.range pre.length ∧ x = pre.length ∧ HdJ1 ⟨w, wS.heap.size⟩ B D G vs m bad av wtP X te 15 aq (WtK w.heap.size (w.heap.size + 1) (w.heap.size + 1 + 1) (w.heap.size + 1 + 1 + 1) g13 (wrU m b X te) (WrE w D av w.heap.size X te b)) x A)
    (HdJ2 ⟨w, wS.heap.size⟩ B D G vs m bad av wtP X te 15 aq (WtK w.heap.size (w.heap.size + 1) (w.heap.size + 1 + 1) (w.heap.size + 1 + 1 + 1) g13 (wrU m b X te) (WrE w D av w.heap.size X te b)) _)
    (fun c pre A => c = .ret ∧ ∃ i, Ran bad wtP X te i true ∧ Cst ⟨w, wS.heap.size⟩ B D G vs m bad av X te 15 (aq ++ askU wtP X te (i + 1)) A ∧ Blk A (w.heap.size + 1) [.slice none 0 0] 35 ∧ Blk A (w.heap.size + 1 + 1) [.int .u32 0] 34 ∧ Blk A (w.heap.size + 1 + 1 + 1) [.int .i64 21] 36)
    (hdJ_own HKK.out) (hdJ2_own HKK.out _) ?own ⟨rfl, HH0.out⟩
    (pieces_in 4 (by omega) HLT.out.2.2 HTE.out.2.1 part_ok (enters_of Try.func15 (by kernel_rfl) rfl) HQ.out _ _ (fun i A h => h.c) (hdJ_ask HKK.out)) ?assign ?body ?done ?stop)
  case assign =>
    intro l pre x W K ⟨hpre, hx, hJ⟩ hKf
    have HX : Hid (pre = List.range x) := Lib.hid (by rw [hx]; exact hpre)
    have HJ := Lib.hid hJ
    have HKF := Lib.hid hKf
    have HONE : Hid ((pcC (yc vs bad wtP X te x).o (yc vs bad wtP X te x).f (yc vs bad wtP X te x).t (yc vs bad wtP X te x).v).toArray.all (·.oneCell') = true) := Lib.hid (by
      obtain ⟨av', h1, -⟩ := hJ.c.sh
      exact pc_one (yc_v h1 wtP X te x (pcO_lt hJ.l HTE.out.2.1)))
    clear hpre hx hJ hKf
    unfold ycE
    refine wpIn_seq ?_
    refine c_regionL 11 (by kernel_rfl) (fun ⟨_, _, h⟩ => h) ?_
    go_wp2_with (first | (refine wpList_store_row rfl 56 (.tmp 14) (.tmp 45) rfl W.heap.size (pcC (yc vs bad wtP X te x).o (yc vs bad wtP X te x).f (yc vs bad wtP X te x).t (yc vs bad wtP X te x).v).toArray rfl rfl 56 _ (heap_alloc_new W _) sizePc rfl HONE.out ?_) | fail)
    gi_wp2
    have h5 := c_row1 W #[.int .u32 0, .int .i64 0, .int .i64 0, .slice none 0 0] (pcC (yc vs bad wtP X te x).o (yc vs bad wtP X te x).f (yc vs bad wtP X te x).t (yc vs bad wtP X te x).v) 56
    obtain ⟨X5, hX5⟩ : ∃ X5, (W.alloc (.cells #[.int .u32 0, .int .i64 0, .int .i64 0, .slice none 0 0] 56)).setRow W.heap.size (pcC (yc vs bad wtP X te x).o (yc vs bad wtP X te x).f (yc vs bad wtP X te x).t (yc vs bad wtP X te x).v).toArray = X5 := ⟨_, rfl⟩
    rw [hX5] at h5 ⊢
    clear hX5
    have hws : wS.heap.size ≤ W.heap.size := HJ.out.c.size
    obtain ⟨g, hg⟩ : ∃ g, W.heap.size = g := ⟨_, rfl⟩
    rw [hg] at hws ⊢
    refine HKF.out _ _ (KeepsFrom.of_below h5.2) ⟨g, rfl, HX.out, hws, ?_, HJ.out.below HKK.out h5.2⟩
    rw [← hg]
    exact h5.1
  case own =>
    exact fun c s A A' row ⟨h1, i, h2, h3, h4, h5, h6⟩ hg hr => ⟨h1, i, h2, h3.grown hg hr, blk_grown hg (fun r e => (hr r e).2) h4, blk_grown hg (fun r e => (hr r e).2) h5, blk_grown hg (fun r e => (hr r e).2) h6⟩
  case body =>
    rintro l pre x a' W ⟨g, rfl, hpre, hgs, hbx, hJ⟩
    have HX := Lib.hid hpre; have HJ := Lib.hid hJ; have HBX := Lib.hid hbx; have HGS := Lib.hid hgs
    have c8 := hJ.k.b8.cell (j := 0) rfl
    have q8 := hJ.k.b8.free 0
    have c9 := hJ.k.b9.cell (j := 0) rfl
    have q9 := hJ.k.b9.free 0
    have c10 := hJ.k.b10.cell (j := 0) rfl
    have q10 := hJ.k.b10.free 0
    clear hpre hgs hbx hJ
    rcases yc_e vs bad wtP X te x with ⟨he, hok⟩ | ⟨he, hw, hbad⟩
    · have he2 : (((yc vs bad wtP X te x).e : Nat) : Int) = 0 := by rw [he]; rfl
      have hye := yc_ok he
      have HYE := Lib.hid hye
      have HE := Lib.hid he
      dsimp only
      rw [he2]
      clear c8 q8 c9 q9 c10 q10 he2 he hok hye
      have hK : pcO X x < 64 := pcO_lt HJ.out.l HTE.out.2.1
      have hblk : Calls Try.prog 16 #[.agg (pcC (pcO X x) (pcF X x) (pcT X te x) (if wtP (pcF X x) (pcT X te x) = true then vs.getD (pcO X x) undef else .slice none 0 0)).toArray] W (BkPost W (if wtP (pcF X x) (pcT X te x) = true then m.getD (pcO X x) [] else [])) := by
        obtain ⟨av', k1, -⟩ := HJ.out.c.sh
        by_cases hw : wtP (pcF X x) (pcT X te x) = true
        · rw [if_pos hw, if_pos hw]
          exact cblock_any _ _ _ _ _ (getD_le HM.out _) W (yc_row k1 hK)
        · rw [if_neg hw, if_neg hw]
          exact cblock_any _ _ _ _ _ (by simp) W ⟨rfl, .inl ⟨rfl, rfl⟩⟩
      have hbx := HBX.out
      rw [HYE.out] at hbx
      obtain ⟨lf, hlf⟩ : ∃ lf, (if wtP (pcF X x) (pcT X te x) = true then m.getD (pcO X x) [] else []) = lf := ⟨_, rfl⟩
      obtain ⟨vf, hvf⟩ : ∃ vf, (if wtP (pcF X x) (pcT X te x) = true then vs.getD (pcO X x) undef else .slice none 0 0) = vf := ⟨_, rfl⟩
      rw [hlf, hvf] at hblk
      have hbx' : Blk W g (pcC (pcO X x) (pcF X x) (pcT X te x) vf) 56 := by rw [← hvf]; exact hbx
      have HBLK := Lib.hid hblk; have HBX2 := Lib.hid hbx'; have HLF := Lib.hid hlf
      clear hblk hbx hbx' hlf hvf hK
      gi_wp2_with (first | (refine c_listAt 50 rfl (by kernel_rfl) (fun ⟨_, _, h⟩ => h) ?_) | fail)
      go_wp2_with (first | (refine c_val rfl (c_ldPc HBX2.out rfl rfl) ?_) | fail)
      refine HBLK.out.mono ?_
      rintro e A1 ⟨gb, rfl, hgb, hge, hb⟩
      have HGB := Lib.hid hgb; have HGE := Lib.hid hge; have HB1 := Lib.hid hb
      clear hgb hge hb HBLK
      go_wp2_with fail
      have hgd : wS.heap.size ≤ W.heap.size := HJ.out.c.size
      have hcp := wr_copy HWB.out rfl HG7.out HN7.out HTE.out.1 HM.out HJ.out (A1 := A1.drew) (HB1.out.drew) HLF.out.symm (gb := gb) HGB.out HGE.out
      obtain ⟨gs, os, caps, q1, q2, q3, q4, q5, q6, q7⟩ := hcp
      obtain ⟨f1, f2, f3, f4, f5⟩ := pc_facts HJ.out.l
      have hT := pcT_le X te x
      have hpl : (padL lf).length = 512 := padL_length (by rw [← HLF.out]; split; exact getD_le HM.out _; simp)
      obtain ⟨K, hK⟩ : ∃ a, pcO X x = a := ⟨_, rfl⟩
      obtain ⟨f, hf⟩ : ∃ a, pcF X x = a := ⟨_, rfl⟩
      obtain ⟨t, ht⟩ : ∃ a, pcT X te x = a := ⟨_, rfl⟩
      obtain ⟨R, hR⟩ : ∃ a, te - pcA X x = a := ⟨_, rfl⟩
      rw [hR] at q1 q3 q7
      rw [hf, ht] at q2 q5 q6 q7
      rw [hR] at q2
      rw [hf] at f3 f5
      rw [ht] at f5 hT
      have HKK2 := Lib.hid hK
      rw [hK, hf, ht] at HBX2
      obtain ⟨cl, hcl⟩ : ∃ cl, (b.drop (pcA X x - X)).take (t - f) = cl := ⟨_, rfl⟩
      rw [hcl] at q5 q6 q7
      obtain ⟨sps, hsp, hsl⟩ := c_slFrom (x := .tmp 52) (y := .tmp 60) (g := gs) (off := os) (n := R) (cap := caps) (k := t - f) q2 q3 q4
      have HSL := Lib.hid hsl
      obtain ⟨A2, hA2⟩ : ∃ A2, A1.drew.setRow gb (splice ((padL lf).map V8) f (cl.map V8)).toArray = A2 := ⟨_, rfl⟩
      have HA2 := Lib.hid hA2
      have hcp2 : ∀ (ρ : Operand → Value) (o : Oper), o.op = .call { callee := .builtin .copy, args := #[.tmp 58, .tmp 59], argTypes := #[24, 24] } → ρ (.tmp 58) = .slice (some ⟨gb, f, none⟩) (t - f) (512 - f) → ρ (.tmp 59) = .slice (some ⟨gs, os, none⟩) R caps → (execOp ρ o).run Try.prog A1.drew = .ok (.value (.int .i64 ((t - f : Nat) : Int))) (A1.drew.setRow gb (splice ((padL lf).map V8) f (cl.map V8)).toArray) := fun ρ o ho h1 h2 => by
        have := c_exCopy (w := A1.drew) (l := cl) (cur := (padL lf).map V8) (t := 5) ho h1 h2 HGB.out (by rw [q6]; omega) q5 (by rw [List.length_map, hpl, q6]; omega)
        rw [q6] at this
        exact this
      have HCP := Lib.hid hcp2
      obtain ⟨r1, r2, r3, r4, r5, r6, r7, r8, ⟨cv, r9, r10⟩, r11, r12⟩ := q7 sps hsp A2 _ hA2.symm rfl
      have hbx2 : Blk W g (pcC K f t vf) 56 := HBX2.out
      have HBX3 : Hid (Blk A1.drew g (pcC K f t vf) 56) := Lib.hid (hbx2.below HB1.out.drew hbx2.lt)
      have HBX4 := Lib.hid (r3 g _ hbx2).1
      have HBX5 := Lib.hid (r3 g _ hbx2).2
      have HC7 := Lib.hid (q1 A1.drew HB1.out.drew)
      have HC72 : Hid (A2.cell? ⟨w.heap.size, 0, none⟩ = some (.slice (some ⟨gs, os, none⟩) R caps)) := Lib.hid (by
        have hne : w.heap.size ≠ gb := by have := HGE.out; have := HG7.out.2; omega
        rw [← hA2]
        exact (World.cell?_of_block (w := A1.drew) (a := ⟨w.heap.size, 0, none⟩) (setRow_other A1.drew gb w.heap.size _ hne)).trans (q1 A1.drew HB1.out.drew))
      obtain ⟨_, hc2⟩ := r1
      have HC2 := Lib.hid hc2; have HF2 := Lib.hid r2; have HK3 := Lib.hid r4; have HC3 := Lib.hid r5; have H8 := Lib.hid r6; have H9 := Lib.hid r7; have H10 := Lib.hid r8; have H13 := Lib.hid r9; have HCH := Lib.hid r10; have HE3x := Lib.hid r11; have HU := Lib.hid r12
      clear hgd q1 q2 q3 q4 q5 q6 q7 f1 f2 f4 hpl hK hf ht hR hcl hsp hsl hA2 hcp2 hbx2 r2 r3 r4 r5 r6 r7 r8 r9 r10 r11 r12 hc2
      refine wpIn_seq ?_
      refine c_join ?_
      apply Exists.intro
      apply Exists.intro
      constructor
      · refine c_regionS (.take 1 (.take 2 (.take 3 (.take 4 (.take 5 (.take 6 (.fork 0 (.step 7 (.step 8 (.take 9 (.step 10 (.nil))))) 7 (.fork 0 (.step 8 (.take 9 (.step 10 (.nil)))) 8 (.step 0 (.take 9 (.step 10 (.nil)))))))))))) (by kernel_rfl) (by kernel_rfl) (by kernel_rfl) (fun d _ _ _ _ h => by cases h.1) (by rintro ⟨_, _, h⟩; cases h.1) (fun X => Blk X g (pcC K f t vf) 56) HBX3.out ?_
        (try simp only [Act.put, List.setIfInBounds_toArray, List.set_cons_zero, List.set_cons_succ])
        refine wpG_take _ (.slice (some ⟨gb, 0, none⟩) 512 512) rfl (by rfl) (fun X hX => by first | rfl | go_simp) ?_
        (try simp only [Act.put, List.setIfInBounds_toArray, List.set_cons_zero, List.set_cons_succ])
        refine wpG_take _ (.pointer (some ⟨g, 1, none⟩)) rfl (by rfl) (fun X hX => c_faPc (j := 1) (k := 1) (by omega) rfl rfl) ?_
        (try simp only [Act.put, List.setIfInBounds_toArray, List.set_cons_zero, List.set_cons_succ])
        refine wpG_take _ (.int .i64 (f : Int)) rfl (by rfl) (fun X hX => c_ldI rfl rfl (hX.cell (j := 1) rfl)) ?_
        (try simp only [Act.put, List.setIfInBounds_toArray, List.set_cons_zero, List.set_cons_succ])
        refine wpG_take _ (.pointer (some ⟨g, 2, none⟩)) rfl (by rfl) (fun X hX => c_faPc (j := 2) (k := 2) (by omega) rfl rfl) ?_
        (try simp only [Act.put, List.setIfInBounds_toArray, List.set_cons_zero, List.set_cons_succ])
        refine wpG_take _ (.int .i64 (t : Int)) rfl (by rfl) (fun X hX => c_ldI rfl rfl (hX.cell (j := 2) rfl)) ?_
        (try simp only [Act.put, List.setIfInBounds_toArray, List.set_cons_zero, List.set_cons_succ])
        refine wpG_take _ (.slice (some ⟨gb, f, none⟩) (t - f) (512 - f)) rfl (by rfl) (fun X hX => c_slB rfl rfl rfl rfl (by omega) hT f3) ?_
        (try simp only [Act.put, List.setIfInBounds_toArray, List.set_cons_zero, List.set_cons_succ])
        refine wpG_fork ?_ ?_
        · skip
          refine cG_mk _ rfl (by rfl) (.slice (some ⟨gs, os, none⟩) R caps) A1.drew (c_ldB rfl rfl (HC7.out)) (fun X => Blk X g (pcC K f t vf) 56) (HBX3.out) (fun _ h => h) ?_
          (try simp only [Act.put, List.setIfInBounds_toArray, List.set_cons_zero, List.set_cons_succ])
          refine cG_mk _ rfl (by rfl) (.slice (some ⟨gs, os, none⟩) R caps) A1.drew (c_ldB rfl rfl (HC7.out)) (fun X => Blk X g (pcC K f t vf) 56) (HBX3.out) (fun _ h => h) ?_
          (try simp only [Act.put, List.setIfInBounds_toArray, List.set_cons_zero, List.set_cons_succ])
          refine cG_mk _ rfl (by rfl) (.int .i64 ((t - f : Nat) : Int)) A2 (by rw [← HA2.out]; exact HCP.out _ _ rfl rfl rfl) (fun X => Blk X g (pcC K f t vf) 56) HBX4.out (fun _ h => h) ?_
          (try simp only [Act.put, List.setIfInBounds_toArray, List.set_cons_zero, List.set_cons_succ])
          refine wpG_take _ (.slice sps (R - (t - f)) (caps - (t - f))) rfl (by rfl) (fun X hX => HSL.out _ _ X rfl rfl rfl) ?_
          (try simp only [Act.put, List.setIfInBounds_toArray, List.set_cons_zero, List.set_cons_succ])
          refine cG_st _ rfl (by rfl) _ (c_stB rfl rfl rfl HC2.out HF2.out) (fun X => Blk X g (pcC K f t vf) 56) HBX5.out (fun _ h => h) ?_
          refine wpG_nil ?_
          exact ⟨rfl, rfl, rfl⟩
        · skip
          refine cG_mk _ rfl (by rfl) (.slice (some ⟨gs, os, none⟩) R caps) A1.drew (c_ldB rfl rfl (HC7.out)) (fun X => Blk X g (pcC K f t vf) 56) (HBX3.out) (fun _ h => h) ?_
          (try simp only [Act.put, List.setIfInBounds_toArray, List.set_cons_zero, List.set_cons_succ])
          refine wpG_fork ?_ ?_
          · skip
            refine cG_mk _ rfl (by rfl) (.slice (some ⟨gs, os, none⟩) R caps) A1.drew (c_ldB rfl rfl (HC7.out)) (fun X => Blk X g (pcC K f t vf) 56) (HBX3.out) (fun _ h => h) ?_
            (try simp only [Act.put, List.setIfInBounds_toArray, List.set_cons_zero, List.set_cons_succ])
            refine cG_mk _ rfl (by rfl) (.int .i64 ((t - f : Nat) : Int)) A2 (by rw [← HA2.out]; exact HCP.out _ _ rfl rfl rfl) (fun X => Blk X g (pcC K f t vf) 56) HBX4.out (fun _ h => h) ?_
            (try simp only [Act.put, List.setIfInBounds_toArray, List.set_cons_zero, List.set_cons_succ])
            refine wpG_take _ (.slice sps (R - (t - f)) (caps - (t - f))) rfl (by rfl) (fun X hX => HSL.out _ _ X rfl rfl rfl) ?_
            (try simp only [Act.put, List.setIfInBounds_toArray, List.set_cons_zero, List.set_cons_succ])
            refine cG_st _ rfl (by rfl) _ (c_stB rfl rfl rfl HC2.out HF2.out) (fun X => Blk X g (pcC K f t vf) 56) HBX5.out (fun _ h => h) ?_
            refine wpG_nil ?_
            exact ⟨rfl, rfl, rfl⟩
          · skip
            refine cG_mk _ rfl (by rfl) (.int .i64 ((t - f : Nat) : Int)) A2 (by rw [← HA2.out]; exact HCP.out _ _ rfl rfl rfl) (fun X => Blk X g (pcC K f t vf) 56) HBX4.out (fun _ h => h) ?_
            (try simp only [Act.put, List.setIfInBounds_toArray, List.set_cons_zero, List.set_cons_succ])
            refine cG_mk _ rfl (by rfl) (.slice (some ⟨gs, os, none⟩) R caps) A2 (c_ldB rfl rfl (HC72.out)) (fun X => Blk X g (pcC K f t vf) 56) (HBX4.out) (fun _ h => h) ?_
            (try simp only [Act.put, List.setIfInBounds_toArray, List.set_cons_zero, List.set_cons_succ])
            refine wpG_take _ (.slice sps (R - (t - f)) (caps - (t - f))) rfl (by rfl) (fun X hX => HSL.out _ _ X rfl rfl rfl) ?_
            (try simp only [Act.put, List.setIfInBounds_toArray, List.set_cons_zero, List.set_cons_succ])
            refine cG_st _ rfl (by rfl) _ (c_stB rfl rfl rfl HC2.out HF2.out) (fun X => Blk X g (pcC K f t vf) 56) HBX5.out (fun _ h => h) ?_
            refine wpG_nil ?_
            exact ⟨rfl, rfl, rfl⟩
      · obtain ⟨A3, hA3⟩ : ∃ A3, A2.setCell ⟨w.heap.size, 0, none⟩ (.slice sps (R - (t - f)) (caps - (t - f))) = A3 := ⟨_, rfl⟩
        rw [hA3] at HBX5 HK3 HC3 H8 H9 H10 H13 HCH HE3x HU
        show Code.wpIn _ _ _ _ _ _ _
        rw [hA3]
        have hlen : (wrU m b X te x).length < 1000 := by
          rw [wrU_len]
          have h1 := HJ.out.l
          have h2 := HTE.out.2.1
          have h3 : pcA X x = 512 * pcO X x + pcF X x := pcA_eq X x
          have h4 : pcO X x = X / 512 + x := rfl
          omega
        have hsu : wrU m b X te (x + 1) = wrU m b X te x ++ [(K, blkW m b X te x)] := by rw [wrU_succ, HKK2.out]
        obtain ⟨sp2, cap2, hcvf, -⟩ := HCH.out.form
        obtain ⟨spn, nn, capn, W4, hr4, ⟨_, hc4⟩, hf4, hk4, hC4, hkf4⟩ := wt_app (x := x) (cs := wrU m b X te) (E := WrE w D av w.heap.size X te b) (u := .slice (some ⟨gb, 0, none⟩) 512 512) HWB.out rfl (fun A' hE hch => by
          obtain ⟨sp', cap', e1, e2, e3, e4⟩ := hE
          refine ⟨sp', cap', e1.chg hch (fun hf => ?_), e2, e3, e4.keep (fun g' h1 h2 h3 => ?_)⟩
          · rcases hf with e | ⟨_, l', e⟩
            · have := HN7.out.2.2.2; omega
            · exact absurd (e1.same e) (by decide)
          · refine hch.block g' ?_ (fun hf => ?_)
            · have := H13.out.lt; have := HWB.out.h13.1; omega
            · rcases hf with e | ⟨e, _⟩
              · have := HWB.out.h13.1; omega
              · omega) (by have := H13.out.lt; have := HWB.out.h13.1; omega) HC3.out H8.out H9.out H10.out H13.out HCH.out HE3x.out K _ hsu hlen HU.out
        obtain ⟨cn, hcn⟩ : ∃ n, (wrU m b X te x).length = n := ⟨_, rfl⟩
        rw [hcn] at hcvf
        subst hcvf
        have c13 := H13.out.cell (j := 0) rfl
        have p0 := HBX5.out.cell (j := 0) rfl
        have hnewc : A3.heap.size ≠ g13 := by have := H13.out.lt; omega
        have HR4 := Lib.hid hr4; have HK4 := Lib.hid hk4; have HC4 := Lib.hid hC4; have HKF4 := Lib.hid hkf4; have HCE4 := Lib.hid hc4; have HF4 := Lib.hid hf4
        clear hr4 hk4 hC4 hkf4 hc4 hf4 hA3 hlen hsu hcn hnewc
        refine c_regionL 17 (by kernel_rfl) (fun ⟨_, _, h⟩ => h) ?_
        go_wp2_with (first | (refine c_val rfl (c_oneH (c := (K, .slice (some ⟨gb, 0, none⟩) 512 512)) rfl rfl) ?_) | (at_builtin; refine c_val rfl (c_appH rfl rfl rfl HR4.out) ?_; have cg4 := HCE4.out; have fg4 := HF4.out) | fail)
        refine ⟨HK3.out.trans HKF4.out, ?_⟩
        rw [HX.out]
        simp only [List.length_append, List.length_range, List.length_cons, List.length_nil, Nat.zero_add]
        exact ⟨List.range_succ.symm, HC4.out, HJ.out.p.succ HJ.out.l HE.out, HK4.out⟩
    · have he2 : (((yc vs bad wtP X te x).e : Nat) : Int) = 21 := by rw [he]; rfl
      have HE := Lib.hid he
      dsimp only
      rw [he2]
      clear he he2 hw hbad
      gi_wp2
      obtain ⟨k1, k2⟩ := wt_err HWB.out HJ.out (by rw [HE.out]; simp)
      unfold errW at k1 k2
      exact ⟨k1, rfl, k2⟩
  case done =>
    intro Dd ys W hD hS ⟨hys, hJ⟩ hK
    have hno : te ≤ pcA X ys.length := by
      rcases hS with h | ⟨i, h1, h2⟩
      · exact h
      · exact absurd (hJ.p.all i h1).2 h2
    have hran := hJ.p.ran hno
    obtain ⟨mz, hmz⟩ : ∃ mz, max sz te = mz := ⟨_, rfl⟩
    have HMZ := Lib.hid hmz
    clear hmz
    obtain ⟨spc, capc, c13, hK2, hX⟩ := wt_end HWB.out rfl hJ.c hJ.k hD hK (mz : Int)
    obtain ⟨nn, hnn⟩ : ∃ nn, (wrU m b X te ys.length).length = nn := ⟨_, rfl⟩
    rw [hnn] at c13 hK2 hX
    have c8 := hJ.k.b8.cell (j := 0) rfl
    have q8 := hJ.k.b8.free 0
    have c9 := hJ.k.b9.cell (j := 0) rfl
    have q9 := hJ.k.b9.free 0
    have c10 := hJ.k.b10.cell (j := 0) rfl
    have q10 := hJ.k.b10.free 0
    have HX := Lib.hid hX; have HRAN := Lib.hid hran; have HK2 := Lib.hid hK2
    clear hX hran hK2 hS hys hJ hK hno hnn
    rcases Nat.lt_or_ge sz te with hst | hst
    · obtain rfl : mz = te := by rw [← HMZ.out]; omega
      go_wp2_with fail
      obtain ⟨r1, r2, r3, r4, r5⟩ := HX.out _ rfl
      refine ⟨by simp, .inl ⟨_, _, rfl, run_takeDeferred HK2.out, ?_⟩⟩
      refine ⟨.tuple #[.slice spc nn capc, .int .u32 (mz : Int), .int .i64 0], ?_, ?_⟩
      · have c8 := r1
        have c9 := r2
        have c10 := r3
        unfold endW at c8 c9 c10
        simp [results, Try.f8, go_sem, c8, c9, c10]
      · have h9 := HP.out ys.length false (.slice spc nn capc) mz _ HRAN.out r4 (by rw [if_neg (by simp)]; exact ⟨HMZ.out.symm, r5⟩)
        rw [if_neg (by simp)] at h9
        exact h9
    · obtain rfl : mz = sz := by rw [← HMZ.out]; omega
      go_wp2_with fail
      obtain ⟨r1, r2, r3, r4, r5⟩ := HX.out _ rfl
      refine ⟨by simp, .inl ⟨_, _, rfl, run_takeDeferred HK2.out, ?_⟩⟩
      refine ⟨.tuple #[.slice spc nn capc, .int .u32 (mz : Int), .int .i64 0], ?_, ?_⟩
      · have c8 := r1
        have c9 := r2
        have c10 := r3
        unfold endW at c8 c9 c10
        simp [results, Try.f8, go_sem, c8, c9, c10]
      · have h9 := HP.out ys.length false (.slice spc nn capc) mz _ HRAN.out r4 (by rw [if_neg (by simp)]; exact ⟨HMZ.out.symm, r5⟩)
        rw [if_neg (by simp)] at h9
        exact h9
  case stop =>
    rintro Dd c pre W hD - ⟨rfl, i, hran, hC, h8, h9, h10⟩ hK
    have hg := grownBy_putObj' W Dd (.deferred none)
    have hr : ∀ r, some Dd = some r → wS.heap.size ≤ r ∧ ∃ o : Obj, W.heap[r]? = some o ∧ o.isCells = false := fun r e => by cases e; exact ⟨hD, _, hK, rfl⟩
    have c8 := (blk_grown hg (fun r e => (hr r e).2) h8).cell (j := 0) rfl
    have c9 := (blk_grown hg (fun r e => (hr r e).2) h9).cell (j := 0) rfl
    have c10 := (blk_grown hg (fun r e => (hr r e).2) h10).cell (j := 0) rfl
    have HC8 := Lib.hid c8; have HC9 := Lib.hid c9; have HC10 := Lib.hid c10; have HCE := Lib.hid (hC.grown hg hr).fin; have HRAN := Lib.hid hran; have HK := Lib.hid hK
    clear hD hran hC h8 h9 h10 hK hg hr c8 c9 c10
    refine wpIn_wide.2 ?_
    go_wp2_with fail
    refine ⟨by simp, .inl ⟨_, _, rfl, run_takeDeferred HK.out, ?_⟩⟩
    refine ⟨.tuple #[.slice none 0 0, .int .u32 0, .int .i64 21], ?_, ?_⟩
    · have c8 := HC8.out
      have c9 := HC9.out
      have c10 := HC10.out
      simp [results, Try.f8, go_sem, c8, c9, c10]
    · have h9 := HP.out i true (.slice none 0 0) 0 _ HRAN.out HCE.out (by rw [if_pos rfl]; exact ⟨rfl, rfl⟩)
      rw [if_pos rfl] at h9
      exact h9
end Go.Proofs.Ythionhliokhcgaa
