/- Content: Truncate's walk. -/
import Derived.Test.YthionhliokhcgaaCm
namespace Go.Proofs.Ythionhliokhcgaa
open Go.RowKit Go.Shelf

attribute [local go_sem] Oper.semAt_some

def NoE (_ : Nat) (_ : World) : Prop := True
theorem noE_keeps {D : Nat} {av : Value} {b : Bas} : Keeps D av b NoE := fun _ _ _ _ _ _ _ => trivial
set_option maxRecDepth 100000 in
set_option maxHeartbeats 16000000 in
theorem ctrunc_any {w : World} {B D : Nat} {vs : List Value} {m : List B8} {bad : Nat} {av : Value} {aq : List Nat} (h : ShW w B D vs m bad av aq) (hm : ∀ l ∈ m, l.length ≤ 512) (hB : B ≤ w.heap.size) (hq : aq.length + 100 < 1000000) (sz X : Nat) (hsz : sz ≤ 32768) (hX : X < sz) :
    Calls Try.prog 9 #[shC D, .int .u32 (sz : Int), .int .i64 (X : Int)] w (CTrPost w B D vs m bad av aq sz X) := by
  have HSH := Lib.hid h; have HM := Lib.hid hm; have HB := Lib.hid hB; have HQ := Lib.hid hq; have HSZ := Lib.hid hsz
  generalize hPost : CTrPost w B D vs m bad av aq sz X = Post
  have HP : Hid (∀ n er v z W, Ran bad wtP X (trTe sz) n er → CEnd w B D vs m bad av (aq ++ ranQ wtP X (trTe sz) n er) W → (if er = true then v = .slice none 0 0 ∧ z = 0 else z = X ∧ ChAt W w.heap.size v (trU m X (trTe sz) n)) → Post (.returned (.tuple #[v, .int .u32 ((z : Nat) : Int), .int .i64 (if er = true then 21 else 0)])) W) := Lib.hid fun n er v z W h1 h2 h3 => by rw [← hPost]; exact ⟨n, er, v, z, h1, h2, rfl, h3⟩
  obtain ⟨te, hte⟩ : ∃ te, trTe sz = te := ⟨_, rfl⟩
  rw [hte] at HP
  unfold trTe at hte
  have HTE : Hid (te ≤ 32768 ∧ X < te) := Lib.hid (by omega)
  obtain ⟨c1, hc1⟩ : ∃ c, (sz + 511) / 512 = c := ⟨_, rfl⟩
  obtain ⟨c2, hc2⟩ : ∃ c, (te - X + 511) / 512 = c := ⟨_, rfl⟩
  rw [hc1] at hte
  have HC1 := Lib.hid hc1; have HC2 := Lib.hid hc2
  have hr0 : refN (X : Int) 0 = 0 := by unfold refN; rw [if_neg (by omega)]
  have HR0 := Lib.hid hr0
  have e1 : ¬ ((32768 : Int) < (X : Int)) := by omega
  have e2 : ¬ ((sz : Int) ≤ (X : Int)) := by omega
  have e2' : ¬ sz ≤ X := by omega
  have e3 : (c1 : Int) * 512 = (te : Int) := by omega
  have e4 : (te : Int) - (X : Int) = ((te - X : Nat) : Int) := by have := HTE.out; omega
  have w1 : IntKind.u64.wrap (X : Int) = (X : Int) := by rw [IntKind.wrap_u64]; omega
  have w2 : IntKind.u64.wrap (sz : Int) = (sz : Int) := by rw [IntKind.wrap_u64]; omega
  have w3 : IntKind.u64.wrap (te : Int) = (te : Int) := by rw [IntKind.wrap_u64]; have := HTE.out; omega
  have w4 : IntKind.u64.wrap ((te - X : Nat) : Int) = ((te - X : Nat) : Int) := by rw [IntKind.wrap_u64]; have := HTE.out; omega
  have w5 : IntKind.u32.wrap (X : Int) = (X : Int) := by rw [IntKind.wrap_u32]; omega
  have b1 : (X : Int) ≤ 32768 := by omega
  have HE3 := Lib.hid e3; have HE4 := Lib.hid e4
  have HX : Hid (X < sz) := Lib.hid hX
  have HCC : Hid (c2 ≤ 100) := Lib.hid (by have := HTE.out; omega)
  have HTX : Hid (te - X ≤ 4294967296) := Lib.hid (by have := HTE.out; omega)
  clear h hm hB hq hsz hX hPost hr0 hte hc1 hc2 e3 e4
  refine callsIn_wide.1 (callsIn_of_wp_marks (F := Fence.wide) (n := 5) Try.func9 rfl trivial ?_ rfl)
  refine wpIn_wide.2 ?_
  simp only [Try.ntmps9, List.size_toArray, List.length_cons, List.length_nil, Nat.reduceAdd, Nat.reduceSub, Array.replicate_succ, Array.replicate_zero, List.push_toArray, List.append_toArray, List.nil_append, List.cons_append]
  go_upto_region 1 with fail
  obtain ⟨W0, hW0⟩ : ∃ W0, ((w.alloc (.cells #[.slice none 0 0] 35)).alloc (.cells #[.int .u32 0] 34)).alloc (.cells #[.int .i64 0] 36) = W0 := ⟨_, rfl⟩
  rw [hW0]
  have hb0 : Below w.heap.size w W0 := by
    rw [← hW0]; exact (((Below.refl _ _).alloc (Nat.le_refl _) _).alloc (by simp) _).alloc (by simp; omega) _
  have hz0 : W0.heap.size = w.heap.size + 3 := by rw [← hW0]; simp
  have hk8 : Blk W0 w.heap.size [.slice none 0 0] 35 := by rw [← hW0]; exact ((Blk.new' _ _ _ _ _ rfl rfl).alloc _).alloc _
  have hk9 : Blk W0 (w.heap.size + 1) [.int .u32 0] 34 := by rw [← hW0]; exact (Blk.new' _ _ _ _ _ (by simp) rfl).alloc _
  have hk10 : Blk W0 (w.heap.size + 1 + 1) [.int .i64 0] 36 := by rw [← hW0]; exact Blk.new' _ _ _ _ _ (by simp) rfl
  have HB0 := Lib.hid hb0; have HK8 := Lib.hid hk8; have HK9 := Lib.hid hk9; have HK10 := Lib.hid hk10; have HZ0 := Lib.hid hz0
  clear hW0 hb0 hz0 hk8 hk9 hk10
  go_wp2_with fail
  refine (crefuse_any D (X : Int) 0 W0).mono ?_
  rintro e w' ⟨rfl, rfl⟩
  rw [HR0.out]
  go_upto_region 8 with fail
  go_wp2_with fail
  refine (ccount_any sz (by have := HSZ.out; omega) W0).mono ?_
  rintro e w' ⟨rfl, rfl⟩
  rw [HC1.out]
  have e3 := HE3.out
  go_upto_region 9 with fail
  clear e3
  have e4 := HE4.out
  go_wp2_with fail
  refine (ccount_any (te - X) HTX.out W0).mono ?_
  rintro e w' ⟨rfl, rfl⟩
  rw [HC2.out]
  obtain ⟨i0, zz, hi0, hz0, hz1, hz2, hz3⟩ := info_partsH
  go_upto_region 10 with (first | (refine wpList_make_own _ rfl (.const (.int .i64 0)) (.tmp 38) 35 rfl w.heap.size 47 i0 zz 2 Try.underlying35 hi0 hz0 hz2 .i64 .u64 (c2 : Int) c2 rfl rfl rfl (by rw [hz3]; have := HCC.out; omega) (by unfold maxLen; have := HCC.out; omega) HB0.out.size ?_; intro W2 ho2 hg2; have HO2 := Lib.hid ho2; have HG2 := Lib.hid hg2; clear ho2 hg2) | fail)
  clear e1 e2 e2' e4 w2 w4 b1 hi0 hz0 hz1 hz2 hz3
  have hgb : Below W0.heap.size W0 W2 := (Below.refl _ _).grown HG2.out (Nat.le_refl _) (fun k e => by cases e)
  have hk13 : Blk (W2.alloc (.cells #[.slice (some ⟨W0.heap.size, 0, none⟩) 0 c2] 35)) W2.heap.size [.slice (some ⟨W0.heap.size, 0, none⟩) 0 c2] 35 := Blk.new' _ _ _ _ _ rfl rfl
  have hbA : Below W2.heap.size W2 (W2.alloc (.cells #[.slice (some ⟨W0.heap.size, 0, none⟩) 0 c2] 35)) := (Below.refl _ _).alloc (Nat.le_refl _) _
  have hbB : Below W0.heap.size W0 (W2.alloc (.cells #[.slice (some ⟨W0.heap.size, 0, none⟩) 0 c2] 35)) := hgb.trans (hbA.mono hgb.size)
  have hb1 := HB0.out.trans (hbB.mono HB0.out.size)
  have hk8 := HK8.out.below hbB HK8.out.lt
  have hk9 := HK9.out.below hbB HK9.out.lt
  have hk10 := HK10.out.below hbB HK10.out.lt
  have hch : ChAt (W2.alloc (.cells #[.slice (some ⟨W0.heap.size, 0, none⟩) 0 c2] 35)) w.heap.size (.slice (some ⟨W0.heap.size, 0, none⟩) 0 c2) [] :=
    ⟨[], rfl, c_owns_chg HO2.out (Chg.of_below (F := fun _ => False) hbA) (fun _ _ h => h), fun i r c h => by simp at h⟩
  obtain ⟨cv0, hcv0⟩ : ∃ v, Value.slice (some ⟨W0.heap.size, 0, none⟩) 0 c2 = v := ⟨_, rfl⟩
  rw [hcv0] at hk13 hb1 hk8 hk9 hk10 hch
  simp only [hcv0]
  obtain ⟨W1, hW1⟩ : ∃ W, W2.alloc (.cells #[cv0] 35) = W := ⟨_, rfl⟩
  have hz0 : w.heap.size + 3 ≤ W2.heap.size := by rw [← HZ0.out]; exact hgb.size
  obtain ⟨g13, hg13⟩ : ∃ g, W2.heap.size = g := ⟨_, rfl⟩
  rw [hg13] at hk13 hz0 ⊢
  rw [hW1] at hb1 hk8 hk9 hk10 hk13 hch ⊢
  have HB1 := Lib.hid hb1; have HK8 := Lib.hid hk8; have HK9 := Lib.hid hk9; have HK10 := Lib.hid hk10; have HK13 := Lib.hid hk13; have HCH := Lib.hid hch; have HZ := Lib.hid hz0
  clear hgb hbA hbB hW1 hg13 hb1 hk8 hk9 hk10 hk13 hch hz0 hcv0 HZ0 HB0 HO2 HG2
  go_wp2_with fail
  refine (cpieces_any D X te 15 W1).mono ?_
  rintro e wS ⟨rfl, hwS⟩
  obtain ⟨hcs, hbS⟩ := cst_start HSH.out HB.out HB1.out X te 15 hwS
  have HBS : Hid (Below w.heap.size w wS) := Lib.hid (HB1.out.trans (hbS.mono HB1.out.size))
  have HSZS : Hid (W1.heap.size + 3 < wS.heap.size) := Lib.hid hcs.gl
  have HGW : Hid (g13 < W1.heap.size) := Lib.hid HK13.out.lt
  have HWB : Hid (WtB w wS.heap.size w.heap.size (w.heap.size + 1) (w.heap.size + 1 + 1) g13) := Lib.hid (by
    have := HSZS.out; have := HZ.out; have := HGW.out
    exact ⟨by omega, by omega, by omega, by omega, by omega, by omega, by omega⟩)
  have HWS : Hid (w.heap.size ≤ wS.heap.size) := Lib.hid HBS.out.size
  have HH0 : Hid (HdJ ⟨w, wS.heap.size⟩ B D W1.heap.size vs m bad av wtP X te 15 aq (WtK w.heap.size w.heap.size (w.heap.size + 1) (w.heap.size + 1 + 1) g13 (trU m X te) NoE) 0 wS) := Lib.hid ⟨by rw [show askU wtP X te 0 = [] from rfl, List.append_nil]; exact hcs, ⟨fun j hj => by omega⟩, ⟨HK8.out.below hbS HK8.out.lt, HK9.out.below hbS HK9.out.lt, HK10.out.below hbS HK10.out.lt, ⟨cv0, HK13.out.below hbS HK13.out.lt, HCH.out.below hbS⟩, trivial⟩⟩
  have HKK : Hid (Keeps D av ⟨w, wS.heap.size⟩ (WtK w.heap.size w.heap.size (w.heap.size + 1) (w.heap.size + 1 + 1) g13 (trU m X te) NoE)) := Lib.hid (wtK_keeps HWB.out.h9 HSH.out.d.lt (fun g hg => c_owns_lt HSH.out.q hg) noE_keeps)
  obtain ⟨G, hG⟩ : ∃ G, W1.heap.size = G := ⟨_, rfl⟩
  rw [hG] at HH0 HSZS HGW
  simp only [hG]
  clear hG hcs hbS hwS HK8 HK9 HK10 HK13 HB1 HCH
  go_wp2_with fail
  refine (wpIn_wide (n := 5)).1 ?_
  apply (wpIn_rangeFunc_w (n := 5) (w := wS) (α := Nat) rfl (by omega) (gf := 19) (lb := #[.pointer (some ⟨G + 1, 0, none⟩), .pointer (some ⟨G + 1 + 1, 0, none⟩), .pointer (some ⟨G + 1 + 1 + 1, 0, none⟩), .pointer (some ⟨G, 0, none⟩)]) rfl trivial (enters_of Try.func19 (by kernel_rfl) rfl)
    (encs := fun i => ycE (yc vs bad wtP X te i)) (fun _ => rfl)
    (fun pre A => pre = List.range pre.length ∧ HdJ ⟨w, wS.heap.size⟩ B D G vs m bad av wtP X te 15 aq (WtK w.heap.size w.heap.size (w.heap.size + 1) (w.heap.size + 1 + 1) g13 (trU m X te) NoE) pre.length A)
    (fun pre x A => pre = List.range pre.length ∧ x = pre.length ∧ HdJ1 ⟨w, wS.heap.size⟩ B D G vs m bad av wtP X te 15 aq (WtK w.heap.size w.heap.size (w.heap.size + 1) (w.heap.size + 1 + 1) g13 (trU m X te) NoE) x A)
    (HdJ2 ⟨w, wS.heap.size⟩ B D G vs m bad av wtP X te 15 aq (WtK w.heap.size w.heap.size (w.heap.size + 1) (w.heap.size + 1 + 1) g13 (trU m X te) NoE) _)
    (fun c pre A => c = .ret ∧ ∃ i, Ran bad wtP X te i true ∧ Cst ⟨w, wS.heap.size⟩ B D G vs m bad av X te 15 (aq ++ askU wtP X te (i + 1)) A ∧ Blk A w.heap.size [.slice none 0 0] 35 ∧ Blk A (w.heap.size + 1) [.int .u32 0] 34 ∧ Blk A (w.heap.size + 1 + 1) [.int .i64 21] 36)
    (hdJ_own HKK.out) (hdJ2_own HKK.out _) ?own ⟨rfl, HH0.out⟩
    (pieces_in 4 (by omega) (by have := HTE.out; omega) HTE.out.1 part_ok (enters_of Try.func15 (by kernel_rfl) rfl) HQ.out _ _ (fun i A h => h.c) (hdJ_ask HKK.out)) ?assign ?body ?done ?stop)
  case assign =>
    intro l pre x W K ⟨hpre, hx, hJ⟩ hKf
    have HX : Hid (pre = List.range x) := Lib.hid (by rw [hx]; exact hpre)
    have HJ := Lib.hid hJ
    have HKF := Lib.hid hKf
    have HONE : Hid ((pcC (yc vs bad wtP X te x).o (yc vs bad wtP X te x).f (yc vs bad wtP X te x).t (yc vs bad wtP X te x).v).toArray.all (·.oneCell') = true) := Lib.hid (by
      obtain ⟨av', h1, -⟩ := hJ.c.sh
      exact pc_one (yc_v h1 wtP X te x (pcO_lt hJ.l HTE.out.1)))
    clear hpre hx hJ hKf
    unfold ycE
    refine wpIn_seq ?_
    refine c_regionL 11 (by kernel_rfl) (fun ⟨_, _, h⟩ => h) ?_
    go_wp2_with (first | (refine wpList_store_row rfl 56 (.tmp 12) (.tmp 45) rfl W.heap.size (pcC (yc vs bad wtP X te x).o (yc vs bad wtP X te x).f (yc vs bad wtP X te x).t (yc vs bad wtP X te x).v).toArray rfl rfl 56 _ (heap_alloc_new W _) sizePc rfl HONE.out ?_) | fail)
    gi_wp2
    have h5 := c_row1 W #[.int .u32 0, .int .i64 0, .int .i64 0, .slice none 0 0] (pcC (yc vs bad wtP X te x).o (yc vs bad wtP X te x).f (yc vs bad wtP X te x).t (yc vs bad wtP X te x).v) 56
    obtain ⟨X5, hX5⟩ : ∃ X5, (W.alloc (.cells #[.int .u32 0, .int .i64 0, .int .i64 0, .slice none 0 0] 56)).setRow W.heap.size (pcC (yc vs bad wtP X te x).o (yc vs bad wtP X te x).f (yc vs bad wtP X te x).t (yc vs bad wtP X te x).v).toArray = X5 := ⟨_, rfl⟩
    rw [hX5] at h5 ⊢
    clear hX5
    have hws : wS.heap.size ≤ W.heap.size := HJ.out.c.size
    obtain ⟨g, hg⟩ : ∃ g, W.heap.size = g := ⟨_, rfl⟩
    rw [hg] at hws ⊢
    refine HKF.out _ _ (KeepsFrom.of_below h5.2) ⟨g, rfl, HX.out, hws, ?_, HJ.out.below HKK.out h5.2⟩
    rw [← hg]
    exact h5.1
  case own =>
    exact fun c s A A' row ⟨h1, i, h2, h3, h4, h5, h6⟩ hg hr => ⟨h1, i, h2, h3.grown hg hr, blk_grown hg (fun r e => (hr r e).2) h4, blk_grown hg (fun r e => (hr r e).2) h5, blk_grown hg (fun r e => (hr r e).2) h6⟩
  case body =>
    rintro l pre x a' W ⟨g, rfl, hpre, hgs, hbx, hJ⟩
    have HX2 := Lib.hid hpre; have HJ := Lib.hid hJ; have HBX := Lib.hid hbx; have HGS := Lib.hid hgs
    have c8 := hJ.k.b8.cell (j := 0) rfl
    have q8 := hJ.k.b8.free 0
    have c9 := hJ.k.b9.cell (j := 0) rfl
    have q9 := hJ.k.b9.free 0
    have c10 := hJ.k.b10.cell (j := 0) rfl
    have q10 := hJ.k.b10.free 0
    clear hpre hgs hbx hJ
    rcases yc_e vs bad wtP X te x with ⟨he, hok⟩ | ⟨he, hw, hbad⟩
    · have he2 : (((yc vs bad wtP X te x).e : Nat) : Int) = 0 := by rw [he]; rfl
      have hye := yc_ok he
      have HYE := Lib.hid hye
      have HE := Lib.hid he
      dsimp only
      rw [he2]
      clear c8 q8 c9 q9 c10 q10 he2 he hok hye
      have hK : pcO X x < 64 := pcO_lt HJ.out.l HTE.out.1
      obtain ⟨f1, f2, f3, f4, f5⟩ := pc_facts HJ.out.l
      have hT := pcT_le X te x
      obtain ⟨av', k1, -⟩ := HJ.out.c.sh
      have hrow := yc_row k1 hK
      obtain ⟨spv, capv, hvf, hcv, -, -, -⟩ := OwnB.form hrow
      have hbx := HBX.out
      rw [HYE.out] at hbx
      have hlm : (m.getD (pcO X x) []).length ≤ 512 := getD_le HM.out _
      have hIx : trI m X te x = if wtP (pcF X x) (pcT X te x) = true then (if m.getD (pcO X x) [] = [] then [] else [(pcO X x, splice (padL (m.getD (pcO X x) [])) (pcF X x) (List.replicate (pcT X te x - pcF X x) 0))]) else [(pcO X x, [])] := rfl
      have hlen : (trU m X te x).length < 1000 := by
        have h0 := trU_len m X te x
        have h1 := HJ.out.l
        have h2 := HTE.out.1
        have h3 : pcA X x = 512 * pcO X x + pcF X x := pcA_eq X x
        have h4 : pcO X x = X / 512 + x := rfl
        omega
      have HLEN := Lib.hid hlen
      obtain ⟨lf, hlf⟩ : ∃ l, m.getD (pcO X x) [] = l := ⟨_, rfl⟩
      rw [hlf] at hrow hvf hcv hlm hIx
      rw [hvf] at hbx hrow
      obtain ⟨K, hKK⟩ : ∃ a, pcO X x = a := ⟨_, rfl⟩
      obtain ⟨f, hf⟩ : ∃ a, pcF X x = a := ⟨_, rfl⟩
      obtain ⟨t, ht⟩ : ∃ a, pcT X te x = a := ⟨_, rfl⟩
      rw [hKK, hf, ht] at hbx hIx
      rw [hf] at f3 f5
      rw [ht] at f5 hT
      have HIX := Lib.hid hIx; have HROW := Lib.hid hrow; have HLM := Lib.hid hlm; have HT2 := Lib.hid (And.intro hT (And.intro f3 f5))
      clear hvf hcv hlm hIx hrow f1 f2 f4 hK hlen hlf hKK hf ht k1 hT f3 f5
      cases hw : wtP f t
      · -- a whole piece: a hole
        rw [hw, if_neg (by simp)] at hbx
        rw [hw, if_neg (by simp)] at HIX
        have HBX2 := Lib.hid hbx
        have HW := Lib.hid hw
        clear hbx hw
        gi_wp2_with (first | (refine c_listAt 52 rfl (by kernel_rfl) (fun ⟨_, _, h⟩ => h) ?_) | fail)
        go_wp2_with (first | (refine c_val rfl (c_ldPc HBX2.out rfl rfl) ?_) | fail)
        refine (part_ok K f t _ (by have := HT2.out; omega) HT2.out.1 W).mono ?_
        rintro e A1 ⟨rfl, hA1⟩
        have hb1 : Below W.heap.size W A1 := by rw [hA1]; exact (Below.refl _ _).alloc (Nat.le_refl _) _
        have HBX3 := Lib.hid (HBX2.out.below hb1 HBX2.out.lt)
        have HJ1 := Lib.hid (HJ.out.below HKK.out hb1)
        have HKF1 : Hid (KeepsFrom wS.heap.size W A1) := Lib.hid (KeepsFrom.of_below hb1)
        rw [HW.out]
        clear hA1 hb1
        obtain ⟨cv, h13, hch⟩ := HJ1.out.k.b13
        obtain ⟨sp2, cap2, hcvf, -⟩ := hch.form
        obtain ⟨spn, nn, capn, W4, hr4, ⟨_, hc4⟩, hf4, hk4, hC4, hkf4⟩ := wt_app (x := x) (cs := trU m X te) (E := NoE) (A1 := A1) (u := .slice none 0 0) HWB.out rfl (fun _ _ _ => trivial) (Nat.le_trans HWS.out HJ1.out.c.size) HJ1.out.c HJ1.out.k.b8 HJ1.out.k.b9 HJ1.out.k.b10 h13 hch trivial K [] (by rw [trU_succ, HIX.out]) HLEN.out ⟨rfl, .inl ⟨rfl, rfl⟩⟩
        obtain ⟨cn, hcn⟩ : ∃ n, (trU m X te x).length = n := ⟨_, rfl⟩
        rw [hcn] at hcvf
        subst hcvf
        have c13 := h13.cell (j := 0) rfl
        have p0 := HBX3.out.cell (j := 0) rfl
        have HR4 := Lib.hid hr4; have HK4 := Lib.hid hk4; have HC4 := Lib.hid hC4; have HKF4 := Lib.hid hkf4; have HCE4 := Lib.hid hc4; have HF4 := Lib.hid hf4
        clear hr4 hk4 hC4 hkf4 hc4 hf4 hcn h13 hch
        go_wp2_with fail
        gi_wp2_with (first | (refine c_listAt 55 rfl (by kernel_rfl) (fun ⟨_, _, h⟩ => h) ?_) | fail)
        go_wp2_with (first | (refine c_val rfl (c_oneH (c := (K, .slice none 0 0)) rfl rfl) ?_) | (at_builtin; refine c_val rfl (c_appH rfl rfl rfl HR4.out) ?_; have cg4 := HCE4.out; have fg4 := HF4.out) | fail)
        refine ⟨HKF1.out.trans HKF4.out, ?_⟩
        rw [HX2.out]
        simp only [List.length_append, List.length_range, List.length_cons, List.length_nil, Nat.zero_add]
        exact ⟨List.range_succ.symm, HC4.out, HJ.out.p.succ HJ.out.l HE.out, HK4.out⟩
      · rw [hw, if_pos rfl] at hbx
        rw [hw, if_pos rfl] at HIX
        obtain ⟨LN, hLN⟩ : ∃ n, lf.length = n := ⟨_, rfl⟩
        rw [hLN] at hbx HROW
        have HLN := Lib.hid hLN
        have HBX2 := Lib.hid hbx
        have HW := Lib.hid hw
        clear hbx hw hLN
        gi_wp2_with (first | (refine c_listAt 52 rfl (by kernel_rfl) (fun ⟨_, _, h⟩ => h) ?_) | fail)
        go_wp2_with (first | (refine c_val rfl (c_ldPc HBX2.out rfl rfl) ?_) | fail)
        refine (part_ok K f t _ (by have := HT2.out; omega) HT2.out.1 W).mono ?_
        rintro e A1 ⟨rfl, hA1⟩
        have hb1 : Below W.heap.size W A1 := by rw [hA1]; exact (Below.refl _ _).alloc (Nat.le_refl _) _
        have HBX3 := Lib.hid (HBX2.out.below hb1 HBX2.out.lt)
        have HJ1 := Lib.hid (HJ.out.below HKK.out hb1)
        have HB1 := Lib.hid hb1
        have HKF1 : Hid (KeepsFrom wS.heap.size W A1) := Lib.hid (KeepsFrom.of_below hb1)
        have HROW1 := Lib.hid (OwnB.below HROW.out hb1 (Nat.le_refl _))
        rw [HW.out]
        clear hA1 hb1 HROW
        have p3 := HBX3.out.cell (j := 3) rfl
        rcases Nat.eq_zero_or_pos LN with h0 | h0
        · have hlf0 : lf = [] := List.eq_nil_of_length_eq_zero (by rw [HLN.out]; exact h0)
          rw [if_pos hlf0] at HIX
          subst h0
          clear hlf0
          go_wp2_with fail
          gi_wp2_with fail
          have hk := HJ1.out.k
          have hk2 : WtK w.heap.size w.heap.size (w.heap.size + 1) (w.heap.size + 1 + 1) g13 (trU m X te) NoE (x + 1) A1 := ⟨hk.b8, hk.b9, hk.b10, by rw [trU_succ, HIX.out, List.append_nil]; exact hk.b13, trivial⟩
          refine ⟨HKF1.out, ?_⟩
          rw [HX2.out]
          simp only [List.length_append, List.length_range, List.length_cons, List.length_nil, Nat.zero_add]
          exact ⟨List.range_succ.symm, HJ1.out.c, HJ.out.p.succ HJ.out.l HE.out, hk2⟩
        · rw [if_neg (fun e => by rw [e] at HLN; have := HLN.out; simp at this; omega)] at HIX
          have HBLK := Lib.hid (cblock_any K f t _ lf HLM.out A1 HROW1.out)
          have h0i : (0 : Int) < (LN : Int) := by omega
          go_wp2_with fail
          gi_wp2_with (first | (refine c_listAt 66 rfl (by kernel_rfl) (fun ⟨_, _, h⟩ => h) ?_) | fail)
          clear h0i p3
          go_wp2_with (first | (refine c_val rfl (c_ldPc HBX3.out rfl rfl) ?_) | fail)
          refine HBLK.out.mono ?_
          rintro e A2 ⟨gb, rfl, hgb, hge, hb2⟩
          obtain ⟨A3, hcl, hb3, ho3⟩ := tr_clear (W := A1) (f := f) (t := t) hb2 hgb hge HLM.out HT2.out.2.2 HT2.out.1 0
          have HBX4 := Lib.hid (HBX3.out.below hb2 HBX3.out.lt)
          have HJ3 := Lib.hid (HJ1.out.below HKK.out hb3)
          have HBX5 := Lib.hid (HBX3.out.below hb3 HBX3.out.lt)
          have HKF3 : Hid (KeepsFrom wS.heap.size W A3) := Lib.hid (HKF1.out.trans (KeepsFrom.of_below hb3))
          have HU : Hid (OwnB A3 w.heap.size (.slice (some ⟨gb, 0, none⟩) 512 512) (splice (padL lf) f (List.replicate (t - f) 0))) := Lib.hid (ho3 _ (by
            have h1 := HWS.out
            have h2 : wS.heap.size ≤ A1.heap.size := HJ1.out.c.size
            omega))
          have HCL := Lib.hid hcl
          clear hgb hge hb2 hcl hb3 ho3 HBLK
          obtain ⟨cv, h13, hch⟩ := HJ3.out.k.b13
          obtain ⟨sp2, cap2, hcvf, -⟩ := hch.form
          obtain ⟨spn, nn, capn, W4, hr4, ⟨_, hc4⟩, hf4, hk4, hC4, hkf4⟩ := wt_app (x := x) (cs := trU m X te) (E := NoE) (A1 := A3) (u := .slice (some ⟨gb, 0, none⟩) 512 512) HWB.out rfl (fun _ _ _ => trivial) (Nat.le_trans HWS.out HJ3.out.c.size) HJ3.out.c HJ3.out.k.b8 HJ3.out.k.b9 HJ3.out.k.b10 h13 hch trivial K _ (by rw [trU_succ, HIX.out]) HLEN.out HU.out
          obtain ⟨cn, hcn⟩ : ∃ n, (trU m X te x).length = n := ⟨_, rfl⟩
          rw [hcn] at hcvf
          subst hcvf
          have c13 := h13.cell (j := 0) rfl
          have p1 := HBX4.out.cell (j := 1) rfl
          have p2 := HBX4.out.cell (j := 2) rfl
          have p0 := HBX5.out.cell (j := 0) rfl
          have HR4 := Lib.hid hr4; have HK4 := Lib.hid hk4; have HC4 := Lib.hid hC4; have HKF4 := Lib.hid hkf4; have HCE4 := Lib.hid hc4; have HF4 := Lib.hid hf4
          clear hr4 hk4 hC4 hkf4 hc4 hf4 hcn h13 hch
          go_wp2_with fail
          gi_wp2_with (first | (refine c_listAt 70 rfl (by kernel_rfl) (fun ⟨_, _, h⟩ => h) ?_) | fail)
          go_wp2_with (first | (refine c_val rfl (c_slB rfl rfl rfl rfl (by have := HT2.out; omega) HT2.out.1 HT2.out.2.1) ?_) | (refine c_val rfl (c_exClear rfl rfl HCL.out) ?_) | fail)
          gi_wp2_with (first | (refine c_listAt 74 rfl (by kernel_rfl) (fun ⟨_, _, h⟩ => h) ?_) | fail)
          go_wp2_with (first | (refine c_val rfl (c_oneH (c := (K, .slice (some ⟨gb, 0, none⟩) 512 512)) rfl rfl) ?_) | (at_builtin; refine c_val rfl (c_appH rfl rfl rfl HR4.out) ?_; have cg4 := HCE4.out; have fg4 := HF4.out) | fail)
          refine ⟨HKF3.out.trans HKF4.out, ?_⟩
          rw [HX2.out]
          simp only [List.length_append, List.length_range, List.length_cons, List.length_nil, Nat.zero_add]
          exact ⟨List.range_succ.symm, HC4.out, HJ.out.p.succ HJ.out.l HE.out, HK4.out⟩
    · have he2 : (((yc vs bad wtP X te x).e : Nat) : Int) = 21 := by rw [he]; rfl
      have HE := Lib.hid he
      dsimp only
      rw [he2]
      clear he he2 hw hbad
      gi_wp2
      obtain ⟨k1, k2⟩ := wt_err HWB.out HJ.out (by rw [HE.out]; simp)
      unfold errW at k1 k2
      exact ⟨k1, rfl, k2⟩
  case done =>
    intro Dd ys W hD hS ⟨hys, hJ⟩ hK
    have hno : te ≤ pcA X ys.length := by
      rcases hS with h | ⟨i, h1, h2⟩
      · exact h
      · exact absurd (hJ.p.all i h1).2 h2
    have hran := hJ.p.ran hno
    obtain ⟨spc, capc, c13, hK2, hX⟩ := wt_end HWB.out rfl hJ.c hJ.k hD hK (X : Int)
    obtain ⟨nn, hnn⟩ : ∃ nn, (trU m X te ys.length).length = nn := ⟨_, rfl⟩
    rw [hnn] at c13 hK2 hX
    have c8 := hJ.k.b8.cell (j := 0) rfl
    have q8 := hJ.k.b8.free 0
    have c9 := hJ.k.b9.cell (j := 0) rfl
    have q9 := hJ.k.b9.free 0
    have c10 := hJ.k.b10.cell (j := 0) rfl
    have q10 := hJ.k.b10.free 0
    have HXX := Lib.hid hX; have HRAN := Lib.hid hran; have HK2 := Lib.hid hK2
    clear hX hran hK2 hS hys hJ hK hno hnn
    go_wp2_with fail
    obtain ⟨r1, r2, r3, r4, r5⟩ := HXX.out _ rfl
    refine ⟨by simp, .inl ⟨_, _, rfl, run_takeDeferred HK2.out, ?_⟩⟩
    refine ⟨.tuple #[.slice spc nn capc, .int .u32 (X : Int), .int .i64 0], ?_, ?_⟩
    · have c8 := r1
      have c9 := r2
      have c10 := r3
      unfold endW at c8 c9 c10
      simp [results, Try.f9, go_sem, c8, c9, c10]
    · have h9 := HP.out ys.length false (.slice spc nn capc) X _ HRAN.out r4 (by rw [if_neg (by simp)]; exact ⟨rfl, r5⟩)
      rw [if_neg (by simp)] at h9
      exact h9
  case stop =>
    rintro Dd c pre W hD - ⟨rfl, i, hran, hC, h8, h9, h10⟩ hK
    have hg := grownBy_putObj' W Dd (.deferred none)
    have hr : ∀ r, some Dd = some r → wS.heap.size ≤ r ∧ ∃ o : Obj, W.heap[r]? = some o ∧ o.isCells = false := fun r e => by cases e; exact ⟨hD, _, hK, rfl⟩
    have c8 := (blk_grown hg (fun r e => (hr r e).2) h8).cell (j := 0) rfl
    have c9 := (blk_grown hg (fun r e => (hr r e).2) h9).cell (j := 0) rfl
    have c10 := (blk_grown hg (fun r e => (hr r e).2) h10).cell (j := 0) rfl
    have HC8 := Lib.hid c8; have HC9 := Lib.hid c9; have HC10 := Lib.hid c10; have HCE := Lib.hid (hC.grown hg hr).fin; have HRAN := Lib.hid hran; have HK := Lib.hid hK
    clear hD hran hC h8 h9 h10 hK hg hr c8 c9 c10
    refine wpIn_wide.2 ?_
    go_wp2_with fail
    refine ⟨by simp, .inl ⟨_, _, rfl, run_takeDeferred HK.out, ?_⟩⟩
    refine ⟨.tuple #[.slice none 0 0, .int .u32 0, .int .i64 21], ?_, ?_⟩
    · have c8 := HC8.out
      have c9 := HC9.out
      have c10 := HC10.out
      simp [results, Try.f9, go_sem, c8, c9, c10]
    · have h9 := HP.out i true (.slice none 0 0) 0 _ HRAN.out HCE.out (by rw [if_pos rfl]; exact ⟨rfl, rfl⟩)
      rw [if_pos rfl] at h9
      exact h9
end Go.Proofs.Ythionhliokhcgaa
