/- What is given out is given out once: the law, walked. -/
import Derived.Test.YtjfedhaafdfibaaKta
import Derived.Deep.DeepCutAuto
import Derived.Deep.CutBlock
namespace Go.Proofs.Ytjfedhaafdfibaa
open Go.RowKit

def ApAt (n : Nat) (W wr : World) (D g : Nat) (B : Nat → Nat) (l : List KA) (sp : Option Addr) : Prop := ∃ sp0 To Tk Ts, Ap W wr D g B sp0 To Tk Ts l sp ∧ Says n sp0 To Tk Ts
set_option maxRecDepth 100000 in
set_option maxHeartbeats 40000000 in
theorem apart_body (n m c1 : Nat) (l : List KA) (sp : Option Addr) (W : World) (h1 : l.length = m) (hm : m ≤ 300) (hn1 : 1 ≤ n) (hn2 : n ≤ 60) (A1 : KActs W sp l) : Calls Try.prog 5 #[.int .i64 (n : Int), .slice sp m c1] W fun e w' => e = .returned (.bool true) ∧ Below W.heap.size W w' := by
  have HA1 := Lib.hid A1
  have H1 := Lib.hid h1
  have q1 : ¬ 300 < (m : Int) := by omega
  have q2 : ¬ (n : Int) < 1 := by omega
  have q3 : ¬ 60 < (n : Int) := by omega
  clear A1 h1
  go_enter Try.func5, Try.ntmps5
  go_wp2_with fail
  refine (new_any (n : Int) (n : Int) W).mono ?_
  rintro e w1 ⟨hb1, _, hy⟩
  obtain ⟨B, rfl, h1, hB⟩ := hy ⟨⟨by omega, by omega⟩, ⟨by omega, by omega⟩⟩
  have HL : Hid (Live W w1 W.heap.size B (freshS (n - 1) (n - 1))) := Lib.hid ⟨by rw [show ((n : Int) - 1).toNat = n - 1 by omega] at h1; exact h1, hB, hb1⟩
  clear h1 hB hb1 hy
  obtain ⟨D, hD⟩ : ∃ D, W.heap.size = D := ⟨_, rfl⟩
  have HD := Lib.hid hD
  rw [hD] at HL ⊢
  clear hD
  go_wp2_with (first | (refine wpL_allocT rfl rfl ?_; intro w2 hw2; subst hw2) | fail)
  have hA0 : Ap W (((w1.alloc (.cells (tab noT).toArray 47)).alloc (.cells (tab noT).toArray 47)).alloc (.cells (tab noT).toArray 47)) D w1.heap.size B (freshS (n - 1) (n - 1)) noT noT noT l sp := by
    have b1 : Below w1.heap.size w1 (((w1.alloc (.cells (tab noT).toArray 47)).alloc (.cells (tab noT).toArray 47)).alloc (.cells (tab noT).toArray 47)) := (((Below.refl _ _).alloc (Nat.le_refl _) _).alloc (by simp) _).alloc (by simp; omega) _
    exact ⟨HL.out.below b1, ((Blk.new w1 (tab noT) 47).alloc _).alloc _, (Blk.new' _ _ _ _ _ (by simp) rfl : Blk ((w1.alloc (.cells (tab noT).toArray 47)).alloc (.cells (tab noT).toArray 47)) (w1.heap.size + 1) (tab noT) 47).alloc _, Blk.new' _ _ _ _ _ (by simp) rfl, HL.out.bel.size, (HA1.out.below HL.out.bel (Nat.le_refl _)).below b1 (Nat.le_refl _)⟩
  generalize (((w1.alloc (.cells (tab noT).toArray 47)).alloc (.cells (tab noT).toArray 47)).alloc (.cells (tab noT).toArray 47)) = w2 at hA0 ⊢
  have HA0 := Lib.hid hA0
  clear hA0 HL
  obtain ⟨g, hg⟩ : ∃ g, w1.heap.size = g := ⟨_, rfl⟩
  rw [hg] at HA0 ⊢
  clear hg
  rw [show g + 1 + 1 = g + 2 from rfl]
  have HS0 := Lib.hid (Says.fresh hn1)
  go_loopw [10] (fun i wr => ∃ j : Nat, j ≤ m ∧ i = .int .i64 (j : Int) ∧ ApAt n W wr D g B l sp) (fun i _ => m - (intOf i).toNat)
  case atStart => exact ⟨0, by omega, rfl, _, _, _, _, HA0.out, HS0.out⟩
  case round =>
    clear HA0 HS0
    obtain ⟨j, hj, rfl, sp0, To, Tk, Ts, hA, hS⟩ := hrel
    have wj := IntWalk.i64_in ((j : Int) + 1) (by omega)
    have HA := Lib.hid hA; have HS := Lib.hid hS
    clear hA hS
    by_cases hlt : j < m
    · obtain ⟨x, hx⟩ : ∃ x, l[j]? = some x := ⟨_, List.getElem?_eq_getElem (by rw [H1.out]; exact hlt)⟩
      have hok := HA1.out.1 x (List.mem_of_getElem? hx)
      obtain ⟨ga, oa, he, hga, hca⟩ := HA.out.acts.2 (by rw [H1.out]; omega)
      subst he
      have c0 : wr.cell? ⟨ga, oa + j * 3, none⟩ = some (.int .u8 (x.what : Int)) := hca j x hx 0 _ rfl
      have c1 := hca j x hx 1 _ rfl
      have c2 := hca j x hx 2 _ rfl
      have HX := Lib.hid hx
      obtain ⟨ox1, ox2, ox3, ox4⟩ := hok
      clear hx hca
      by_cases hd1 : x.disk < 0
      · skip
        as_aux_lemma =>
          go_wp2_with fail
          go_roundw
          case rel => exact ⟨j + 1, by omega, by go_num, _, _, _, _, HA.out.below ((Below.refl _ _).alloc (Nat.le_refl _) _), HS.out⟩
          case measure => simp [intOf]; omega
      · by_cases hd2 : 1 < x.disk
        · skip
          as_aux_lemma =>
            go_wp2_with fail
            go_roundw
            case rel => exact ⟨j + 1, by omega, by go_num, _, _, _, _, HA.out.below ((Below.refl _ _).alloc (Nat.le_refl _) _), HS.out⟩
            case measure => simp [intOf]; omega
        · skip
          obtain ⟨d, hd⟩ : ∃ d : Nat, x.disk = (d : Int) := ⟨x.disk.toNat, by omega⟩
          obtain ⟨ad, had⟩ : ∃ ad : Nat, x.addr = ad := ⟨_, rfl⟩
          obtain ⟨wh, hwh⟩ : ∃ wh : Nat, x.what = wh := ⟨_, rfl⟩
          rw [hd] at hd1 hd2 ox2 ox3 c1
          rw [had] at ox4 c2
          rw [hwh] at ox1 c0
          clear hd had hwh HX
          have hd3 : d < 2 := by omega
          have wad := IntWalk.i64_in (ad : Int) (by omega)
          go_upto_region 12 with fail
          have hX : Ap W (wr.alloc (.cells #[.int .u8 (wh : Int), .int .i64 (d : Int), .int .u16 (ad : Int)] 35)) D g B sp0 To Tk Ts l (some ⟨ga, oa, none⟩) := HA.out.below ((Below.refl _ _).alloc (Nat.le_refl _) _)
          have hbx : Blk (wr.alloc (.cells #[.int .u8 (wh : Int), .int .i64 (d : Int), .int .u16 (ad : Int)] 35)) wr.heap.size [.int .u8 (wh : Int), .int .i64 (d : Int), .int .u16 (ad : Int)] 35 := Blk.new wr [.int .u8 (wh : Int), .int .i64 (d : Int), .int .u16 (ad : Int)] 35
          generalize (wr.alloc (.cells #[.int .u8 (wh : Int), .int .i64 (d : Int), .int .u16 (ad : Int)] 35)) = X at hX hbx ⊢
          have HX := Lib.hid hX
          have HBX := Lib.hid hbx
          have a0 := hbx.cell (j := 0) rfl
          have a1 := hbx.cell (j := 1) rfl
          have a2 := hbx.cell (j := 2) rfl
          clear hX hbx c0 c1 c2 HA
          obtain ⟨gx, hgx⟩ : ∃ gx, wr.heap.size = gx := ⟨_, rfl⟩
          rw [hgx] at a0 a1 a2 HBX ⊢
          clear hgx hga
          go_quiet (fail)
          have HY : Hid (Ap W (X.drewN nq) D g B sp0 To Tk Ts l (some ⟨ga, oa, none⟩)) := Lib.hid (HX.out.below ⟨rfl, rfl, rfl, Nat.le_refl _, fun _ _ => rfl⟩)
          have HBY : Hid (Blk (X.drewN nq) gx [.int .u8 (wh : Int), .int .i64 (d : Int), .int .u16 (ad : Int)] 35) := Lib.hid (HBX.out.drewN nq)
          clear a0 a1 a2
          generalize X.drewN nq = Y at HY HBY ⊢
          have a0 := HBY.out.cell (j := 0) rfl
          have a1 := HBY.out.cell (j := 1) rfl
          have a2 := HBY.out.cell (j := 2) rfl
          have qn : ¬ (n : Int) ≤ 0 := by omega
          have hnl := HS.out.len d hd3
          clear HBX HBY HX
          go_upto_block 2 with (fail)
          go_cut [14] (fun _ wy => ApAt n W wy D g B l (some ⟨ga, oa, none⟩))
          case first =>
            by_cases z0 : wh = 0
            · have t0 : True := trivial
              as_aux_lemma =>
                obtain rfl : wh = 0 := by omega
                clear t0
                rw [show ((0 : Nat) : Int) = (0 : Int) from rfl] at a0
                go_wp2_with fail
                refine (alloc_any d D B sp0 Y HY.out.live.at' hd3).mono ?_
                cases hfs : firstF (sp0 d) with
                | none =>
                  have HNF : Hid (∀ (i : Nat) (y : Ax), i < n → (sp0 d)[i]? = some y → free? y = false) := Lib.hid fun i y _ hy => firstF_no _ hfs i y hy
                  rw [allocS_zero (allocN_none hfs), allocN_none hfs]
                  clear hfs
                  rintro e w3 ⟨rfl, h2⟩
                  have W3A := Lib.hid (HY.out.step (HA1.out) h2)
                  clear h2 HY a0 a1 a2
                  go_wp2_with fail
                  go_loop [15] (fun v => ∃ t : Nat, 1 ≤ t ∧ t ≤ n ∧ v = .int .i64 (t : Int)) (fun v => n - (intOf v).toNat)
                  case atStart => exact ⟨1, by omega, by omega, rfl⟩
                  case round =>
                    obtain ⟨t, ht1, ht2, rfl⟩ := hrel
                    have wt := IntWalk.i64_in ((t : Int) + 1) (by omega)
                    by_cases htl : t < n
                    · obtain ⟨i, rfl⟩ : ∃ i, t = i + 1 := ⟨t - 1, by omega⟩
                      obtain ⟨y, hy⟩ : ∃ y, (sp0 d)[i]? = some y := ⟨_, List.getElem?_eq_getElem (by omega)⟩
                      have hfr := HNF.out i y (by omega) hy
                      obtain ⟨y1, y2, y3, y4⟩ := HS.out.is d i y hd3 hy
                      have e1 := W3A.out.o.cell (tab_get To (show d * 61 + (i + 1) < 122 by omega))
                      have e2 := W3A.out.k.cell (tab_get Tk (show d * 61 + (i + 1) < 122 by omega))
                      have e3 := W3A.out.s.cell (tab_get Ts (show d * 61 + (i + 1) < 122 by omega))
                      rw [y2] at e1; rw [y3] at e2; rw [y4] at e3
                      have hall : (y.is == 1) = true ∨ ((y.is == 1) = false ∧ (y.is == 2) = true) ∨ ((y.is == 1) = false ∧ (y.is == 2) = false ∧ y.sick = true) := by
                        unfold free? at hfr
                        have h3 : y.is = 0 ∨ y.is = 1 ∨ y.is = 2 := by omega
                        rcases h3 with h | h | h <;> simp [h] at hfr ⊢
                        exact hfr
                      have htlim : ((i + 1 : Nat) : Int) < (n : Int) := by omega
                      clear hfr y1 y2 y3 y4 hy htl
                      rcases hall with h | ⟨h, h'⟩ | ⟨h, h', h''⟩
                      · rw [h] at e1; clear h
                        go_wp2_with fail
                        go_round
                        case rel => exact ⟨i + 1 + 1, by omega, by omega, by go_num⟩
                        case measure => simp [intOf]; omega
                      · rw [h] at e1; rw [h'] at e2; clear h h'
                        go_wp2_with fail
                        go_round
                        case rel => exact ⟨i + 1 + 1, by omega, by omega, by go_num⟩
                        case measure => simp [intOf]; omega
                      · rw [h] at e1; rw [h'] at e2; rw [h''] at e3; clear h h' h''
                        go_wp2_with fail
                        go_round
                        case rel => exact ⟨i + 1 + 1, by omega, by omega, by go_num⟩
                        case measure => simp [intOf]; omega
                    · obtain rfl : t = n := by omega
                      clear htl
                      go_wp2_with fail
                      go_meet
                      exact ⟨_, _, _, _, W3A.out, HS.out⟩
                | some kf =>
                  obtain ⟨x, hx, hfx, hnf⟩ := firstF_is _ _ hfs
                  have HNF : Hid (∀ (i : Nat) (y : Ax), i < kf → (sp0 d)[i]? = some y → free? y = false) := Lib.hid fun i y hi hy => hnf i y hi hy
                  have hkl := (List.getElem?_eq_some_iff.1 hx).1
                  rw [allocS_some hfs hx, allocN_some hfs]
                  obtain ⟨x1, x2, x3, x4⟩ := HS.out.is d kf x hd3 hx
                  have hx0 : x.is = 0 ∧ x.sick = false := by simpa [free?, and_comm] using hfx
                  have hst : Says n (put sp0 d ((sp0 d).set kf (turnA 0 1 x))) (upB To (d * 61 + (kf + 1)) true) Tk Ts := HS.out.turn hn2 hd3 hx (by simp [turnA, hx0.1]) (by simp [turnA, hx0.1]) (by rw [upB_same _ _ _ (by rw [x3]; simp [turnA, hx0.1])]) (by rw [upB_same _ _ _ (by rw [x4]; simp [turnA, hx0.1])])
                  rw [hx0.1] at x2 x3
                  rw [hx0.2] at x4
                  obtain ⟨kk, hkk⟩ : ∃ kk, kf + 1 = kk := ⟨_, rfl⟩
                  rw [hkk] at x2 x3 x4 hst ⊢
                  have hk1 : 1 ≤ kk := by omega
                  have hk2 : kk < n := by omega
                  have hk3 : kk ≤ kf + 1 := by omega
                  have HST := Lib.hid hst
                  have X2 := Lib.hid x2; have X3 := Lib.hid x3; have X4 := Lib.hid x4
                  clear hfs hnf hfx x1 x2 x3 x4 hx hx0 hkk hst
                  rintro e w3 ⟨rfl, h2⟩
                  have W3A := Lib.hid (HY.out.step (HA1.out) h2)
                  clear h2 HY a0 a1 a2
                  have e1 := W3A.out.o.cell (tab_get To (show d * 61 + kk < 122 by omega))
                  have e2 := W3A.out.k.cell (tab_get Tk (show d * 61 + kk < 122 by omega))
                  have e3 := W3A.out.s.cell (tab_get Ts (show d * 61 + kk < 122 by omega))
                  rw [X2.out] at e1; rw [X3.out] at e2; rw [X4.out] at e3
                  have fz1 := W3A.out.o.free (d * 61 + kk)
                  have wkf := IntWalk.i64_in (kk : Int) (by omega)
                  have kn : ¬ (n : Int) ≤ (kk : Int) := by omega
                  have kp : (0 : Int) < (kk : Int) := by omega
                  have kz : ((kk : Int) == 0) = false := by simp; omega
                  go_wp2_with fail
                  go_loop [15] (fun v => ∃ t : Nat, 1 ≤ t ∧ t ≤ kk ∧ v = .int .i64 (t : Int)) (fun v => kk - (intOf v).toNat)
                  case atStart => exact ⟨1, by omega, by omega, rfl⟩
                  case round =>
                    obtain ⟨t, ht1, ht2, rfl⟩ := hrel
                    have wt := IntWalk.i64_in ((t : Int) + 1) (by omega)
                    by_cases htl : t < kk
                    · obtain ⟨i, rfl⟩ : ∃ i, t = i + 1 := ⟨t - 1, by omega⟩
                      obtain ⟨y, hy⟩ : ∃ y, (sp0 d)[i]? = some y := ⟨_, List.getElem?_eq_getElem (by omega)⟩
                      have hfr := HNF.out i y (by omega) hy
                      have hltn : ((i + 1 : Nat) : Int) < (n : Int) := by omega
                      clear e1 e2 e3
                      obtain ⟨y1, y2, y3, y4⟩ := HS.out.is d i y hd3 hy
                      have e1 := W3A.out.o.cell (tab_get To (show d * 61 + (i + 1) < 122 by omega))
                      have e2 := W3A.out.k.cell (tab_get Tk (show d * 61 + (i + 1) < 122 by omega))
                      have e3 := W3A.out.s.cell (tab_get Ts (show d * 61 + (i + 1) < 122 by omega))
                      rw [y2] at e1; rw [y3] at e2; rw [y4] at e3
                      have hall : (y.is == 1) = true ∨ ((y.is == 1) = false ∧ (y.is == 2) = true) ∨ ((y.is == 1) = false ∧ (y.is == 2) = false ∧ y.sick = true) := by
                        unfold free? at hfr
                        have h3 : y.is = 0 ∨ y.is = 1 ∨ y.is = 2 := by omega
                        rcases h3 with h | h | h <;> simp [h] at hfr ⊢
                        exact hfr
                      have htlim : ((i + 1 : Nat) : Int) < (kk : Int) := by omega
                      clear hfr y1 y2 y3 y4 hy htl
                      rcases hall with h | ⟨h, h'⟩ | ⟨h, h', h''⟩
                      · rw [h] at e1; clear h
                        go_wp2_with fail
                        go_round
                        case rel => exact ⟨i + 1 + 1, by omega, by omega, by go_num⟩
                        case measure => simp [intOf]; omega
                      · rw [h] at e1; rw [h'] at e2; clear h h'
                        go_wp2_with fail
                        go_round
                        case rel => exact ⟨i + 1 + 1, by omega, by omega, by go_num⟩
                        case measure => simp [intOf]; omega
                      · rw [h] at e1; rw [h'] at e2; rw [h''] at e3; clear h h' h''
                        go_wp2_with fail
                        go_round
                        case rel => exact ⟨i + 1 + 1, by omega, by omega, by go_num⟩
                        case measure => simp [intOf]; omega
                    · obtain rfl : t = kk := by omega
                      clear htl
                      go_wp2_with fail
                      go_meet
                      exact ⟨_, _, _, _, W3A.out.outs HA1.out _ true, HST.out⟩
            · have t0 : ((wh : Int) == 0) = false := by simp; omega
              by_cases z2 : wh = 2
              · skip
                as_aux_lemma =>
                  obtain rfl : wh = 2 := by omega
                  clear t0
                  rw [show ((2 : Nat) : Int) = (2 : Int) from rfl] at a0
                  go_wp2_with fail
                  refine (give_any d D ad B sp0 Y HY.out.live.at' hd3 ox4).mono ?_
                  rcases turn_cases sp0 d ad 1 0 with ⟨h3, h4⟩ | ⟨i, x, h5, hx, hxf, h3, h4⟩
                  · rw [h4]
                    rcases h3 with h3 | h3
                    all_goals
                      rw [h3]
                      clear h3 h4
                      rintro e w3 ⟨rfl, h2⟩
                      have W3A := Lib.hid (HY.out.step (HA1.out) h2)
                      clear h2 HY a0 a1 a2
                      go_wp2_with fail
                      go_meet
                      exact ⟨_, _, _, _, W3A.out, HS.out⟩
                  · rw [h3, h4]
                    obtain ⟨x1, x2, x3, x4⟩ := HS.out.is d i x hd3 hx
                    have hil := (List.getElem?_eq_some_iff.1 hx).1
                    have ho1 : To (d * 61 + ad) = true := by rw [h5, x2, hxf]; rfl
                    have HST : Hid (Says n (put sp0 d ((sp0 d).set i { x with is := 0 })) (upB To (d * 61 + ad) false) Tk Ts) := Lib.hid (by rw [h5]; exact HS.out.turn hn2 hd3 hx (by simp) rfl (by rw [upB_same _ _ _ (by rw [x3, hxf]; rfl)]) (by rw [upB_same _ _ _ (by rw [x4])]))
                    have had1 : 1 ≤ ad := by omega
                    have had2 : ad < n := by omega
                    clear h3 h4 h5 hx hxf x1 x2 x3 x4 hil
                    rintro e w3 ⟨rfl, h2⟩
                    have W3A := Lib.hid (HY.out.step (HA1.out) h2)
                    clear h2 HY a0 a1 a2
                    have j1 : ¬ (ad : Int) < 1 := by omega
                    have j2 : ¬ (n : Int) ≤ (ad : Int) := by omega
                    have ev := W3A.out.o.cell (tab_get To (show d * 61 + ad < 122 by omega))
                    rw [ho1] at ev
                    have fv := W3A.out.o.free (d * 61 + ad)
                    go_wp2_with fail
                    go_meet
                    exact ⟨_, _, _, _, W3A.out.outs HA1.out _ false, HST.out⟩
              · have t2 : ((wh : Int) == 2) = false := by simp; omega
                by_cases z3 : wh = 3
                · skip
                  as_aux_lemma =>
                    obtain rfl : wh = 3 := by omega
                    clear t0 t2
                    rw [show ((3 : Nat) : Int) = (3 : Int) from rfl] at a0
                    go_wp2_with fail
                    refine (hold_any d D ad B sp0 Y HY.out.live.at' hd3 ox4).mono ?_
                    rcases turn_cases sp0 d ad 1 2 with ⟨h3, h4⟩ | ⟨i, x, h5, hx, hxf, h3, h4⟩
                    · rw [h4]
                      rcases h3 with h3 | h3
                      all_goals
                        rw [h3]
                        clear h3 h4
                        rintro e w3 ⟨rfl, h2⟩
                        have W3A := Lib.hid (HY.out.step (HA1.out) h2)
                        clear h2 HY a0 a1 a2
                        go_wp2_with fail
                        go_meet
                        exact ⟨_, _, _, _, W3A.out, HS.out⟩
                    · rw [h3, h4]
                      obtain ⟨x1, x2, x3, x4⟩ := HS.out.is d i x hd3 hx
                      have hil := (List.getElem?_eq_some_iff.1 hx).1
                      have ho1 : To (d * 61 + ad) = true := by rw [h5, x2, hxf]; rfl
                      have HST : Hid (Says n (put sp0 d ((sp0 d).set i { x with is := 2 })) (upB To (d * 61 + ad) false) (upB Tk (d * 61 + ad) true) Ts) := Lib.hid (by rw [h5]; exact HS.out.turn hn2 hd3 hx (by simp) rfl rfl (by rw [upB_same _ _ _ (by rw [x4])]))
                      have had1 : 1 ≤ ad := by omega
                      have had2 : ad < n := by omega
                      clear h3 h4 h5 hx hxf x1 x2 x3 x4 hil
                      rintro e w3 ⟨rfl, h2⟩
                      have W3A := Lib.hid (HY.out.step (HA1.out) h2)
                      clear h2 HY a0 a1 a2
                      have j1 : ¬ (ad : Int) < 1 := by omega
                      have j2 : ¬ (n : Int) ≤ (ad : Int) := by omega
                      have ev := W3A.out.o.cell (tab_get To (show d * 61 + ad < 122 by omega))
                      rw [ho1] at ev
                      have fv := W3A.out.o.free (d * 61 + ad)
                      go_wp2_with fail
                      have HHB := Lib.hid (⟨ev, fv⟩ : _ ∧ _)
                      refine wp_region_sched (.take 0 (.take 1 (.take 2 (.take 3 (.take 4 (.take 5 (.take 7 (.step 6 (.take 8 (.step 9 (.nil))))))))))) (by kernel_rfl) (by kernel_rfl) (fun d _ _ _ _ h => by cases d <;> exact h) (fun _ => True) trivial ?_
                      refine wpG_take _ (.int .i64 (d : Int)) rfl (by rfl) (fun Y hY => by rfl) ?_
                      (try simp only [Act.put, List.setIfInBounds_toArray, List.set_cons_zero, List.set_cons_succ])
                      refine wpG_take _ (.int .i64 (ad : Int)) rfl (by rfl) (fun Y hY => by rfl) ?_
                      (try simp only [Act.put, List.setIfInBounds_toArray, List.set_cons_zero, List.set_cons_succ])
                      refine wpG_take _ (.int .i64 (d : Int)) rfl (by rfl) (fun Y hY => by rfl) ?_
                      (try simp only [Act.put, List.setIfInBounds_toArray, List.set_cons_zero, List.set_cons_succ])
                      refine wpG_take _ (.int .i64 (ad : Int)) rfl (by rfl) (fun Y hY => by rfl) ?_
                      (try simp only [Act.put, List.setIfInBounds_toArray, List.set_cons_zero, List.set_cons_succ])
                      refine wpG_take _ (.pointer (some ⟨g, d * 61, none⟩)) rfl (by rfl) (fun Y hY => exk_ia47 hd3 rfl rfl rfl) ?_
                      (try simp only [Act.put, List.setIfInBounds_toArray, List.set_cons_zero, List.set_cons_succ])
                      refine wpG_take _ (.pointer (some ⟨g, d * 61 + ad, none⟩)) rfl (by rfl) (fun Y hY => exk_ia46 (by omega) rfl rfl rfl) ?_
                      (try simp only [Act.put, List.setIfInBounds_toArray, List.set_cons_zero, List.set_cons_succ])
                      refine wpG_take _ (.pointer (some ⟨g + 1, d * 61, none⟩)) rfl (by rfl) (fun Y hY => exk_ia47 hd3 rfl rfl rfl) ?_
                      (try simp only [Act.put, List.setIfInBounds_toArray, List.set_cons_zero, List.set_cons_succ])
                      have W4A := Lib.hid ((W3A.out.below ⟨rfl, rfl, rfl, Nat.le_refl _, fun _ _ => rfl⟩ : Ap W w3.drew D g B _ To Tk Ts l _).outs HA1.out (d * 61 + ad) false)
                      refine wpK_st _ rfl (by rfl) (w3.drew.setCell ⟨g, d * 61 + ad, none⟩ (.bool false)) (exk_stb rfl rfl rfl (show w3.drew.cell? _ = _ from HHB.out.1) HHB.out.2) (fun _ => True) trivial (fun _ h => h) ?_
                      (try simp only [Act.put])
                      refine wpG_take _ (.pointer (some ⟨g + 1, d * 61 + ad, none⟩)) rfl (by rfl) (fun Y hY => exk_ia46 (by omega) rfl rfl rfl) ?_
                      (try simp only [Act.put, List.setIfInBounds_toArray, List.set_cons_zero, List.set_cons_succ])
                      refine wpK_st _ rfl (by rfl) ((w3.drew.setCell ⟨g, d * 61 + ad, none⟩ (.bool false)).setCell ⟨g + 1, d * 61 + ad, none⟩ (.bool true)) (exk_stb rfl rfl rfl (W4A.out.k.cell (tab_get Tk (show d * 61 + ad < 122 by omega))) (W4A.out.k.free _)) (fun _ => True) trivial (fun _ h => h) ?_
                      refine wpG_nil ?_
                      clear ev fv
                      generalize hgw : ((w3.drew.setCell ⟨g, d * 61 + ad, none⟩ (.bool false)).setCell ⟨g + 1, d * 61 + ad, none⟩ (.bool true)) = w4
                      have W5A : Hid (Ap W w4 D g B _ (upB To (d * 61 + ad) false) (upB Tk (d * 61 + ad) true) Ts l _) := Lib.hid (by rw [← hgw]; exact W4A.out.keeps HA1.out (d * 61 + ad) true)
                      clear hgw
                      go_wp2_with fail
                      go_meet
                      exact ⟨_, _, _, _, W5A.out, HST.out⟩
                · have t3 : ((wh : Int) == 3) = false := by simp; omega
                  by_cases z4 : wh = 4
                  · skip
                    as_aux_lemma =>
                      obtain rfl : wh = 4 := by omega
                      clear t0 t2 t3
                      rw [show ((4 : Nat) : Int) = (4 : Int) from rfl] at a0
                      go_wp2_with fail
                      refine (sick_any d D ad B sp0 Y HY.out.live.at' hd3 ox4).mono ?_
                      rcases one_cases sp0 d ad (fun _ => 0) (fun x => { x with sick := true }) with ⟨h3, h4⟩ | ⟨i, x, h5, hx, h3, h4⟩
                      · rw [h3, h4]
                        clear h3 h4
                        rintro e w3 ⟨rfl, h2⟩
                        have W3A := Lib.hid (HY.out.step (HA1.out) h2)
                        clear h2 HY a0 a1 a2
                        go_wp2_with fail
                        go_meet
                        exact ⟨_, _, _, _, W3A.out, HS.out⟩
                      · rw [h3, h4]
                        obtain ⟨x1, x2, x3, x4⟩ := HS.out.is d i x hd3 hx
                        have hil := (List.getElem?_eq_some_iff.1 hx).1
                        have HST : Hid (Says n (put sp0 d ((sp0 d).set i { x with sick := true })) To Tk (upB Ts (d * 61 + ad) true)) := Lib.hid (by rw [h5]; exact HS.out.turn hn2 hd3 hx x1 (by rw [upB_same _ _ _ (by rw [x2])]) (by rw [upB_same _ _ _ (by rw [x3])]) rfl)
                        have had1 : 1 ≤ ad := by omega
                        have had2 : ad < n := by omega
                        clear h3 h4 h5 hx x1 x2 x3 x4 hil
                        rintro e w3 ⟨rfl, h2⟩
                        have W3A := Lib.hid (HY.out.step (HA1.out) h2)
                        clear h2 HY a0 a1 a2
                        have j1 : ¬ (ad : Int) < 1 := by omega
                        have j2 : ¬ (n : Int) ≤ (ad : Int) := by omega
                        obtain ⟨vv, ev⟩ := W3A.out.s.has (d * 61 + ad) (by rw [tab_length]; omega)
                        have fv := W3A.out.s.free (d * 61 + ad)
                        go_wp2_with fail
                        go_meet
                        exact ⟨_, _, _, _, W3A.out.sicks HA1.out _ true, HST.out⟩
                  · have t4 : ((wh : Int) == 4) = false := by simp; omega
                    by_cases z5 : wh = 5
                    · skip
                      as_aux_lemma =>
                        obtain rfl : wh = 5 := by omega
                        clear t0 t2 t3 t4
                        rw [show ((5 : Nat) : Int) = (5 : Int) from rfl] at a0
                        go_wp2_with fail
                        refine (release_any D B sp0 Y HY.out.live.at').mono ?_
                        rintro e w3 ⟨rfl, h2⟩
                        have W3A := Lib.hid (HY.out.step (HA1.out) h2)
                        clear h2 HY a0 a1 a2
                        have hbt : Try.prog.built 47 [] = some (tab noT).toArray := by kernel_rfl
                        have HBT := Lib.hid hbt
                        clear hbt
                        go_upto_region 42 with fail
                        refine wp_region_list ?_
                        refine wpList_build' rfl 47 #[] rfl (tab noT).toArray (by simp only [List.map_toArray, List.map_nil]; exact HBT.out) ?_
                        refine wpL_storeT rfl _ _ rfl rfl rfl W3A.out.k ?_
                        intro w4 hb4 hc4
                        have HB4 := Lib.hid hb4
                        have HC4 := Lib.hid hc4
                        clear hb4 hc4
                        refine wpList_nil ?_
                        go_wp2_with fail
                        go_meet
                        exact ⟨_, _, _, _, W3A.out.wrote HA1.out (k := 1) (by omega) HC4.out (by simp) (by rw [if_pos rfl]; exact HB4.out) (by simp), HS.out.release⟩
                    · have t5 : ((wh : Int) == 5) = false := by simp; omega
                      as_aux_lemma =>
                        go_wp2_with fail
                        go_meet
                        exact ⟨_, _, _, _, HY.out, HS.out⟩
          case rest =>
            as_aux_lemma =>
              obtain ⟨sp1, To1, Tk1, Ts1, h1, h2⟩ := hcut
              have HZ := Lib.hid h1; have HSZ := Lib.hid h2
              clear h1 h2 HY HS a0 a1 a2
              have hcnt := cnt_all (sp1 d) (fun i x hx => (HSZ.out.is d i x hd3 hx).1)
              have hl1 := HSZ.out.len d hd3
              obtain ⟨m0, e0⟩ : ∃ m, cnt (isB 0) (sp1 d) = m := ⟨_, rfl⟩
              obtain ⟨m1, e1⟩ : ∃ m, cnt (isB 1) (sp1 d) = m := ⟨_, rfl⟩
              obtain ⟨m2, e2⟩ : ∃ m, cnt (isB 2) (sp1 d) = m := ⟨_, rfl⟩
              obtain ⟨m3, e3⟩ : ∃ m, cnt sickB (sp1 d) = m := ⟨_, rfl⟩
              have ev : countOf sp1 d = .agg #[.int .i64 (m0 : Nat), .int .i64 (m1 : Nat), .int .i64 (m2 : Nat), .int .i64 (m3 : Nat)] := by simp [countOf, countV, e0, e1, e2, e3]
              rw [e0, e1, e2] at hcnt
              have hsum : m0 + m1 + m2 + 1 = n := by omega
              have v1 := IntWalk.i64_in ((m0 : Int) + (m1 : Int)) (by omega)
              have v2 := IntWalk.i64_in ((m0 : Int) + (m1 : Int) + (m2 : Int)) (by omega)
              have v3 := IntWalk.i64_in ((n : Int) - 1) (by omega)
              have tt : ((m0 : Int) + (m1 : Int) + (m2 : Int) != (n : Int) - 1) = false := by simp; omega
              have EV := Lib.hid ev
              clear e0 e1 e2 e3 ev hcnt hl1 hsum hnl
              go_wp2_with fail
              refine (count_any d D B sp1 _ HZ.out.live.at' hd3).mono ?_
              rw [EV.out]
              rintro e w4 ⟨rfl, hb⟩
              have HZ4 := Lib.hid (HZ.out.below hb)
              clear hb HZ
              go_wp2_with fail
              go_roundw
              case rel => exact ⟨j + 1, by omega, by go_num, _, _, _, _, HZ4.out.below ((Below.refl _ _).alloc (Nat.le_refl _) _), HSZ.out⟩
              case measure => simp [intOf]; omega
    · obtain rfl : j = m := by omega
      go_wp2_with fail
      refine (wakes_any _).mono ?_
      rintro e w3 ⟨rfl, hb⟩
      have HB := Lib.hid (HA.out.live.bel.trans (hb.mono HA.out.live.bel.size))
      clear hb
      go_wp2_with fail
      go_ret
      exact ⟨rfl, HB.out⟩
end Go.Proofs.Ytjfedhaafdfibaa
