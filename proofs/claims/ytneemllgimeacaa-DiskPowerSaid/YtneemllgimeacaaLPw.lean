/- A fuse lets just so many steps be made: the law, walked. -/
import Derived.Test.YtneemllgimeacaaTw
namespace Go.Proofs.Ytneemllgimeacaa
open Go.RowKit

/-- What the loop holds. -/
def PwRel (w0 : World) (C D Q f : Nat) (made i : Value) (wr : World) : Prop :=
  ∃ k : Nat, k ≤ 60 ∧ i = .int .i64 (k : Int) ∧ made = .int .i64 ((min k f : Nat) : Int) ∧ ∃ SC SD lc ld, Two w0.heap.size w0 wr C D Q SC SD (pd lc) (pd ld) (pwAt k f) ∧ lc.length + ld.length = min k f
theorem src_u8 (w : World) (i : Int) (n : Nat) (h : i = (n : Int)) (hn : n < 256) : SrcA (w.alloc (.cells #[.int .u8 i] 5)) (some ⟨w.heap.size, 0, none⟩) [BitVec.ofNat 8 n] := by
  refine src_one w _ i ?_
  subst h
  unfold N8
  simp
  omega
theorem pwAt_on (k f : Nat) : (pwAt (k + 1) f).on = decide (k < f) := by
  unfold pwAt
  by_cases h : k + 1 ≤ f
  · rw [if_pos h]; simp; omega
  · rw [if_neg h]; simp; omega
def off : Pw := ⟨false, -1⟩
theorem off_read (l : List (Nat × Bs)) : readE (pd l) off 0 = 3 ∧ readB (pd l) off 0 = none := by simp [readE, readB, idle, pd, off]
theorem off_flush (l : List (Nat × Bs)) : flushed (pd l) off = (3, pd l, off) := by simp [flushed, idle, pd, off]
theorem off_step : off.step = (false, off) := by simp [Pw.step, off]
theorem off_set : off.set 9 = off := by simp [Pw.set, off]
theorem on_read (l : List (Nat × Bs)) : readE (pd l) p0 0 = 0 ∧ ∃ b, readB (pd l) p0 0 = some b := by
  have h : ∃ b, tells (pd l) 0 = some b := by
    unfold tells
    cases h : lastOf (pd l).cache 0 with
    | none => exact ⟨zeros, by simp [pd, m00, blank]⟩
    | some b => exact ⟨b, by simp [pd, m00, blank]⟩
  obtain ⟨b, hb⟩ := h
  simp [readE, readB, idle, p0, hb]
  simp [pd]
theorem on_flush (l : List (Nat × Bs)) : (flushed (pd l) p0).1 = 0 ∧ (flushed (pd l) p0).2.2 = p0 ∧ (flushed (pd l) p0).2.1.cache = [] := by
  unfold flushed
  have h : idle (pd l) p0 = 0 := by simp [idle, pd, p0]
  rw [h, p0_step]
  simp
/-- What the full bytes of a number are handed back as. -/
theorem full_word (w : World) (i : Int) (n : Nat) (h : i = (n : Int)) (hn : n < 256) : Calls Try.prog 34 #[.slice (some ⟨w.heap.size, 0, none⟩) 1 1] (w.alloc (.cells #[.int .u8 i] 5)) fun e w' => ∃ sp cap b, e = .returned (.slice sp 512 cap) ∧ b.length = 512 ∧ SrcA w' sp b ∧ Below w.heap.size w w' := by
  refine (full_any [BitVec.ofNat 8 n] (some ⟨w.heap.size, 0, none⟩) 1 1 rfl (by omega) _ (src_u8 w i n h hn)).mono ?_
  rintro e w' ⟨v, rfl, ho, hb⟩
  obtain ⟨sp, cap, rfl, _, _, h3, _⟩ := ho.form
  rw [full_length]
  exact ⟨sp, cap, full [BitVec.ofNat 8 n], rfl, full_length _, h3, ((Below.refl _ _).alloc (Nat.le_refl _) _).trans (hb.mono (by simp))⟩
set_option maxRecDepth 100000 in
set_option maxHeartbeats 4000000 in
theorem power_walk (f t : Nat) (hf : f < 256) (ht : t < 256) (w : World) : Calls Try.prog 7 #[.int .u8 (f : Int), .int .u8 (t : Int)] w fun e w' => e = .returned (.bool true) ∧ Below w.heap.size w w' := by
  by_cases h50 : 50 < f
  · have h50' : (50 : Int) < (f : Int) := by omega
    go_enter Try.func7, Try.ntmps7
    go_wp2_with fail
    refine (wakes_any _).mono ?_
    rintro e w1 ⟨rfl, hb⟩
    have HB := Lib.hid hb
    clear hb
    go_wp2_with fail
    go_ret
    exact ⟨rfl, HB.out⟩
  · have h50' : ¬ ((50 : Int) < (f : Int)) := by omega
    have hf50 : f ≤ 50 := by omega
    have hw1 := IntWalk.i64_in (f : Int) (by omega)
    have hw2 := IntWalk.i64_in (t : Int) (by omega)
    clear h50
    go_enter Try.func7, Try.ntmps7
    go_wp2_with fail
    refine (on_any w).mono ?_
    rintro e w1 ⟨Q, rfl, hQ1, hQ2, hp1, hb1⟩
    have HP1 := Lib.hid hp1
    have HB1 := Lib.hid hb1
    clear hp1 hb1
    go_wp2_with fail
    refine (new_ok 4 Q p0 rfl w1 HP1.out (by omega) (by omega)).mono ?_
    rintro e w2 ⟨C, SC, rfl, hd2, hs2, hb2⟩
    have HP2 := Lib.hid (HP1.out.chg (Chg.of_below (F := fun _ => False) hb2) (fun h => h))
    have HD2 := Lib.hid hd2
    have HS2 := Lib.hid hs2
    have HB2 := Lib.hid (HB1.out.trans (hb2.mono HB1.out.size))
    have HW12 := Lib.hid (Nat.le_trans HB1.out.size (Nat.le_refl w1.heap.size))
    clear hd2 hs2 hb2 HP1 HB1
    go_wp2_with fail
    refine (new_ok 4 Q p0 rfl w2 HP2.out (by omega) (by omega)).mono ?_
    rintro e w3 ⟨D, SD, rfl, hd3, hs3, hb3⟩
    have HT : Hid (Two w.heap.size w w3 C D Q SC SD (pd []) (pd []) p0) := Lib.hid
      ⟨HD2.out.chg (Chg.of_below (F := fun _ => False) hb3) (fun _ _ h => h), hd3, HP2.out.chg (Chg.of_below (F := fun _ => False) hb3) (fun h => h),
        fun k hk hd => by have h1 := HD2.out.lt k hk; have h2 := hs3 k hd; omega, fun k hk => Nat.le_trans HW12.out (HS2.out k hk), fun k hk => Nat.le_trans HB2.out.size (hs3 k hk), hQ1, Nat.le_refl _, HB2.out.trans (hb3.mono HB2.out.size)⟩
    clear hd3 hs3 hb3 HP2 HD2 HS2 HB2 HW12
    go_wp2_with fail
    refine (fuse_any Q p0 (f : Int) w3 HT.out.pw (by omega)).mono ?_
    rintro e w4 ⟨rfl, hp4, hc4⟩
    have HT4 : Hid (Two w.heap.size w w4 C D Q SC SD (pd []) (pd []) (pwAt 0 f)) := Lib.hid (HT.out.power (p' := pwAt 0 f) (by
      have e1 : Pw.set p0 (f : Int) = pwAt 0 f := by unfold Pw.set p0 pwAt; simp; omega
      rw [← e1]; exact hp4) hc4)
    clear hp4 hc4 HT
    have HR := Lib.hid (show PwRel w C D Q f (.int .i64 0) (.int .i64 0) w4 from ⟨0, by omega, rfl, by simp, SC, SD, [], [], HT4.out, by simp⟩)
    clear HT4
    go_wp2_with fail
    go_loopw [10, 11] (fun m i wr => PwRel w C D Q f m i wr) (fun _ i _ => 60 - (intOf i).toNat)
    case atStart => exact HR.out
    case round =>
      clear HR
      obtain ⟨k, hk, rfl, rfl, SC, SD, lc, ld, hT, hlen⟩ := hrel
      have HT := Lib.hid hT
      have HLEN := Lib.hid hlen
      obtain ⟨mk, hmk⟩ : ∃ mk, min k f = mk := ⟨_, rfl⟩
      have HMK := Lib.hid hmk
      rw [hmk] at hlen
      rw [hmk]
      have hmk60 : mk ≤ 60 := by omega
      have hlc : lc.length < 1000000 := by omega
      have hld : ld.length < 1000000 := by omega
      clear hT hlen hmk
      by_cases hlt : k < 60
      · have ha : k % 4 < 4 := Nat.mod_lt _ (by omega)
        have t4 : (k : Int).tmod 4 = ((k % 4 : Nat) : Int) := by rw [Int.tmod_eq_emod_of_nonneg (by omega)]; simp
        have t3 : ((k : Int) + (t : Int)).tmod 3 = (((k + t) % 3 : Nat) : Int) := by rw [Int.tmod_eq_emod_of_nonneg (by omega)]; simp
        have w16 : IntKind.u16.wrap ((k % 4 : Nat) : Int) = ((k % 4 : Nat) : Int) := by simp only [IntKind.wrap_u16]; omega
        have w8 : IntKind.u8.wrap (k : Int) = (k : Int) := by simp only [IntKind.wrap_u8']; omega
        have wkt := IntWalk.i64_in ((k : Int) + (t : Int)) (by omega)
        have w3t := IntWalk.i64_in (((k + t) % 3 : Nat) : Int) (by omega)
        have w4t := IntWalk.i64_in ((k % 4 : Nat) : Int) (by omega)
        have wk1 := IntWalk.i64_in ((k : Int) + 1) (by omega)
        have wm1 := IntWalk.i64_in ((mk : Int) + 1) (by omega)
        by_cases hd : (k + t) % 3 = 0
        · have hdb : ((((k + t) % 3 : Nat) : Int) == 0) = true := by rw [hd]; rfl
          go_wp2_with fail
          refine (full_word wr (k : Int) k rfl (by omega)).mono ?_
          rintro e w5 ⟨sp, cap, b, rfl, hb5, hs5, hw5⟩
          have HT5 := Lib.hid (HT.out.swap.grown hw5)
          have HS5 := Lib.hid hs5
          have HB5 := Lib.hid hb5
          clear hs5 hw5 hb5
          go_wp2_with fail
          refine (two_write HT5.out (k % 4) ha b HB5.out sp cap HS5.out hld).mono ?_
          rintro e w6 ⟨S6, l6, hT6, hl6, rfl⟩
          have hp6 := hT6.pw
          have HT6 := Lib.hid hT6
          have HL6 := Lib.hid hl6
          have HP6 := Lib.hid hp6
          clear hT6 hl6 hp6 HT5 HS5 HB5
          have hon := pwAt_on k f
          by_cases hkf : k < f
          · have e1 : okI k f = 0 := by unfold okI; rw [if_pos hkf]
            have hkI : (k : Int) < (f : Int) := by omega
            rw [decide_eq_true hkf] at hon
            rw [e1]
            clear hd hdb
            go_wp2_with (first | (go_at_call 14; refine (is_any _ _ _ HP6.out).mono ?_; rw [hon]; rintro e w' ⟨rfl, rfl⟩) | fail)
            go_roundw
            case rel =>
              have hm : min (k + 1) f = mk + 1 := by have := HMK.out; omega
              have hL := HL6.out
              rw [if_pos hkf] at hL
              refine ⟨k + 1, by omega, by go_num, by rw [hm]; go_num, _, _, _, _, HT6.out.swap, ?_⟩
              have := HLEN.out
              have := HMK.out
              omega
            case measure => simp [intOf]; omega
          · have e1 : okI k f = 3 := by unfold okI; rw [if_neg hkf]
            have hkI : ¬ ((k : Int) < (f : Int)) := by omega
            rw [decide_eq_false hkf] at hon
            rw [e1]
            clear hd hdb
            go_wp2_with (first | (go_at_call 14; refine (is_any _ _ _ HP6.out).mono ?_; rw [hon]; rintro e w' ⟨rfl, rfl⟩) | fail)
            go_roundw
            case rel =>
              have hm : min (k + 1) f = mk := by have := HMK.out; omega
              have hL := HL6.out
              rw [if_neg hkf] at hL
              refine ⟨k + 1, by omega, by go_num, by rw [hm], _, _, _, _, HT6.out.swap, ?_⟩
              have := HLEN.out
              have := HMK.out
              omega
            case measure => simp [intOf]; omega
        · have hdb : ((((k + t) % 3 : Nat) : Int) == 0) = false := by simp; omega
          go_wp2_with fail
          refine (full_word wr (k : Int) k rfl (by omega)).mono ?_
          rintro e w5 ⟨sp, cap, b, rfl, hb5, hs5, hw5⟩
          have HT5 := Lib.hid (HT.out.grown hw5)
          have HS5 := Lib.hid hs5
          have HB5 := Lib.hid hb5
          clear hs5 hw5 hb5
          go_wp2_with fail
          refine (two_write HT5.out (k % 4) ha b HB5.out sp cap HS5.out hlc).mono ?_
          rintro e w6 ⟨S6, l6, hT6, hl6, rfl⟩
          have hp6 := hT6.pw
          have HT6 := Lib.hid hT6
          have HL6 := Lib.hid hl6
          have HP6 := Lib.hid hp6
          clear hT6 hl6 hp6 HT5 HS5 HB5
          have hon := pwAt_on k f
          by_cases hkf : k < f
          · have e1 : okI k f = 0 := by unfold okI; rw [if_pos hkf]
            have hkI : (k : Int) < (f : Int) := by omega
            rw [decide_eq_true hkf] at hon
            rw [e1]
            clear hd hdb
            go_wp2_with (first | (go_at_call 14; refine (is_any _ _ _ HP6.out).mono ?_; rw [hon]; rintro e w' ⟨rfl, rfl⟩) | fail)
            go_roundw
            case rel =>
              have hm : min (k + 1) f = mk + 1 := by have := HMK.out; omega
              have hL := HL6.out
              rw [if_pos hkf] at hL
              refine ⟨k + 1, by omega, by go_num, by rw [hm]; go_num, _, _, _, _, HT6.out, ?_⟩
              have := HLEN.out
              have := HMK.out
              omega
            case measure => simp [intOf]; omega
          · have e1 : okI k f = 3 := by unfold okI; rw [if_neg hkf]
            have hkI : ¬ ((k : Int) < (f : Int)) := by omega
            rw [decide_eq_false hkf] at hon
            rw [e1]
            clear hd hdb
            go_wp2_with (first | (go_at_call 14; refine (is_any _ _ _ HP6.out).mono ?_; rw [hon]; rintro e w' ⟨rfl, rfl⟩) | fail)
            go_roundw
            case rel =>
              have hm : min (k + 1) f = mk := by have := HMK.out; omega
              have hL := HL6.out
              rw [if_neg hkf] at hL
              refine ⟨k + 1, by omega, by go_num, by rw [hm], _, _, _, _, HT6.out, ?_⟩
              have := HLEN.out
              have := HMK.out
              omega
            case measure => simp [intOf]; omega
      · obtain rfl : k = 60 := by omega
        have hkf : mk = f := by have := HMK.out; omega
        subst hkf
        have hoff : pwAt 60 mk = ⟨false, -1⟩ := by unfold pwAt; rw [if_neg (by omega)]
        have hT1 := HT.out
        rw [hoff] at hT1
        have HT1 := Lib.hid hT1
        clear hT1 hoff HT hlt hk
        go_wp2_with fail
        have hcl : (lc.length : Int) + (ld.length : Int) = (mk : Int) := by have := HLEN.out; omega
        have hwcl := IntWalk.i64_in (mk : Int) (by omega)
        refine (read_any C Q SC (pd lc) off 0 (by omega) wr HT1.out.dc HT1.out.pw hlc).mono ?_
        rintro e v1 ⟨u, he, hu, hb⟩
        rw [(off_read lc).1] at he
        rw [(off_read lc).2] at hu
        obtain rfl := hu
        subst he
        have HT2 := Lib.hid (HT1.out.grown hb)
        clear hb HT1
        go_wp2_with fail
        refine (cached_any C Q SC (pd lc) v1 HT2.out.dc).mono ?_
        rintro e w' ⟨rfl, rfl⟩
        go_wp2_with fail
        refine (cached_any D Q SD (pd ld) v1 HT2.out.dd).mono ?_
        rintro e w' ⟨rfl, rfl⟩
        rw [show (pd lc).cache.length = lc.length from rfl, show (pd ld).cache.length = ld.length from rfl]
        go_wp2_with fail
        refine (flush_any C Q SC (pd lc) off v1 HT2.out.dc HT2.out.pw hlc).mono ?_
        intro e v2 h
        unfold Did at h
        rw [off_flush] at h
        obtain ⟨rfl, hd, hp, hc⟩ := h
        have HT3 := Lib.hid (HT2.out.stayE hd hp hc)
        clear hd hp hc HT2
        go_wp2_with fail
        refine (step_any Q off v2 HT3.out.pw).mono ?_
        rintro e v3 ⟨he, hp, hc⟩
        rw [off_step] at he hp
        subst he
        have HT4 : Hid (Two w.heap.size w v3 C D Q SC SD (pd lc) (pd ld) off) := Lib.hid (HT3.out.power hp hc)
        clear hp hc HT3
        go_wp2_with fail
        refine (fuse_any Q off 9 v3 HT4.out.pw (by omega)).mono ?_
        rintro e v4 ⟨rfl, hp, hc⟩
        rw [off_set] at hp
        have HT5 := Lib.hid (HT4.out.power hp hc)
        clear hp hc HT4
        go_wp2_with fail
        refine (back_any Q off v4 HT5.out.pw).mono ?_
        rintro e v5 ⟨rfl, hp, hc⟩
        have HT6 : Hid (Two w.heap.size w v5 C D Q SC SD (pd lc) (pd ld) p0) := Lib.hid (HT5.out.power hp hc)
        clear hp hc HT5
        go_wp2_with fail
        obtain ⟨rb, hrb⟩ := (on_read lc).2
        refine (read_any C Q SC (pd lc) p0 0 (by omega) v5 HT6.out.dc HT6.out.pw hlc).mono ?_
        rintro e v6 ⟨u, he, hu, hb⟩
        rw [(on_read lc).1] at he
        rw [hrb] at hu
        obtain ⟨gg, rfl, -, -, -⟩ := hu
        subst he
        have HT7 := Lib.hid (HT6.out.grown hb)
        clear hb HT6 hrb
        go_wp2_with fail
        refine (is_any Q p0 v6 HT7.out.pw).mono ?_
        rintro e w' ⟨he, rfl⟩
        rw [show p0.on = true from rfl] at he
        subst he
        go_wp2_with fail
        obtain ⟨n1, n2, n3⟩ := on_flush lc
        refine (flush_any C Q SC (pd lc) p0 v6 HT7.out.dc HT7.out.pw hlc).mono ?_
        intro e v7 h
        unfold Did at h
        rw [n1, n2] at h
        obtain ⟨rfl, hd, hp, hc⟩ := h
        obtain ⟨fs, hfs⟩ : ∃ fs, (flushed (pd lc) p0).2.1 = fs := ⟨_, rfl⟩
        rw [hfs] at hd n3
        have HT8 := Lib.hid (HT7.out.stayE hd hp hc)
        have HN3 := Lib.hid n3
        clear hd hp hc HT7 n1 n2 n3 hfs
        go_wp2_with fail
        refine (cached_any C Q SC fs v7 HT8.out.dc).mono ?_
        rintro e w' ⟨he, rfl⟩
        rw [HN3.out] at he
        subst he
        go_wp2_with fail
        refine (step_any Q p0 v7 HT8.out.pw).mono ?_
        rintro e v8 ⟨he, hp, hc⟩
        rw [p0_step] at he hp
        subst he
        have HT9 := Lib.hid (HT8.out.power hp hc)
        clear hp hc HT8
        go_wp2_with fail
        refine (wakes_any v8).mono ?_
        rintro e v9 ⟨rfl, hb⟩
        have HZ := Lib.hid (HT9.out.bel.trans (hb.mono HT9.out.bel.size))
        clear hb
        go_wp2_with fail
        go_ret
        exact ⟨rfl, HZ.out⟩
end Go.Proofs.Ytneemllgimeacaa
