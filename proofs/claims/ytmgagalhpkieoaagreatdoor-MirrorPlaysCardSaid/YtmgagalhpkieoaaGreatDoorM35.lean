/- Flush, Clear, Moves, Count, Health, New. -/
import Derived.Test.YtmgagalhpkieoaaGreatDoorM34
namespace Go.Proofs.YtmgagalhpkieoaaGreatDoor
open Go.RowKit

attribute [local go_sem] Oper.semAt_some

theorem q_index {t e : TypeId} {len : Nat} (cs : Array Value) (i : Nat) (v : Value) (w : World) (hu : Tryz.prog.underlying t = some (.array len e)) {d : TypeDesc} (he : Tryz.prog.underlying e = some d) (hd : d.isRow = false)
    (hi : i < len) (hs : (Tryz.prog.info? e).map (·.size) = some 1) (hv : cs[i]? = some v) : (Instr.index t (.agg cs) (.int .i64 i)).run Tryz.prog w = .ok v w := by
  obtain ⟨ie, h1, h2⟩ := Option.map_eq_some_iff.1 hs
  have hag : (isAgg e).run Tryz.prog w = .ok false w := by
    unfold isAgg
    rw [Sem.run_bind, run_underlying he w]
    cases d <;> first | rfl | cases hd
  have hsz : (sizeOf e).run Tryz.prog w = .ok 1 w := by simp [sizeOf, typeInfo, h1, h2]
  have h0 : (0 : Int) ≤ i := by omega
  have hi' : (i : Int) < len := by omega
  unfold Instr.index
  simp only [asIntOf, Sem.run_bind, Sem.run_pure, Result.andThen_ok, run_underlying hu w]
  rw [if_pos ⟨h0, hi'⟩]
  simp only [Sem.run_bind, hsz, Result.andThen_ok, Go.part, hag]
  simp [hv]
theorem q_szD : (Tryz.prog.info? 28).map (·.size) = some 1 := by kernel_rfl
theorem has_0 (M : Nat) (w : World) : Calls Tryz.prog 79 #[.pointer (some ⟨M, 0, none⟩), .int .i64 0] w fun e w' => e = .returned (.bool true) ∧ w = w' := by
  have := has_any8 0 M w
  simpa using this
theorem has_1 (M : Nat) (w : World) : Calls Tryz.prog 79 #[.pointer (some ⟨M, 0, none⟩), .int .i64 1] w fun e w' => e = .returned (.bool true) ∧ w = w' := by
  have := has_any8 1 M w
  simpa using this
def flS (x : Mi Dsk Sp) : Nat → Int × Mi Dsk Sp
  | 0 => (21, x)
  | k + 1 => (if (fl1 kinD (flS x k).2 k).1 = 0 then 0 else (flS x k).1, (fl1 kinD (flS x k).2 k).2)
theorem flS_two (x : Mi Dsk Sp) : flS x 2 = flushR kinD x := by
  unfold flushR
  show (if (fl1 kinD (fl1 kinD x 0).2 1).1 = 0 then (0 : Int) else (if (fl1 kinD x 0).1 = 0 then 0 else 21), (fl1 kinD (fl1 kinD x 0).2 1).2) = _
  by_cases h0 : (fl1 kinD x 0).1 = 0
  · by_cases h1 : (fl1 kinD (fl1 kinD x 0).2 1).1 = 0 <;> simp [h0, h1]
  · by_cases h1 : (fl1 kinD (fl1 kinD x 0).2 1).1 = 0 <;> simp [h0, h1]
theorem flS_lim {x : Mi Dsk Sp} {n : Nat} (h : Lim x n) : ∀ k, Lim (flS x k).2 n
  | 0 => h
  | k + 1 => (flS_lim h k).fl1 k
theorem fl_one {w : World} {lab : Nat → Nat} {P : Pl} {x : Mi Dsk Sp} {n : Nat} (h : MiAt w lab P x) (hl : Lim x n) (hn : n < 900000) {k : Nat} (hk : k < 2) :
    Calls Tryz.prog 25 #[.pointer (some ⟨P.D k, 0, none⟩)] w fun e w' => e = .returned (.int .i64 (fl1 kinD x k).1) ∧ MiPost w lab P (fl1 kinD x k).2 w' :=
  (flush_any (P.D k) P.Q _ (x.d k) x.p w (h.dk k hk) h.pw (by have := hl.c k hk; omega)).mono fun e w' ⟨h1, h2, h3, h4⟩ => ⟨h1, h.stayD hk h2 h3 h4⟩
theorem MiAt.on {w : World} {lab : Nat → Nat} {P : Pl} {x : Mi Dsk Sp} (h : MiAt w lab P x) : w.rangeAt P.M 0 [.pointer (some ⟨P.D 0, 0, none⟩), .pointer (some ⟨P.D 1, 0, none⟩)] := by
  intro j v hj
  have hj2 : j < 2 := by have := (List.getElem?_eq_some_iff.1 hj).1; simpa using this
  obtain rfl | rfl : j = 0 ∨ j = 1 := by omega
  · simp at hj; subst hj; exact h.cells.1
  · simp at hj; subst hj; exact h.cells.2.1
set_option maxRecDepth 100000 in
set_option maxHeartbeats 4000000 in
theorem flush_any8 (w : World) (lab : Nat → Nat) (P : Pl) (x : Mi Dsk Sp) (n : Nat) (h : MiAt w lab P x) (hl : Lim x n) (hn : n < 900000) :
    Calls Tryz.prog 14 #[.pointer (some ⟨P.M, 0, none⟩)] w fun e w' => e = .returned (.int .i64 (flushR kinD x).1) ∧ MiPost w lab P (flushR kinD x).2 w' := by
  have HON := Lib.hid h.on; have HL := Lib.hid hl; have HN := Lib.hid hn
  have H0 : Hid (MiPost w lab P (flS x 0).2 w) := Lib.hid (MiPost.refl h)
  rw [← flS_two]
  clear h hl hn
  go_enter Tryz.func14, Tryz.ntmps14
  go_wp2_with (first | (refine q_valG (by rfl) (ex_ld (ty := 29) (cs := [.pointer (some ⟨P.D 0, 0, none⟩), .pointer (some ⟨P.D 1, 0, none⟩)]) rfl rfl HON.out Tryz.underlying29 rfl q_szA2) ?_) | fail)
  go_loopw [3, 12] (fun v i wr => ∃ k : Nat, k ≤ 2 ∧ i = .int .i64 (k : Int) ∧ v = .int .i64 (flS x k).1 ∧ MiPost w lab P (flS x k).2 wr) (fun _ i _ => 2 - (intOf i).toNat)
  case atStart => exact ⟨0, by omega, rfl, rfl, H0.out⟩
  case round =>
    clear H0
    have hix0 : ∀ W : World, (Instr.index 29 (.agg #[.pointer (some ⟨P.D 0, 0, none⟩), .pointer (some ⟨P.D 1, 0, none⟩)]) (.int .i64 0)).run Tryz.prog W = .ok (.pointer (some ⟨P.D 0, 0, none⟩)) W := fun W => q_index _ 0 _ W Tryz.underlying29 Tryz.underlying28 rfl (by omega) q_szD rfl
    have hix1 : ∀ W : World, (Instr.index 29 (.agg #[.pointer (some ⟨P.D 0, 0, none⟩), .pointer (some ⟨P.D 1, 0, none⟩)]) (.int .i64 1)).run Tryz.prog W = .ok (.pointer (some ⟨P.D 1, 0, none⟩)) W := fun W => q_index _ 1 _ W Tryz.underlying29 Tryz.underlying28 rfl (by omega) q_szD rfl
    obtain ⟨k, hk, rfl, rfl, lab1, hm, hst⟩ := hrel
    obtain ⟨y, hy⟩ : ∃ y, flS x k = y := ⟨_, rfl⟩
    obtain ⟨v, y⟩ := y
    rw [hy] at hm ⊢
    have HY := Lib.hid hy
    have HM := Lib.hid hm; have HST := Lib.hid hst
    have HLY : Hid (Lim y n) := Lib.hid (by have := flS_lim HL.out k; rw [hy] at this; exact this)
    clear hm hst hy
    by_cases h2 : k = 2
    · subst h2
      rw [show ((2 : Nat) : Int) = (2 : Int) from rfl]
      go_wp2_with fail
      go_ret
      rw [HY.out]
      exact ⟨rfl, lab1, HM.out, HST.out⟩
    · obtain rfl | rfl : k = 0 ∨ k = 1 := by omega
      · obtain ⟨r, hr⟩ : ∃ r, (fl1 kinD y 0).1 = r := ⟨_, rfl⟩
        have HC := Lib.hid (fl_one HM.out HLY.out HN.out (k := 0) (by omega))
        rw [hr] at HC
        have HR := Lib.hid hr
        clear hr
        rw [show ((0 : Nat) : Int) = (0 : Int) from rfl]
        go_wp2_with fail
        refine HC.out.mono ?_
        rintro e w1 ⟨rfl, hp⟩
        have HP : Hid (MiPost w lab P (flS x 1).2 w1) := Lib.hid (by show MiPost w lab P (fl1 kinD (flS x 0).2 0).2 w1; rw [HY.out]; exact HST.out.post hp)
        have HV : Hid ((flS x 1).1 = if r = 0 then 0 else v) := Lib.hid (by show (if (fl1 kinD (flS x 0).2 0).1 = 0 then 0 else (flS x 0).1) = _; rw [HY.out]; show (if (fl1 kinD y 0).1 = 0 then 0 else v) = _; rw [HR.out])
        clear hp HC
        by_cases hr0 : r = 0
        · subst hr0
          go_wp2_with fail
          go_roundw
          case rel => exact ⟨1, by omega, rfl, by rw [HV.out]; rfl, HP.out⟩
          case measure => simp [intOf]
        · have hr1 : ¬ (r : Int) = 0 := hr0
          go_wp2_with fail
          go_roundw
          case rel => exact ⟨1, by omega, rfl, by rw [HV.out, if_neg hr0], HP.out⟩
          case measure => simp [intOf]
      · obtain ⟨r, hr⟩ : ∃ r, (fl1 kinD y 1).1 = r := ⟨_, rfl⟩
        have HC := Lib.hid (fl_one HM.out HLY.out HN.out (k := 1) (by omega))
        rw [hr] at HC
        have HR := Lib.hid hr
        clear hr
        rw [show ((1 : Nat) : Int) = (1 : Int) from rfl]
        go_wp2_with fail
        refine HC.out.mono ?_
        rintro e w1 ⟨rfl, hp⟩
        have HP : Hid (MiPost w lab P (flS x 2).2 w1) := Lib.hid (by show MiPost w lab P (fl1 kinD (flS x 1).2 1).2 w1; rw [HY.out]; exact HST.out.post hp)
        have HV : Hid ((flS x 2).1 = if r = 0 then 0 else v) := Lib.hid (by show (if (fl1 kinD (flS x 1).2 1).1 = 0 then 0 else (flS x 1).1) = _; rw [HY.out]; show (if (fl1 kinD y 1).1 = 0 then 0 else v) = _; rw [HR.out])
        clear hp HC
        by_cases hr0 : r = 0
        · subst hr0
          go_wp2_with fail
          go_roundw
          case rel => exact ⟨2, by omega, rfl, by rw [HV.out]; rfl, HP.out⟩
          case measure => simp [intOf]
        · have hr1 : ¬ (r : Int) = 0 := hr0
          go_wp2_with fail
          go_roundw
          case rel => exact ⟨2, by omega, rfl, by rw [HV.out, if_neg hr0], HP.out⟩
          case measure => simp [intOf]
theorem MiAt.cleared {w : World} {lab : Nat → Nat} {P : Pl} {x : Mi Dsk Sp} (h : MiAt w lab P x) : MiPost w lab P { x with mv := [] } (w.setCell ⟨P.M, 7, none⟩ (.slice none 0 0)) :=
  h.moves (F := fun _ => False) (Chg.refl _ _) (fun _ h => h.elim) (World.ownsRow_nil _ _ _ _) (fun q hq => by simp at hq) (fun g hg => by cases hg)
theorem clear_any8 (w : World) (lab : Nat → Nat) (P : Pl) (x : Mi Dsk Sp) (h : MiAt w lab P x) : Calls Tryz.prog 16 #[.pointer (some ⟨P.M, 0, none⟩)] w fun e w' => e = .returned (.tuple #[]) ∧ MiPost w lab P { x with mv := [] } w' := by
  have HC := Lib.hid h.cleared
  obtain ⟨v, hb, hm, _⟩ := h.mi
  obtain ⟨sp, n, c, rfl⟩ := own_slice3 hm
  have c7 := hb.cell (j := 7) rfl
  have f7 := hb.free 7
  clear h hb hm
  go_enter Tryz.func16, Tryz.ntmps16
  go_wp2
  go_end0
  exact ⟨rfl, HC.out⟩
def healthN (x : Mi Dsk Sp) (k : Nat) : Nat := if (x.d k).dead then 2 else if 0 < x.f k then 1 else 0
theorem count0_any8 (w : World) (lab : Nat → Nat) (P : Pl) (x : Mi Dsk Sp) (h : MiAt w lab P x) : Calls Tryz.prog 35 #[.pointer (some ⟨P.M, 0, none⟩), .int .i64 0] w fun e w' => e = .returned (.agg #[.int .i64 (x.f 0 : Nat), .int .i64 (x.g 0 : Nat)]) ∧ Below w.heap.size w w' := by
  have hb0 : Below w.heap.size w (w.alloc (.cells #[.int .i64 0, .int .i64 0] 96)) := (Below.refl _ _).alloc (Nat.le_refl _) _
  have HB := Lib.hid hb0
  have HBK : Hid (Blk (w.alloc (.cells #[.int .i64 0, .int .i64 0] 96)) w.heap.size [.int .i64 0, .int .i64 0] 96) := Lib.hid (Blk.new _ [_, _] _)
  have h1 := (h.below hb0).cells
  have HR : Hid ((w.alloc (.cells #[.int .i64 0, .int .i64 0] 96)).rangeAt P.M 2 [.int .i64 (x.f 0 : Nat), .int .i64 (x.g 0 : Nat)]) := Lib.hid (by
    intro j v hj
    have hj2 : j < 2 := by have := (List.getElem?_eq_some_iff.1 hj).1; simpa using this
    obtain rfl | rfl : j = 0 ∨ j = 1 := by omega
    · simp at hj; subst hj; exact h1.2.2.1
    · simp at hj; subst hj; exact h1.2.2.2.1)
  obtain ⟨f, hf⟩ : ∃ f : Nat, x.f 0 = f := ⟨_, rfl⟩
  obtain ⟨g, hg⟩ : ∃ g : Nat, x.g 0 = g := ⟨_, rfl⟩
  rw [hf, hg] at HR ⊢
  clear h1 h hb0 hf hg
  go_enter Tryz.func35, Tryz.ntmps35
  go_upto_region 1 with fail
  generalize (w.alloc (.cells #[.int .i64 0, .int .i64 0] 96)) = W0 at HB HBK HR ⊢
  have c0 := HBK.out.cell (j := 0) rfl
  have c1 := HBK.out.cell (j := 1) rfl
  have f0 := HBK.out.free 0
  have f1 := HBK.out.free 1
  go_wp2_with (first | (go_at_call 79; refine (has_0 P.M _).mono ?_; rintro e w' ⟨rfl, rfl⟩) | (refine q_valG (by rfl) (ex_ld (ty := 96) (cs := [.int .i64 (f : Nat), .int .i64 (g : Nat)]) rfl rfl HR.out Tryz.underlying96 rfl q_szCn) ?_) | fail)
  have hb2 : Blk ((W0.setCell ⟨w.heap.size, 0, none⟩ (.int .i64 (f : Nat))).setCell ⟨w.heap.size, 1, none⟩ (.int .i64 (g : Nat))) w.heap.size [.int .i64 (f : Nat), .int .i64 (g : Nat)] 96 := (HBK.out.set 0 (.int .i64 (f : Nat))).set 1 (.int .i64 (g : Nat))
  have p0 := hb2.cell (j := 0) rfl
  have p1 := hb2.cell (j := 1) rfl
  exact bodyPost_ret (v := .agg #[.int .i64 (f : Nat), .int .i64 (g : Nat)]) (by simp [results, Tryz.results35, go_sem, p0, p1]) rfl ⟨rfl, (HB.out.setCell (by simp) _).setCell (by simp) _⟩
theorem health0_any8 (w : World) (lab : Nat → Nat) (P : Pl) (x : Mi Dsk Sp) (h : MiAt w lab P x) : Calls Tryz.prog 36 #[.pointer (some ⟨P.M, 0, none⟩), .int .i64 0] w fun e w' => e = .returned (.int .u8 (healthN x 0 : Nat)) ∧ w = w' := by
  have HD := Lib.hid (dead_any (P.D 0) P.Q _ (x.d 0) w (h.dk 0 (by omega)))
  obtain ⟨m0, m1, f0, -, f1, -, -⟩ := h.cells
  obtain ⟨r, hr⟩ : ∃ r, healthN x 0 = r := ⟨_, rfl⟩
  rw [hr]
  obtain ⟨dd, hdd⟩ : ∃ b, (x.d 0).dead = b := ⟨_, rfl⟩
  obtain ⟨ff, hff⟩ : ∃ b, x.f 0 = b := ⟨_, rfl⟩
  have HR : Hid (r = if dd = true then 2 else if 0 < ff then 1 else 0) := Lib.hid (by rw [← hr, ← hdd, ← hff]; rfl)
  rw [hdd] at HD
  rw [hff] at f0
  clear h hr hdd hff
  cases dd with
  | true =>
    have HR2 : Hid (r = 2) := Lib.hid HR.out
    go_enter Tryz.func36, Tryz.ntmps36
    go_wp2_with (first | (go_at_call 79; refine (has_0 P.M _).mono ?_; rintro e w' ⟨rfl, rfl⟩) | (go_at_call 27; refine HD.out.mono ?_; rintro e w' ⟨rfl, rfl⟩) | fail)
    go_ret
    rw [HR2.out]
    exact ⟨rfl, rfl⟩
  | false =>
    by_cases hf : 0 < ff
    · have HR2 : Hid (r = 1) := Lib.hid (by rw [HR.out, if_neg (by simp), if_pos hf])
      go_enter Tryz.func36, Tryz.ntmps36
      go_wp2_with (first | (go_at_call 79; refine (has_0 P.M _).mono ?_; rintro e w' ⟨rfl, rfl⟩) | (go_at_call 27; refine HD.out.mono ?_; rintro e w' ⟨rfl, rfl⟩) | fail)
      go_ret
      rw [HR2.out]
      exact ⟨rfl, rfl⟩
    · have HR2 : Hid (r = 0) := Lib.hid (by rw [HR.out, if_neg (by simp), if_neg hf])
      go_enter Tryz.func36, Tryz.ntmps36
      go_wp2_with (first | (go_at_call 79; refine (has_0 P.M _).mono ?_; rintro e w' ⟨rfl, rfl⟩) | (go_at_call 27; refine HD.out.mono ?_; rintro e w' ⟨rfl, rfl⟩) | fail)
      go_ret
      rw [HR2.out]
      exact ⟨rfl, rfl⟩
theorem count1_any8 (w : World) (lab : Nat → Nat) (P : Pl) (x : Mi Dsk Sp) (h : MiAt w lab P x) : Calls Tryz.prog 35 #[.pointer (some ⟨P.M, 0, none⟩), .int .i64 1] w fun e w' => e = .returned (.agg #[.int .i64 (x.f 1 : Nat), .int .i64 (x.g 1 : Nat)]) ∧ Below w.heap.size w w' := by
  have hb0 : Below w.heap.size w (w.alloc (.cells #[.int .i64 0, .int .i64 0] 96)) := (Below.refl _ _).alloc (Nat.le_refl _) _
  have HB := Lib.hid hb0
  have HBK : Hid (Blk (w.alloc (.cells #[.int .i64 0, .int .i64 0] 96)) w.heap.size [.int .i64 0, .int .i64 0] 96) := Lib.hid (Blk.new _ [_, _] _)
  have h1 := (h.below hb0).cells
  have HR : Hid ((w.alloc (.cells #[.int .i64 0, .int .i64 0] 96)).rangeAt P.M 4 [.int .i64 (x.f 1 : Nat), .int .i64 (x.g 1 : Nat)]) := Lib.hid (by
    intro j v hj
    have hj2 : j < 2 := by have := (List.getElem?_eq_some_iff.1 hj).1; simpa using this
    obtain rfl | rfl : j = 0 ∨ j = 1 := by omega
    · simp at hj; subst hj; exact h1.2.2.2.2.1
    · simp at hj; subst hj; exact h1.2.2.2.2.2.1)
  obtain ⟨f, hf⟩ : ∃ f : Nat, x.f 1 = f := ⟨_, rfl⟩
  obtain ⟨g, hg⟩ : ∃ g : Nat, x.g 1 = g := ⟨_, rfl⟩
  rw [hf, hg] at HR ⊢
  clear h1 h hb0 hf hg
  go_enter Tryz.func35, Tryz.ntmps35
  go_upto_region 1 with fail
  generalize (w.alloc (.cells #[.int .i64 0, .int .i64 0] 96)) = W0 at HB HBK HR ⊢
  have c0 := HBK.out.cell (j := 0) rfl
  have c1 := HBK.out.cell (j := 1) rfl
  have f0 := HBK.out.free 0
  have f1 := HBK.out.free 1
  go_wp2_with (first | (go_at_call 79; refine (has_1 P.M _).mono ?_; rintro e w' ⟨rfl, rfl⟩) | (refine q_valG (by rfl) (ex_ld (ty := 96) (cs := [.int .i64 (f : Nat), .int .i64 (g : Nat)]) rfl rfl HR.out Tryz.underlying96 rfl q_szCn) ?_) | fail)
  have hb2 : Blk ((W0.setCell ⟨w.heap.size, 0, none⟩ (.int .i64 (f : Nat))).setCell ⟨w.heap.size, 1, none⟩ (.int .i64 (g : Nat))) w.heap.size [.int .i64 (f : Nat), .int .i64 (g : Nat)] 96 := (HBK.out.set 0 (.int .i64 (f : Nat))).set 1 (.int .i64 (g : Nat))
  have p0 := hb2.cell (j := 0) rfl
  have p1 := hb2.cell (j := 1) rfl
  exact bodyPost_ret (v := .agg #[.int .i64 (f : Nat), .int .i64 (g : Nat)]) (by simp [results, Tryz.results35, go_sem, p0, p1]) rfl ⟨rfl, (HB.out.setCell (by simp) _).setCell (by simp) _⟩
theorem health1_any8 (w : World) (lab : Nat → Nat) (P : Pl) (x : Mi Dsk Sp) (h : MiAt w lab P x) : Calls Tryz.prog 36 #[.pointer (some ⟨P.M, 0, none⟩), .int .i64 1] w fun e w' => e = .returned (.int .u8 (healthN x 1 : Nat)) ∧ w = w' := by
  have HD := Lib.hid (dead_any (P.D 1) P.Q _ (x.d 1) w (h.dk 1 (by omega)))
  obtain ⟨m0, m1, f0, -, f1, -, -⟩ := h.cells
  obtain ⟨r, hr⟩ : ∃ r, healthN x 1 = r := ⟨_, rfl⟩
  rw [hr]
  obtain ⟨dd, hdd⟩ : ∃ b, (x.d 1).dead = b := ⟨_, rfl⟩
  obtain ⟨ff, hff⟩ : ∃ b, x.f 1 = b := ⟨_, rfl⟩
  have HR : Hid (r = if dd = true then 2 else if 0 < ff then 1 else 0) := Lib.hid (by rw [← hr, ← hdd, ← hff]; rfl)
  rw [hdd] at HD
  rw [hff] at f1
  clear h hr hdd hff
  cases dd with
  | true =>
    have HR2 : Hid (r = 2) := Lib.hid HR.out
    go_enter Tryz.func36, Tryz.ntmps36
    go_wp2_with (first | (go_at_call 79; refine (has_1 P.M _).mono ?_; rintro e w' ⟨rfl, rfl⟩) | (go_at_call 27; refine HD.out.mono ?_; rintro e w' ⟨rfl, rfl⟩) | fail)
    go_ret
    rw [HR2.out]
    exact ⟨rfl, rfl⟩
  | false =>
    by_cases hf : 0 < ff
    · have HR2 : Hid (r = 1) := Lib.hid (by rw [HR.out, if_neg (by simp), if_pos hf])
      go_enter Tryz.func36, Tryz.ntmps36
      go_wp2_with (first | (go_at_call 79; refine (has_1 P.M _).mono ?_; rintro e w' ⟨rfl, rfl⟩) | (go_at_call 27; refine HD.out.mono ?_; rintro e w' ⟨rfl, rfl⟩) | fail)
      go_ret
      rw [HR2.out]
      exact ⟨rfl, rfl⟩
    · have HR2 : Hid (r = 0) := Lib.hid (by rw [HR.out, if_neg (by simp), if_neg hf])
      go_enter Tryz.func36, Tryz.ntmps36
      go_wp2_with (first | (go_at_call 79; refine (has_1 P.M _).mono ?_; rintro e w' ⟨rfl, rfl⟩) | (go_at_call 27; refine HD.out.mono ?_; rintro e w' ⟨rfl, rfl⟩) | fail)
      go_ret
      rw [HR2.out]
      exact ⟨rfl, rfl⟩
set_option maxRecDepth 100000 in
set_option maxHeartbeats 4000000 in
theorem clone_any8 (l : List Pt) (v : Value) (w : World) (h : OwnM w 0 v l) (hok : ∀ q ∈ l, q.OK) (hl : l.length < 1000000) : Calls Tryz.prog 78 #[v] w fun e w' => ∃ v', e = .returned v' ∧ OwnM w' w.heap.size v' l ∧ Below w.heap.size w w' := by
  have HO := Lib.hid h
  obtain ⟨sp, n, c, rfl⟩ := own_slice3 h
  have hsn := q_runEqSn Tryz.underlying43 sp n c
  cases sp with
  | none =>
    have HL : Hid (l = []) := Lib.hid (by
      rcases h.2 with ⟨_, hn⟩ | ⟨g, cap, cur, e, _⟩
      · exact List.length_eq_zero_iff.1 hn
      · cases e)
    clear h
    go_enter Tryz.func78, Tryz.ntmps78
    go_wp2
    go_ret
    exact ⟨_, rfl, by rw [HL.out]; exact World.ownsRow_nil _ _ _ _, Below.refl _ _⟩
  | some a =>
    obtain ⟨g, c', cur, e, hb, hg, hc, hm, hsz, ht⟩ : ∃ g c' cur, Value.slice (some a) n c = .slice (some ⟨g, 0, none⟩) l.length c' ∧ 0 ≤ g ∧ w.heap[g]? = some (.cells cur 58 (0, 0)) ∧ l.length ≤ c' ∧ c' ≤ maxLen ∧ cur.size = c' * 41 ∧ cur.toList.take (l.length * 41) = prows l := by
      rcases h.2 with ⟨e, _⟩ | h2
      · cases e
      · exact h2
    injection e with e1 e2 e3
    injection e1 with e4
    subst e4 e2 e3
    have hcl : ∀ j u, (prows l)[j]? = some u → w.cell? ⟨g, j, none⟩ = some u := fun j u hj => by
      have := h.cells (g := g) rfl j u hj
      rw [Addr.add_mid, Nat.zero_add] at this
      exact this
    obtain ⟨i0, z, hi, hz0, hz1, hz2, hz3⟩ := info_partsPt
    have hb1 : Below w.heap.size w (w.alloc (.cells #[] 58)) := (Below.refl _ _).alloc (Nat.le_refl _) _
    have hgs : g < w.heap.size := (Array.getElem?_eq_some_iff.1 hg).1
    have hown : (w.alloc (.cells #[] 58)).ownsRow w.heap.size 58 41 (.slice (some ⟨w.heap.size, 0, none⟩) 0 0) 0 [] := ⟨by simp, .inr ⟨w.heap.size, 0, #[], rfl, Nat.le_refl _, Blk.new w [] 58, Nat.le_refl _, by unfold maxLen; omega, rfl, rfl⟩⟩
    obtain ⟨v', w2, hr, h2, h3, _, h5⟩ := run_append_own_at (P := Tryz.prog) (w.alloc (.cells #[] 58)) w.heap.size 43 43 58 i0 z 41 56 Tryz.underlying43 hi hz0 hz2 hz3 hz1 (by decide) (.slice (some ⟨w.heap.size, 0, none⟩) 0 0) 0 [] hown ⟨g, 0, none⟩ l.length c (prows l) h.1 (fun j u hj => by rw [Addr.add_mid, Nat.zero_add]; exact (hb1.cell (p := ⟨g, j, none⟩) hgs).trans (hcl j u hj)) (fun u hu => by
      obtain ⟨q, _, hq⟩ := List.mem_flatMap.1 hu
      exact one_pcells q u hq) (by unfold maxLen; omega) (by omega) (by simp)
    have HR := Lib.hid hr
    have HF : Hid (OwnM w2 w.heap.size v' l ∧ Below w.heap.size w w2) := Lib.hid ⟨by have := h2; rw [Nat.zero_add, List.nil_append] at this; exact this, hb1.grown h3 hb1.size (fun k hk => by simp [Value.ownBlock] at hk; omega)⟩
    obtain ⟨sp9, n9, c9, rfl⟩ := own_slice3 h2
    clear h hr h2 h3 h5 hown hb1 hcl hb hg hc hm hsz ht hz0 hz1 hz2 hz3 hi hgs
    go_enter Tryz.func78, Tryz.ntmps78
    go_wp2_with (first | (at_builtin; refine q_valG (by rfl) (q_appM rfl rfl rfl HR.out) ?_) | fail)
    go_ret
    exact ⟨_, rfl, HF.out⟩
theorem moves_any8 (w : World) (lab : Nat → Nat) (P : Pl) (x : Mi Dsk Sp) (h : MiAt w lab P x) (hl : x.mv.length < 1000000) : Calls Tryz.prog 34 #[.pointer (some ⟨P.M, 0, none⟩)] w fun e w' => ∃ v', e = .returned v' ∧ OwnM w' w.heap.size v' x.mv ∧ Below w.heap.size w w' := by
  obtain ⟨v, hb, hm, _⟩ := h.mi
  have HC := Lib.hid (clone_any8 x.mv v w hm h.ok hl)
  obtain ⟨sp, n, c, rfl⟩ := own_slice3 hm
  have c7 := hb.cell (j := 7) rfl
  clear h hb hm
  go_enter Tryz.func34, Tryz.ntmps34
  go_wp2_with (first | (go_at_call 78; refine HC.out.mono ?_; rintro e w' ⟨v', rfl, h1, h2⟩; have HF := Lib.hid (And.intro h1 h2); obtain ⟨sp9, n9, c9, rfl⟩ := own_slice3 h1; clear h1 h2) | fail)
  go_ret
  exact ⟨_, rfl, HF.out⟩
end Go.Proofs.YtmgagalhpkieoaaGreatDoor
