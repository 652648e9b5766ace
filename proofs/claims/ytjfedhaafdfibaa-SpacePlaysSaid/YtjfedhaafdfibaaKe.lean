/- Mark, Give, Hold, Sick, Release, Back, Is. -/
import Derived.Test.YtjfedhaafdfibaaKd
namespace Go.Proofs.Ytjfedhaafdfibaa
open Go.RowKit

theorem one_none (d : Int) (D a : Nat) (v : Value) (w : World) (ha : a < 65536) (hd : d < 0 ∨ 2 ≤ d) : Calls Try.prog 24 #[.pointer (some ⟨D, 0, none⟩), .int .i64 d, .int .u16 (a : Int), v] w fun e w' => e = .returned (.int .i64 1) ∧ w = w' := by
  by_cases h0 : a = 0
  · subst h0; exact one_zero d D v w
  · exact one_no d D a v w (by omega) ha hd
theorem chg_below {w w' w2 : World} {F : Nat → Prop} (h : Below w.heap.size w w') (k : Chg F w' w2) : Chg F w w2 := (Chg.of_below h).trans' k
set_option maxRecDepth 100000 in
set_option maxHeartbeats 4000000 in
theorem mark_any (d D a : Nat) (B : Nat → Nat) (sp : Sp) (w : World) (h : SpAt w D B sp) (hd : d < 2) (ha : a < 65536) : Calls Try.prog 11 #[.pointer (some ⟨D, 0, none⟩), .int .i64 (d : Int), .int .u16 (a : Int)] w fun e w' =>
    e = .returned (.int .i64 (oneE sp d a (turnE 0) : Nat)) ∧ SpAt w' D B (oneS sp d a (turnA 0 1)) ∧ Chg (Of B) w w' := by
  have H := Lib.hid h
  have HD := Lib.hid hd; have HAD := Lib.hid ha
  clear h hd ha
  go_enter Try.func11, Try.ntmps11
  go_wp2_with (first | (go_at_call 21; refine (turn_any 0 1 _).mono ?_; rintro e w1 ⟨rfl, h1, h2, h3⟩) | fail)
  have H1 := Lib.hid h1; have H2 := Lib.hid h2; have H3 := Lib.hid h3
  clear h1 h2 h3
  refine (one_any d D a 28 B sp _ _ _ _ w1 (H.out.below H3.out) HD.out HAD.out (acts_turn 0 1 _ _) ⟨H1.out, H2.out⟩).mono ?_
  rintro e w2 ⟨rfl, h4, h5⟩
  have HE : Hid (SpAt w2 D B (oneS sp d a (turnA 0 1)) ∧ Chg (Of B) w w2) := Lib.hid ⟨h4, chg_below H3.out h5⟩
  clear h4 h5
  go_wp2_with fail
  go_ret
  exact ⟨rfl, HE.out⟩
set_option maxRecDepth 100000 in
set_option maxHeartbeats 4000000 in
theorem mark_none (d : Int) (D a : Nat) (w : World) (hd : d < 0 ∨ 2 ≤ d) (ha : a < 65536) : Calls Try.prog 11 #[.pointer (some ⟨D, 0, none⟩), .int .i64 d, .int .u16 (a : Int)] w fun e w' => e = .returned (.int .i64 1) ∧ Below w.heap.size w w' := by
  have HD := Lib.hid hd; have HAD := Lib.hid ha
  clear hd ha
  go_enter Try.func11, Try.ntmps11
  go_wp2_with (first | (go_at_call 21; refine (turn_any 0 1 _).mono ?_; rintro e w1 ⟨rfl, h1, h2, h3⟩) | fail)
  have H3 := Lib.hid h3
  clear h1 h2 h3
  refine (one_none d D a _ w1 HAD.out HD.out).mono ?_
  rintro e w2 ⟨rfl, rfl⟩
  go_wp2_with fail
  go_ret
  exact ⟨rfl, H3.out⟩
set_option maxRecDepth 100000 in
set_option maxHeartbeats 4000000 in
theorem mark_nil (d : Int) (a : Nat) (w : World) : Calls Try.prog 11 #[.pointer none, .int .i64 d, .int .u16 (a : Int)] w fun e w' => e = .returned (.int .i64 2) ∧ Below w.heap.size w w' := by
  go_enter Try.func11, Try.ntmps11
  go_wp2_with (first | (go_at_call 21; refine (turn_any 0 1 _).mono ?_; rintro e w1 ⟨rfl, h1, h2, h3⟩) | fail)
  have H3 := Lib.hid h3
  clear h1 h2 h3
  refine (one_nil d a _ w1).mono ?_
  rintro e w2 ⟨rfl, rfl⟩
  go_wp2_with fail
  go_ret
  exact ⟨rfl, H3.out⟩
set_option maxRecDepth 100000 in
set_option maxHeartbeats 4000000 in
theorem give_any (d D a : Nat) (B : Nat → Nat) (sp : Sp) (w : World) (h : SpAt w D B sp) (hd : d < 2) (ha : a < 65536) : Calls Try.prog 12 #[.pointer (some ⟨D, 0, none⟩), .int .i64 (d : Int), .int .u16 (a : Int)] w fun e w' =>
    e = .returned (.int .i64 (oneE sp d a (turnE 1) : Nat)) ∧ SpAt w' D B (oneS sp d a (turnA 1 0)) ∧ Chg (Of B) w w' := by
  have H := Lib.hid h
  have HD := Lib.hid hd; have HAD := Lib.hid ha
  clear h hd ha
  go_enter Try.func12, Try.ntmps12
  go_wp2_with (first | (go_at_call 21; refine (turn_any 1 0 _).mono ?_; rintro e w1 ⟨rfl, h1, h2, h3⟩) | fail)
  have H1 := Lib.hid h1; have H2 := Lib.hid h2; have H3 := Lib.hid h3
  clear h1 h2 h3
  refine (one_any d D a 28 B sp _ _ _ _ w1 (H.out.below H3.out) HD.out HAD.out (acts_turn 1 0 _ _) ⟨H1.out, H2.out⟩).mono ?_
  rintro e w2 ⟨rfl, h4, h5⟩
  have HE : Hid (SpAt w2 D B (oneS sp d a (turnA 1 0)) ∧ Chg (Of B) w w2) := Lib.hid ⟨h4, chg_below H3.out h5⟩
  clear h4 h5
  go_wp2_with fail
  go_ret
  exact ⟨rfl, HE.out⟩
set_option maxRecDepth 100000 in
set_option maxHeartbeats 4000000 in
theorem give_none (d : Int) (D a : Nat) (w : World) (hd : d < 0 ∨ 2 ≤ d) (ha : a < 65536) : Calls Try.prog 12 #[.pointer (some ⟨D, 0, none⟩), .int .i64 d, .int .u16 (a : Int)] w fun e w' => e = .returned (.int .i64 1) ∧ Below w.heap.size w w' := by
  have HD := Lib.hid hd; have HAD := Lib.hid ha
  clear hd ha
  go_enter Try.func12, Try.ntmps12
  go_wp2_with (first | (go_at_call 21; refine (turn_any 1 0 _).mono ?_; rintro e w1 ⟨rfl, h1, h2, h3⟩) | fail)
  have H3 := Lib.hid h3
  clear h1 h2 h3
  refine (one_none d D a _ w1 HAD.out HD.out).mono ?_
  rintro e w2 ⟨rfl, rfl⟩
  go_wp2_with fail
  go_ret
  exact ⟨rfl, H3.out⟩
set_option maxRecDepth 100000 in
set_option maxHeartbeats 4000000 in
theorem give_nil (d : Int) (a : Nat) (w : World) : Calls Try.prog 12 #[.pointer none, .int .i64 d, .int .u16 (a : Int)] w fun e w' => e = .returned (.int .i64 2) ∧ Below w.heap.size w w' := by
  go_enter Try.func12, Try.ntmps12
  go_wp2_with (first | (go_at_call 21; refine (turn_any 1 0 _).mono ?_; rintro e w1 ⟨rfl, h1, h2, h3⟩) | fail)
  have H3 := Lib.hid h3
  clear h1 h2 h3
  refine (one_nil d a _ w1).mono ?_
  rintro e w2 ⟨rfl, rfl⟩
  go_wp2_with fail
  go_ret
  exact ⟨rfl, H3.out⟩
set_option maxRecDepth 100000 in
set_option maxHeartbeats 4000000 in
theorem hold_any (d D a : Nat) (B : Nat → Nat) (sp : Sp) (w : World) (h : SpAt w D B sp) (hd : d < 2) (ha : a < 65536) : Calls Try.prog 13 #[.pointer (some ⟨D, 0, none⟩), .int .i64 (d : Int), .int .u16 (a : Int)] w fun e w' =>
    e = .returned (.int .i64 (oneE sp d a (turnE 1) : Nat)) ∧ SpAt w' D B (oneS sp d a (turnA 1 2)) ∧ Chg (Of B) w w' := by
  have H := Lib.hid h
  have HD := Lib.hid hd; have HAD := Lib.hid ha
  clear h hd ha
  go_enter Try.func13, Try.ntmps13
  go_wp2_with (first | (go_at_call 21; refine (turn_any 1 2 _).mono ?_; rintro e w1 ⟨rfl, h1, h2, h3⟩) | fail)
  have H1 := Lib.hid h1; have H2 := Lib.hid h2; have H3 := Lib.hid h3
  clear h1 h2 h3
  refine (one_any d D a 28 B sp _ _ _ _ w1 (H.out.below H3.out) HD.out HAD.out (acts_turn 1 2 _ _) ⟨H1.out, H2.out⟩).mono ?_
  rintro e w2 ⟨rfl, h4, h5⟩
  have HE : Hid (SpAt w2 D B (oneS sp d a (turnA 1 2)) ∧ Chg (Of B) w w2) := Lib.hid ⟨h4, chg_below H3.out h5⟩
  clear h4 h5
  go_wp2_with fail
  go_ret
  exact ⟨rfl, HE.out⟩
set_option maxRecDepth 100000 in
set_option maxHeartbeats 4000000 in
theorem hold_none (d : Int) (D a : Nat) (w : World) (hd : d < 0 ∨ 2 ≤ d) (ha : a < 65536) : Calls Try.prog 13 #[.pointer (some ⟨D, 0, none⟩), .int .i64 d, .int .u16 (a : Int)] w fun e w' => e = .returned (.int .i64 1) ∧ Below w.heap.size w w' := by
  have HD := Lib.hid hd; have HAD := Lib.hid ha
  clear hd ha
  go_enter Try.func13, Try.ntmps13
  go_wp2_with (first | (go_at_call 21; refine (turn_any 1 2 _).mono ?_; rintro e w1 ⟨rfl, h1, h2, h3⟩) | fail)
  have H3 := Lib.hid h3
  clear h1 h2 h3
  refine (one_none d D a _ w1 HAD.out HD.out).mono ?_
  rintro e w2 ⟨rfl, rfl⟩
  go_wp2_with fail
  go_ret
  exact ⟨rfl, H3.out⟩
set_option maxRecDepth 100000 in
set_option maxHeartbeats 4000000 in
theorem hold_nil (d : Int) (a : Nat) (w : World) : Calls Try.prog 13 #[.pointer none, .int .i64 d, .int .u16 (a : Int)] w fun e w' => e = .returned (.int .i64 2) ∧ Below w.heap.size w w' := by
  go_enter Try.func13, Try.ntmps13
  go_wp2_with (first | (go_at_call 21; refine (turn_any 1 2 _).mono ?_; rintro e w1 ⟨rfl, h1, h2, h3⟩) | fail)
  have H3 := Lib.hid h3
  clear h1 h2 h3
  refine (one_nil d a _ w1).mono ?_
  rintro e w2 ⟨rfl, rfl⟩
  go_wp2_with fail
  go_ret
  exact ⟨rfl, H3.out⟩
set_option maxRecDepth 100000 in
set_option maxHeartbeats 4000000 in
theorem sick_any (d D a : Nat) (B : Nat → Nat) (sp : Sp) (w : World) (h : SpAt w D B sp) (hd : d < 2) (ha : a < 65536) : Calls Try.prog 14 #[.pointer (some ⟨D, 0, none⟩), .int .i64 (d : Int), .int .u16 (a : Int)] w fun e w' =>
    e = .returned (.int .i64 (oneE sp d a (fun _ => 0) : Nat)) ∧ SpAt w' D B (oneS sp d a (fun x => { x with sick := true })) ∧ Chg (Of B) w w' := by
  have H := Lib.hid (one_any d D a 25 B sp _ _ _ _ w h hd ha acts_sick trivial)
  clear h hd ha
  unfold fval at H
  go_enter Try.func14, Try.ntmps14
  go_wp2_with fail
  refine H.out.mono ?_
  rintro e w2 ⟨rfl, h4⟩
  have H4 := Lib.hid h4
  clear h4
  go_wp2_with fail
  go_ret
  exact ⟨rfl, H4.out⟩
set_option maxRecDepth 100000 in
set_option maxHeartbeats 4000000 in
theorem sick_none (d : Int) (D a : Nat) (w : World) (hd : d < 0 ∨ 2 ≤ d) (ha : a < 65536) : Calls Try.prog 14 #[.pointer (some ⟨D, 0, none⟩), .int .i64 d, .int .u16 (a : Int)] w fun e w' => e = .returned (.int .i64 1) ∧ w = w' := by
  have HD := Lib.hid hd; have HAD := Lib.hid ha
  clear hd ha
  go_enter Try.func14, Try.ntmps14
  go_wp2_with (first | (go_at_call 24; refine (one_none d D a _ _ HAD.out HD.out).mono ?_; rintro e w2 ⟨rfl, rfl⟩) | fail)
  go_ret
  exact ⟨rfl, rfl⟩
set_option maxRecDepth 100000 in
set_option maxHeartbeats 4000000 in
theorem sick_nil (d : Int) (a : Nat) (w : World) : Calls Try.prog 14 #[.pointer none, .int .i64 d, .int .u16 (a : Int)] w fun e w' => e = .returned (.int .i64 2) ∧ w = w' := by
  go_enter Try.func14, Try.ntmps14
  go_wp2_with (first | (go_at_call 24; refine (one_nil d a _ _).mono ?_; rintro e w2 ⟨rfl, rfl⟩) | fail)
  go_ret
  exact ⟨rfl, rfl⟩
set_option maxRecDepth 100000 in
set_option maxHeartbeats 4000000 in
theorem release_any (D : Nat) (B : Nat → Nat) (sp : Sp) (w : World) (h : SpAt w D B sp) : Calls Try.prog 15 #[.pointer (some ⟨D, 0, none⟩)] w fun e w' => e = .returned (.tuple #[]) ∧ SpAt w' D B (allS sp (turnA 2 0)) ∧ Chg (Of B) w w' := by
  have H := Lib.hid h
  clear h
  go_enter Try.func15, Try.ntmps15
  go_wp2_with (first | (go_at_call 21; refine (turn_any 2 0 _).mono ?_; rintro e w1 ⟨rfl, h1, h2, h3⟩) | fail)
  have H1 := Lib.hid h1; have H2 := Lib.hid h2; have H3 := Lib.hid h3
  clear h1 h2 h3
  refine (all_any D 28 B sp _ _ _ _ w1 (H.out.below H3.out) (acts_turn 2 0 _ _) ⟨H1.out, H2.out⟩).mono ?_
  rintro e w2 ⟨rfl, h4, h5⟩
  have HE : Hid (SpAt w2 D B (allS sp (turnA 2 0)) ∧ Chg (Of B) w w2) := Lib.hid ⟨h4, chg_below H3.out h5⟩
  clear h4 h5
  go_wp2_with fail
  go_end0
  exact ⟨rfl, HE.out⟩
set_option maxRecDepth 100000 in
set_option maxHeartbeats 4000000 in
theorem release_nil (w : World) : Calls Try.prog 15 #[.pointer none] w fun e w' => e = .returned (.tuple #[]) ∧ Below w.heap.size w w' := by
  go_enter Try.func15, Try.ntmps15
  go_wp2_with (first | (go_at_call 21; refine (turn_any 2 0 _).mono ?_; rintro e w1 ⟨rfl, h1, h2, h3⟩) | fail)
  have H3 := Lib.hid h3
  clear h1 h2 h3
  refine (all_nil _ _ w1).mono ?_
  rintro e w2 ⟨rfl, rfl⟩
  go_wp2_with fail
  go_end0
  exact ⟨rfl, H3.out⟩
set_option maxRecDepth 100000 in
set_option maxHeartbeats 4000000 in
theorem back_any (D : Nat) (B : Nat → Nat) (sp : Sp) (w : World) (h : SpAt w D B sp) : Calls Try.prog 16 #[.pointer (some ⟨D, 0, none⟩)] w fun e w' => e = .returned (.tuple #[]) ∧ SpAt w' D B (allS sp (turnA 2 1)) ∧ Chg (Of B) w w' := by
  have H := Lib.hid h
  clear h
  go_enter Try.func16, Try.ntmps16
  go_wp2_with (first | (go_at_call 21; refine (turn_any 2 1 _).mono ?_; rintro e w1 ⟨rfl, h1, h2, h3⟩) | fail)
  have H1 := Lib.hid h1; have H2 := Lib.hid h2; have H3 := Lib.hid h3
  clear h1 h2 h3
  refine (all_any D 28 B sp _ _ _ _ w1 (H.out.below H3.out) (acts_turn 2 1 _ _) ⟨H1.out, H2.out⟩).mono ?_
  rintro e w2 ⟨rfl, h4, h5⟩
  have HE : Hid (SpAt w2 D B (allS sp (turnA 2 1)) ∧ Chg (Of B) w w2) := Lib.hid ⟨h4, chg_below H3.out h5⟩
  clear h4 h5
  go_wp2_with fail
  go_end0
  exact ⟨rfl, HE.out⟩
set_option maxRecDepth 100000 in
set_option maxHeartbeats 4000000 in
theorem back_nil (w : World) : Calls Try.prog 16 #[.pointer none] w fun e w' => e = .returned (.tuple #[]) ∧ Below w.heap.size w w' := by
  go_enter Try.func16, Try.ntmps16
  go_wp2_with (first | (go_at_call 21; refine (turn_any 2 1 _).mono ?_; rintro e w1 ⟨rfl, h1, h2, h3⟩) | fail)
  have H3 := Lib.hid h3
  clear h1 h2 h3
  refine (all_nil _ _ w1).mono ?_
  rintro e w2 ⟨rfl, rfl⟩
  go_wp2_with fail
  go_end0
  exact ⟨rfl, H3.out⟩
def isS (sp : Sp) (d a : Nat) : Bool := match (sp d)[a - 1]? with | some x => if a = 0 then false else x.sick | none => false
/-- Is: what one comes to leaves the answer in the box. -/
def IsPost (w : World) (v : Bool) (w' : World) : Prop := Blk w' w.heap.size [.bool v] 4 ∧ Below w.heap.size w w'
set_option maxRecDepth 100000 in
set_option maxHeartbeats 4000000 in
theorem is_of (p : Value) (d : Int) (a : Nat) (b : Bool) (w : World) (h : ∀ w1, Blk w1 w.heap.size [.bool false] 4 → Below w.heap.size w w1 → Calls Try.prog 24 #[p, .int .i64 d, .int .u16 (a : Int), fval 27 #[.pointer (some ⟨w.heap.size, 0, none⟩)]] w1 fun e w' => ∃ v, e = .returned v ∧ IsPost w b w') :
    Calls Try.prog 19 #[p, .int .i64 d, .int .u16 (a : Int)] w fun e w' => e = .returned (.bool b) ∧ Below w.heap.size w w' := by
  have hmf : ∀ (fn : Fn) (first cap : Array Value) (w : World), (Instr.makeFunc fn first cap).run Try.prog w = .ok (.func fn first cap) w := fun _ _ _ _ => rfl
  have H := Lib.hid h
  clear h
  unfold fval at H
  go_enter Try.func19, Try.ntmps19
  go_wp2_with fail
  refine (H.out _ (Blk.new' _ _ _ _ _ rfl rfl) ((Below.refl _ _).alloc (Nat.le_refl _) _)).mono ?_
  rintro e w2 ⟨v, rfl, h1, h2⟩
  have c0 := h1.cell (j := 0) rfl
  have H2 := Lib.hid h2
  clear h1 h2
  go_wp2_with fail
  go_ret
  exact ⟨rfl, H2.out⟩
theorem is_nil (d : Int) (a : Nat) (w : World) : Calls Try.prog 19 #[.pointer none, .int .i64 d, .int .u16 (a : Int)] w fun e w' => e = .returned (.bool false) ∧ Below w.heap.size w w' :=
  is_of _ _ _ _ _ fun w1 hb hw => (one_nil d a _ w1).mono fun e w' ⟨h1, h2⟩ => by subst h2; exact ⟨_, h1, hb, hw⟩
theorem is_none (d : Int) (D a : Nat) (w : World) (hd : d < 0 ∨ 2 ≤ d) (ha : a < 65536) : Calls Try.prog 19 #[.pointer (some ⟨D, 0, none⟩), .int .i64 d, .int .u16 (a : Int)] w fun e w' => e = .returned (.bool false) ∧ Below w.heap.size w w' :=
  is_of _ _ _ _ _ fun w1 hb hw => (one_none d D a _ w1 ha hd).mono fun e w' ⟨h1, h2⟩ => by subst h2; exact ⟨_, h1, hb, hw⟩
theorem is_any (d D a : Nat) (B : Nat → Nat) (sp : Sp) (w : World) (h : SpAt w D B sp) (hd : d < 2) (ha : a < 65536) : Calls Try.prog 19 #[.pointer (some ⟨D, 0, none⟩), .int .i64 (d : Int), .int .u16 (a : Int)] w fun e w' => e = .returned (.bool (isS sp d a)) ∧ Below w.heap.size w w' := by
  refine is_of _ _ _ _ _ fun w1 hb hw => ?_
  have h1 := h.below hw
  unfold isS
  by_cases h0 : a = 0
  · subst h0
    refine (one_zero (d : Int) D _ w1).mono ?_
    rintro e w' ⟨h1, h2⟩
    subst h2
    cases (sp d)[0 - 1]? <;> exact ⟨_, h1, hb, hw⟩
  · by_cases hl : a ≤ (sp d).length
    · obtain ⟨x, hx⟩ : ∃ x, (sp d)[a - 1]? = some x := ⟨_, List.getElem?_eq_getElem (by omega)⟩
      rw [hx]
      simp only [if_neg h0]
      refine one_in d D a 27 B sp #[.pointer (some ⟨w.heap.size, 0, none⟩)] (fun _ w' => IsPost w x.sick w') w1 h1 hd (by omega) hl cfI ?_
      refine (is_in (B d) (a - 1) w.heap.size (sp d) x false w1 hx (h1.ax d hd) hb).mono ?_
      rintro e w' ⟨h2, h3, h4⟩
      exact ⟨_, h2, h3, hw.trans (h4.below (fun k hk => by omega) (by have := hb.lt; omega))⟩
    · rw [List.getElem?_eq_none (by omega)]
      refine (one_far d D a B sp _ w1 h1 hd ha (by omega)).mono ?_
      rintro e w' ⟨h2, h3⟩
      subst h3
      exact ⟨_, h2, hb, hw⟩
end Go.Proofs.Ytjfedhaafdfibaa
