/- one, all: an act on an address, or on all of them. -/
import Derived.Test.YtjfedhaafdfibaaKb
import Derived.WalkSpells
namespace Go.Proofs.Ytjfedhaafdfibaa
open Go.RowKit

set_option maxRecDepth 100000 in
set_option maxHeartbeats 4000000 in
theorem one_nil (d : Int) (a : Nat) (v : Value) (w : World) : Calls Try.prog 24 #[.pointer none, .int .i64 d, .int .u16 (a : Int), v] w fun e w' => e = .returned (.int .i64 2) ∧ w = w' := by
  go_enter Try.func24, Try.ntmps24
  go_wp2_with fail
  go_ret
  exact ⟨rfl, rfl⟩
set_option maxRecDepth 100000 in
set_option maxHeartbeats 4000000 in
theorem one_zero (d : Int) (D : Nat) (v : Value) (w : World) : Calls Try.prog 24 #[.pointer (some ⟨D, 0, none⟩), .int .i64 d, .int .u16 0, v] w fun e w' => e = .returned (.int .i64 1) ∧ w = w' := by
  go_enter Try.func24, Try.ntmps24
  go_wp2_with fail
  go_ret
  exact ⟨rfl, rfl⟩
set_option maxRecDepth 100000 in
set_option maxHeartbeats 4000000 in
theorem one_no (d : Int) (D a : Nat) (v : Value) (w : World) (h0 : 0 < a) (ha : a < 65536) (hd : d < 0 ∨ 2 ≤ d) : Calls Try.prog 24 #[.pointer (some ⟨D, 0, none⟩), .int .i64 d, .int .u16 (a : Int), v] w fun e w' => e = .returned (.int .i64 1) ∧ w = w' := by
  have wk := IntWalk.i64_in (a : Int) (by omega)
  have h1 : ¬ (a : Int) < 1 := by omega
  have h2 : (0 : Int) < (a : Int) := by omega
  have HD := Lib.hid hd
  clear hd
  go_enter Try.func24, Try.ntmps24
  go_wp2_with (first | (go_at_call 22; refine (size_no _ _ _ HD.out).mono ?_; rintro e w' ⟨rfl, rfl⟩) | fail)
  go_ret
  exact ⟨rfl, rfl⟩
set_option maxRecDepth 100000 in
set_option maxHeartbeats 4000000 in
theorem one_far (d D a : Nat) (B : Nat → Nat) (sp : Sp) (v : Value) (w : World) (h : SpAt w D B sp) (hd : d < 2) (ha : a < 65536) (hf : (sp d).length < a) : Calls Try.prog 24 #[.pointer (some ⟨D, 0, none⟩), .int .i64 (d : Int), .int .u16 (a : Int), v] w fun e w' => e = .returned (.int .i64 1) ∧ w = w' := by
  have wk := IntWalk.i64_in (a : Int) (by omega)
  have h1 : ¬ (a : Int) < 1 := by omega
  have H := Lib.hid h
  have HD := Lib.hid hd
  clear h hd
  obtain ⟨n, hn⟩ : ∃ n, (sp d).length = n := ⟨_, rfl⟩
  have HN := Lib.hid hn
  rw [hn] at hf
  have ht : decide (n < a) = true := by simpa using hf
  clear hn
  go_enter Try.func24, Try.ntmps24
  go_wp2_with (first | (go_at_call 22; refine (size_any _ _ _ _ _ H.out HD.out).mono ?_; rw [HN.out]; rintro e w' ⟨rfl, rfl⟩) | fail)
  go_ret
  exact ⟨rfl, rfl⟩
set_option maxRecDepth 100000 in
set_option maxHeartbeats 4000000 in
/-- An address that there is: the act answers. -/
theorem one_in (d D a f : Nat) (B : Nat → Nat) (sp : Sp) (caps : Array Value) (R : Value → World → Prop) (w : World) (h : SpAt w D B sp) (hd : d < 2) (h0 : 0 < a) (hf : a ≤ (sp d).length)
    (hcf : ∀ (args : Array Value) (w : World), (callFunc f args).run Try.prog w = .ok (.enter f args) w)
    (hcall : Calls Try.prog f (#[.pointer (some ⟨B d, (a - 1) * 2, none⟩)] ++ caps) w fun e w' => ∃ v, e = .returned v ∧ R v w') :
    Calls Try.prog 24 #[.pointer (some ⟨D, 0, none⟩), .int .i64 (d : Int), .int .u16 (a : Int), fval f caps] w fun e w' => ∃ v, e = .returned v ∧ R v w' := by
  have hl := h.len d hd
  obtain ⟨i, rfl⟩ : ∃ i, a = i + 1 := ⟨a - 1, by omega⟩
  rw [Nat.add_sub_cancel] at hcall
  have wk := IntWalk.i64_in ((i + 1 : Nat) : Int) (by omega)
  have h1 : ¬ ((i + 1 : Nat) : Int) < 1 := by omega
  have c0 := h.cell hd
  have H := Lib.hid h
  have HD := Lib.hid hd
  obtain ⟨n, hn⟩ : ∃ n, (sp d).length = n := ⟨_, rfl⟩
  have HN := Lib.hid hn
  rw [hn] at hf hl c0
  have HC := Lib.hid hcall
  have hi : decide ((i : Int) < (n : Int)) = true := by simp; omega
  have ht : decide (n < i + 1) = false := by simp; omega
  clear h hn hcall h0
  unfold fval
  go_enter Try.func24, Try.ntmps24
  go_wp2_with (first | (go_at_call 22; refine (size_any _ _ _ _ _ H.out HD.out).mono ?_; rw [HN.out]; rintro e w' ⟨rfl, rfl⟩) | fail)
  refine HC.out.mono ?_
  rintro e w1 ⟨v, rfl, hR⟩
  have HR := Lib.hid hR
  clear hR
  go_wp2_with fail
  go_ret
  exact ⟨_, rfl, HR.out⟩

/-- A function value that does to an address what act says; what K asks stays so. -/
structure Acts (f : Nat) (caps : Array Value) (E : Ax → Nat) (A : Ax → Ax) (K : World → Prop) : Prop where
  enter : ∀ (args : Array Value) (w : World), (callFunc f args).run Try.prog w = .ok (.enter f args) w
  call : ∀ (B i : Nat) (l : List Ax) (a : Ax) (w : World), l[i]? = some a → Blk w B (acells l) 61 → K w → Calls Try.prog f (#[.pointer (some ⟨B, i * 2, none⟩)] ++ caps) w fun e w' => e = .returned (.int .i64 (E a : Nat)) ∧ Blk w' B (acells (l.set i (A a))) 61 ∧ Chg (fun k => k = B) w w'
  keep : ∀ (w w' : World) (F : Nat → Prop), K w → (∀ k, F k → ∃ cs, Blk w k cs 61) → Chg F w w' → K w'
theorem acts_turn (f t g h : Nat) : Acts 28 #[.pointer (some ⟨g, 0, none⟩), .pointer (some ⟨h, 0, none⟩)] (turnE f) (turnA f t) (fun w => Blk w g [.int .u8 (f : Int)] 57 ∧ Blk w h [.int .u8 (t : Int)] 57) :=
  ⟨cfT, fun B i l a w hi hb hk => turn_in f t g h B i l a w hi hb hk.1 hk.2, fun w w' F hk hF hc =>
    ⟨hk.1.chg hc (fun hf => by obtain ⟨cs, hb⟩ := hF g hf; exact absurd (hk.1.same hb) (by decide)), hk.2.chg hc (fun hf => by obtain ⟨cs, hb⟩ := hF h hf; exact absurd (hk.2.same hb) (by decide))⟩⟩
theorem acts_sick : Acts 25 #[] (fun _ => 0) (fun a => { a with sick := true }) (fun _ => True) :=
  ⟨cfS, fun B i l a w hi hb _ => by simpa using sick_in B i l a w hi hb, fun _ _ _ _ _ _ => trivial⟩

/-- The errno of an act on an address, and what is there behind it. -/
def oneE (sp : Sp) (d a : Nat) (E : Ax → Nat) : Nat := match (sp d)[a - 1]? with | some x => if a = 0 then 1 else E x | none => 1
def oneS (sp : Sp) (d a : Nat) (A : Ax → Ax) : Sp := match (sp d)[a - 1]? with | some x => if a = 0 then sp else put sp d ((sp d).set (a - 1) (A x)) | none => sp
theorem one_any (d D a f : Nat) (B : Nat → Nat) (sp : Sp) (caps : Array Value) (E : Ax → Nat) (A : Ax → Ax) (K : World → Prop) (w : World) (h : SpAt w D B sp) (hd : d < 2) (ha : a < 65536) (hA : Acts f caps E A K) (hK : K w) :
    Calls Try.prog 24 #[.pointer (some ⟨D, 0, none⟩), .int .i64 (d : Int), .int .u16 (a : Int), fval f caps] w fun e w' => e = .returned (.int .i64 (oneE sp d a E : Nat)) ∧ SpAt w' D B (oneS sp d a A) ∧ Chg (Of B) w w' := by
  unfold oneE oneS
  by_cases h0 : a = 0
  · subst h0
    refine (one_zero (d : Int) D (fval f caps) w).mono ?_
    rintro e w' ⟨rfl, rfl⟩
    cases (sp d)[0 - 1]? <;> exact ⟨rfl, h, Chg.refl _ _⟩
  · by_cases hl : a ≤ (sp d).length
    · obtain ⟨x, hx⟩ : ∃ x, (sp d)[a - 1]? = some x := ⟨_, List.getElem?_eq_getElem (by omega)⟩
      rw [hx]
      simp only [if_neg h0]
      refine (one_in d D a f B sp caps (fun v w' => v = .int .i64 (E x : Nat) ∧ Blk w' (B d) (acells ((sp d).set (a - 1) (A x))) 61 ∧ Chg (fun k => k = B d) w w') w h hd (by omega) hl hA.enter ?_).mono ?_
      · exact (hA.call (B d) (a - 1) (sp d) x w hx (h.ax d hd) hK).mono fun e w' ⟨h1, h2, h3⟩ => ⟨_, h1, rfl, h2, h3⟩
      · rintro e w' ⟨v, rfl, rfl, h2, h3⟩
        exact ⟨rfl, h.turned hd (by simp) h2 h3, chg_of hd h3⟩
    · rw [List.getElem?_eq_none (by omega)]
      refine (one_far d D a B sp (fval f caps) w h hd ha (by omega)).mono ?_
      rintro e w' ⟨rfl, rfl⟩
      exact ⟨rfl, h, Chg.refl _ _⟩
end Go.Proofs.Ytjfedhaafdfibaa
