/- A disk made, looked at, read, written, flushed. -/
import Derived.Test.YtneemllgimeacaaSt
namespace Go.Proofs.Ytneemllgimeacaa
open Go.RowKit

def look (s : Dsk) (a : Nat) : Option Bs := if s.dead then none else if a < s.n then tells s a else none
def readE (s : Dsk) (p : Pw) (a : Nat) : Int := if idle s p ≠ 0 then idle s p else if a < s.n then (if (tells s a).isSome then 0 else 6) else 1
def readB (s : Dsk) (p : Pw) (a : Nat) : Option Bs := if idle s p ≠ 0 then none else if a < s.n then tells s a else none
theorem toldB_slice {w0 w : World} {v : Value} {t : Option Bs} (h : ToldB w0 w v t) : ∃ sp n cap, v = .slice sp n cap := by
  cases t with
  | none => exact ⟨_, _, _, h⟩
  | some b => obtain ⟨g, h, _⟩ := h; exact ⟨_, _, _, h⟩
theorem look_nil (a : Int) (w : World) : Calls Try.prog 23 #[.pointer none, .int .u16 a] w fun e w' => e = .returned (.tuple #[.slice none 0 0, .bool false]) ∧ w = w' := by
  go_enter Try.func23, Try.ntmps23
  go_wp2_with (first | (go_at_call 30; refine (dead_nil _).mono ?_; rintro e w' ⟨rfl, rfl⟩) | fail)
  go_ret2
  exact ⟨rfl, rfl⟩
theorem read_nil (a : Int) (w : World) : Calls Try.prog 22 #[.pointer none, .int .u16 a] w fun e w' => e = .returned (.tuple #[.slice none 0 0, .int .i64 2]) ∧ w = w' := by
  go_enter Try.func22, Try.ntmps22
  go_wp2_with (first | (go_at_call 36; refine (idle_nil _).mono ?_; rintro e w' ⟨rfl, rfl⟩) | fail)
  go_ret2
  exact ⟨rfl, rfl⟩
theorem write_nil (a : Int) (v : Value) (w : World) : Calls Try.prog 25 #[.pointer none, .int .u16 a, v] w fun e w' => e = .returned (.int .i64 2) ∧ w = w' := by
  go_enter Try.func25, Try.ntmps25
  go_wp2_with (first | (go_at_call 36; refine (idle_nil _).mono ?_; rintro e w' ⟨rfl, rfl⟩) | fail)
  go_ret
  exact ⟨rfl, rfl⟩
theorem flush_nil (w : World) : Calls Try.prog 26 #[.pointer none] w fun e w' => e = .returned (.int .i64 2) ∧ w = w' := by
  go_enter Try.func26, Try.ntmps26
  go_wp2_with (first | (go_at_call 36; refine (idle_nil _).mono ?_; rintro e w' ⟨rfl, rfl⟩) | fail)
  go_ret
  exact ⟨rfl, rfl⟩
theorem crash_nil (v : Value) (hv : ∃ sp n c, v = .slice sp n c) (w : World) : Calls Try.prog 21 #[.pointer none, v] w fun e w' => e = .returned (.tuple #[]) ∧ Below w.heap.size w w' := by
  obtain ⟨sp, n, c, rfl⟩ := hv
  go_enter Try.func21, Try.ntmps21
  go_wp2_with (first | (go_at_call 30; refine (dead_nil _).mono ?_; rintro e w' ⟨rfl, rfl⟩) | fail)
  refine bodyPost_ret (results_none rfl _ _ _) rfl ?_
  exact ⟨rfl, (Below.refl _ _).alloc (Nat.le_refl _) _⟩
theorem look_any (D Q : Nat) (S : Nat → Prop) (s : Dsk) (ad : Nat) (ha : ad < 65536) (w : World) (h : DkAt w D Q S s) (hcn : s.cache.length < 1000000) :
    Calls Try.prog 23 #[.pointer (some ⟨D, 0, none⟩), .int .u16 (ad : Int)] w fun e w' => ∃ v, e = .returned (.tuple #[v, .bool (look s ad).isSome]) ∧ ToldB w w' v (look s ad) ∧ Below w.heap.size w w' := by
  have H := Lib.hid h
  have HCN := Lib.hid hcn
  clear h hcn
  unfold look
  by_cases hd : s.dead = true
  · rw [hd]
    simp only [if_true]
    go_enter Try.func23, Try.ntmps23
    go_wp2_with (first | (go_at_call 30; refine (dead_any D Q S s _ H.out).mono ?_; rw [hd]; rintro e w' ⟨rfl, rfl⟩) | fail)
    go_ret2
    exact ⟨_, rfl, rfl, Below.refl _ _⟩
  · have hd' : s.dead = false := by simpa using hd
    rw [hd']
    simp only [Bool.false_eq_true, if_false]
    clear hd
    by_cases hn : ad < s.n
    · rw [if_pos hn]
      have hde : decide (ad < s.n) = true := by simpa using hn
      clear hn
      go_enter Try.func23, Try.ntmps23
      go_wp2_with (first | (go_at_call 30; refine (dead_any D Q S s _ H.out).mono ?_; rw [hd']; rintro e w' ⟨rfl, rfl⟩) | (go_at_call 47; refine (has_any D Q S s ad ha _ H.out).mono ?_; rw [hde]; rintro e w' ⟨rfl, rfl⟩) | (go_at_call 48; refine (tell_any D Q S s ad ha _ H.out HCN.out).mono ?_; rintro e w' ⟨v, rfl, hv, hw⟩; have HV := Lib.hid hv; have HW := Lib.hid hw; clear hv hw) | fail)
      go_ret2
      exact ⟨_, rfl, HV.out, HW.out⟩
    · rw [if_neg hn]
      have hde : decide (ad < s.n) = false := by simpa using hn
      clear hn
      go_enter Try.func23, Try.ntmps23
      go_wp2_with (first | (go_at_call 30; refine (dead_any D Q S s _ H.out).mono ?_; rw [hd']; rintro e w' ⟨rfl, rfl⟩) | (go_at_call 47; refine (has_any D Q S s ad ha _ H.out).mono ?_; rw [hde]; rintro e w' ⟨rfl, rfl⟩) | fail)
      go_ret2
      exact ⟨_, rfl, rfl, Below.refl _ _⟩
theorem idle_cases (s : Dsk) (p : Pw) : idle s p = 0 ∨ idle s p = 3 := by unfold idle; split; exact .inr rfl; split; exact .inl rfl; exact .inr rfl
theorem read_any (D Q : Nat) (S : Nat → Prop) (s : Dsk) (p : Pw) (ad : Nat) (ha : ad < 65536) (w : World) (h : DkAt w D Q S s) (hp : PwAt w Q p) (hcn : s.cache.length < 1000000) :
    Calls Try.prog 22 #[.pointer (some ⟨D, 0, none⟩), .int .u16 (ad : Int)] w fun e w' => ∃ v, e = .returned (.tuple #[v, .int .i64 (readE s p ad)]) ∧ ToldB w w' v (readB s p ad) ∧ Below w.heap.size w w' := by
  have H := Lib.hid h
  have HP := Lib.hid hp
  have HCN := Lib.hid hcn
  clear h hcn hp
  unfold readE readB
  rcases idle_cases s p with hi | hi
  · rw [hi]
    simp only [ne_eq, not_true_eq_false, if_false]
    by_cases hn : ad < s.n
    · rw [if_pos hn, if_pos hn]
      have hde : decide (ad < s.n) = true := by simpa using hn
      clear hn
      obtain ⟨t, ht⟩ : ∃ t, tells s ad = t := ⟨_, rfl⟩
      rw [ht]
      cases t with
      | none =>
        have HT := Lib.hid ht
        clear ht
        go_enter Try.func22, Try.ntmps22
        go_wp2_with (first | (go_at_call 36; refine (idle_any D Q S s p _ H.out HP.out).mono ?_; rw [hi]; rintro e w' ⟨rfl, rfl⟩) | (go_at_call 47; refine (has_any D Q S s ad ha _ H.out).mono ?_; rw [hde]; rintro e w' ⟨rfl, rfl⟩) | (go_at_call 48; refine (tell_any D Q S s ad ha _ H.out HCN.out).mono ?_; rw [HT.out]; rintro e w' ⟨v, rfl, hv, hw⟩; have HV := Lib.hid hv; have HW := Lib.hid hw; clear hv hw) | fail)
        go_ret2
        exact ⟨_, rfl, rfl, HW.out⟩
      | some b =>
        have HT := Lib.hid ht
        clear ht
        go_enter Try.func22, Try.ntmps22
        go_wp2_with (first | (go_at_call 36; refine (idle_any D Q S s p _ H.out HP.out).mono ?_; rw [hi]; rintro e w' ⟨rfl, rfl⟩) | (go_at_call 47; refine (has_any D Q S s ad ha _ H.out).mono ?_; rw [hde]; rintro e w' ⟨rfl, rfl⟩) | (go_at_call 48; refine (tell_any D Q S s ad ha _ H.out HCN.out).mono ?_; rw [HT.out]; rintro e w' ⟨v, rfl, hv, hw⟩; have HV := Lib.hid hv; have HW := Lib.hid hw; clear hv hw) | fail)
        go_ret2
        exact ⟨_, rfl, HV.out, HW.out⟩
    · rw [if_neg hn, if_neg hn]
      have hde : decide (ad < s.n) = false := by simpa using hn
      clear hn
      go_enter Try.func22, Try.ntmps22
      go_wp2_with (first | (go_at_call 36; refine (idle_any D Q S s p _ H.out HP.out).mono ?_; rw [hi]; rintro e w' ⟨rfl, rfl⟩) | (go_at_call 47; refine (has_any D Q S s ad ha _ H.out).mono ?_; rw [hde]; rintro e w' ⟨rfl, rfl⟩) | fail)
      go_ret2
      exact ⟨_, rfl, rfl, Below.refl _ _⟩
  · rw [hi]
    rw [if_pos (by decide), if_pos (by decide)]
    go_enter Try.func22, Try.ntmps22
    go_wp2_with (first | (go_at_call 36; refine (idle_any D Q S s p _ H.out HP.out).mono ?_; rw [hi]; rintro e w' ⟨rfl, rfl⟩) | fail)
    go_ret2
    exact ⟨_, rfl, rfl, Below.refl _ _⟩
/-- A fresh disk. -/
def fresh (n : Nat) : Dsk := ⟨n, fun _ => blank, [], false, false, none⟩
theorem DkAt.fresh {w : World} {D Q M n : Nat} (hb : Blk w D (dcells Q M (.slice none 0 0) 0 (fresh n)) 75) (hm : MapAt w M (fun _ => blank)) (hq : Q ≠ D) (hq2 : Q ≠ M) (hn : n ≤ 65536) : DkAt w D Q (fun k => k = D ∨ k = M) (fresh n) :=
  ⟨M, .slice none 0 0, 0, hb, hm, ⟨[], rfl, fun x hx => by simp at hx, .inl ⟨none, rfl, rfl⟩⟩, .inl rfl, .inr rfl, fun h => by rcases h with h | h; exact hq h; exact hq2 h, fun k hk => by rcases hk with rfl | rfl; exact hb.lt; exact hm.lt, by omega, fun t e => by simp [Go.Proofs.Ytneemllgimeacaa.fresh] at e, hn⟩
end Go.Proofs.Ytneemllgimeacaa
