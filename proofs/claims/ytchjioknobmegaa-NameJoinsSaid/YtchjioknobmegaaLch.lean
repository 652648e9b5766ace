/- Names held against the document: the law, walked. -/
import Derived.Test.YtchjioknobmegaaWak
namespace Go.Proofs.Ytchjioknobmegaa
open Go.RowKit

abbrev TrueBelow (w : World) (e : Ending) (w' : World) : Prop := e = .returned (.bool true) ∧ Below w.heap.size w w'
set_option maxRecDepth 100000 in
set_option maxHeartbeats 4000000 in
theorem checks_walk (l : List UInt8) (w : World) : Calls Try.prog 3 #[.string (str l)] w (TrueBelow w) := by
  have hsz := str_size l
  by_cases h : 400 < l.length
  · go_enter Try.func3, Try.ntmps3
    go_wp2_with fail
    refine (wakes_any _).mono ?_
    rintro e w' ⟨rfl, hb⟩
    have HB := Lib.hid hb
    clear hb
    go_wp2_with fail
    go_ret
    exact ⟨rfl, HB.out⟩
  · obtain ⟨ev, he⟩ : ∃ ev : Nat, errC l = ev := ⟨_, rfl⟩
    obtain ⟨rv, hr⟩ : ∃ rv : Nat, runes l = rv := ⟨_, rfl⟩
    have HE := Lib.hid he
    have HR := Lib.hid hr
    clear he hr
    go_enter Try.func3, Try.ntmps3
    go_wp2_with fail
    refine (pCheck_any l (by omega) _).mono ?_
    rintro e w1 ⟨rfl, p1, rfl⟩
    rw [HE.out]
    go_wp2_with fail
    refine (rCheck_any l (by omega) _).mono ?_
    rintro e w1 ⟨rfl, rfl⟩
    rw [HE.out]
    go_wp2_with fail
    refine (pRunes_any l (by omega) _).mono ?_
    rintro e w1 ⟨rfl, p2, rfl⟩
    rw [HR.out]
    go_wp2_with fail
    refine (rRunes_any l (by omega) _).mono ?_
    rintro e w1 ⟨rfl, rfl⟩
    rw [HR.out]
    go_wp2_with fail
    have hb1 : Below w.heap.size w ((w.iter (str l) p1).iter (str l) p2) := ((Below.refl _ w).alloc (Nat.le_refl _) _).alloc (by simp) _
    generalize ((w.iter (str l) p1).iter (str l) p2) = W at hb1 ⊢
    refine (wakes_any _).mono ?_
    rintro e w' ⟨rfl, hb⟩
    have HB := Lib.hid (hb1.trans (hb.mono hb1.size))
    clear hb hb1
    go_wp2_with fail
    go_ret
    exact ⟨rfl, HB.out⟩
end Go.Proofs.Ytchjioknobmegaa
