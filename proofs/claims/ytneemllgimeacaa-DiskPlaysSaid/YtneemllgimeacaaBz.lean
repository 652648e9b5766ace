/- What both disks tell of an act is one. -/
import Derived.Test.YtneemllgimeacaaYa
import Derived.Test.YtneemllgimeacaaYb
import Derived.Test.YtneemllgimeacaaYc
import Derived.Test.YtneemllgimeacaaYd
import Derived.Test.YtneemllgimeacaaYe
namespace Go.Proofs.Ytneemllgimeacaa
open Go.RowKit

theorem act_cases (k : Nat) : k = 0 ∨ k = 1 ∨ k = 2 ∨ k = 3 ∨ k = 4 ∨ k = 5 ∨ k = 6 ∨ k = 7 ∨ k = 8 ∨ k = 9 ∨ k = 10 ∨ k = 11 ∨ 12 ≤ k := by omega
theorem does_any (D Q : Nat) (S : Nat → Prop) (s : Dsk) (p : Pw) (a : Ac) (w : World) (h : Acts w D Q S s p a) : Calls Try.prog 12 #[.pointer (some ⟨D, 0, none⟩), .pointer (some ⟨Q, 0, none⟩), aval a] w (Made D Q S (done s p a) w) := by
  rcases act_cases a.act with h0 | h0 | h0 | h0 | h0 | h0 | h0 | h0 | h0 | h0 | h0 | h0 | h0
  · exact does_0 D Q S s p a w h h0
  · exact does_1 D Q S s p a w h h0
  · exact does_2 D Q S s p a w h h0
  · exact does_3 D Q S s p a w h h0
  · exact does_4 D Q S s p a w h h0
  · exact does_5 D Q S s p a w h h0
  · exact does_6 D Q S s p a w h h0
  · exact does_7 D Q S s p a w h h0
  · exact does_8 D Q S s p a w h h0
  · exact does_9 D Q S s p a w h h0
  · exact does_10 D Q S s p a w h h0
  · exact does_11 D Q S s p a w h h0
  · exact does_d D Q S s p a w h h0
theorem says_any (R q : Nat) (T : Nat → Prop) (t : Rsk) (p : Pw) (a : Ac) (w : World) (h : Asks w R q T t p a) : Calls Try.prog 13 #[.pointer (some ⟨R, 0, none⟩), aval a] w (Spoke R q T (said t p a) w) := by
  rcases act_cases a.act with h0 | h0 | h0 | h0 | h0 | h0 | h0 | h0 | h0 | h0 | h0 | h0 | h0
  · exact says_0 R q T t p a w h h0
  · exact says_1 R q T t p a w h h0
  · exact says_2 R q T t p a w h h0
  · exact says_3 R q T t p a w h h0
  · exact says_4 R q T t p a w h h0
  · exact says_5 R q T t p a w h h0
  · exact says_6 R q T t p a w h h0
  · exact says_7 R q T t p a w h h0
  · exact says_8 R q T t p a w h h0
  · exact says_9 R q T t p a w h h0
  · exact says_10 R q T t p a w h h0
  · exact says_11 R q T t p a w h h0
  · exact says_d R q T t p a w h h0
theorem act_rest {k : Nat} (h : 12 ≤ k) : k ≠ 0 ∧ k ≠ 1 ∧ k ≠ 2 ∧ k ≠ 3 ∧ k ≠ 4 ∧ k ≠ 5 ∧ k ≠ 6 ∧ k ≠ 7 ∧ k ≠ 8 ∧ k ≠ 9 ∧ k ≠ 10 ∧ k ≠ 11 := by omega
/-- Both tell the same, and stay alike. -/
theorem alike_acts {s : Dsk} {t : Rsk} (h : Sim s t) (p : Pw) (a a' : Ac) (e1 : a'.act = a.act) (e2 : a'.addr = a.addr) (e3 : abytes a' = abytes a) (e4 : a'.n = a.n) (e5 : a'.z = a.z) :
    (said t p a).1 = (done s p a').1 ∧ (said t p a).2.1 = (done s p a').2.1 ∧ Sim (done s p a').2.2.1 (said t p a).2.2.1 ∧ (said t p a).2.2.2 = (done s p a').2.2.2 := by
  obtain ⟨act, d, addr, b, spb, capb, short, n, z, spz, capz⟩ := a
  obtain ⟨act', d', addr', b', spb', capb', short', n', z', spz', capz'⟩ := a'
  simp only at e1 e2 e4 e5
  subst e1 e2 e4 e5
  rcases act_cases act' with h0 | h0 | h0 | h0 | h0 | h0 | h0 | h0 | h0 | h0 | h0 | h0 | h0
  all_goals first | subst h0 | skip
  · obtain ⟨h1, h2, h3⟩ := h.write p addr' (abytes ⟨0, d', addr', b', spb', capb', short', n', z', spz', capz'⟩)
    simp only [said, done]
    rw [← e3]
    exact ⟨trivial, h1, h2, h3⟩
  · exact ⟨h.readB p addr', h.readE p addr', h, rfl⟩
  · obtain ⟨h1, h2, h3⟩ := h.flush p
    exact ⟨rfl, h1, h2, h3⟩
  · exact ⟨rfl, rfl, h.crash z', rfl⟩
  · obtain ⟨h1, h2⟩ := h.rot addr' (abytes ⟨4, d', addr', b', spb', capb', short', n', z', spz', capz'⟩)
    simp only [said, done]
    rw [← e3]
    exact ⟨trivial, h1, h2, trivial⟩
  · obtain ⟨h1, h2⟩ := h.bads addr' (abytes ⟨5, d, addr', b, spb, capb, short, n', z', spz, capz⟩)
    exact ⟨rfl, h1, h2, rfl⟩
  · obtain ⟨h1, h2⟩ := h.sticks addr' (abytes ⟨6, d, addr', b, spb, capb, short, n', z', spz, capz⟩)
    exact ⟨rfl, h1, h2, rfl⟩
  · exact ⟨rfl, rfl, h.loses, rfl⟩
  · exact ⟨rfl, rfl, h.strays addr', rfl⟩
  · exact ⟨rfl, rfl, h.dies, rfl⟩
  · exact ⟨rfl, rfl, h, rfl⟩
  · exact ⟨rfl, rfl, h, rfl⟩
  · have e1 : said t p ⟨act', d, addr', b, spb, capb, short, n', z', spz, capz⟩ = ([], if p.step.1 then 0 else 3, t, p.step.2) := by
      unfold said
      split <;> first | rfl | (rename_i hh; simp only at hh; omega)
    have e2 : done s p ⟨act', d', addr', b', spb', capb', short', n', z', spz', capz'⟩ = ([], if p.step.1 then 0 else 3, s, p.step.2) := by
      unfold done
      split <;> first | rfl | (rename_i hh; simp only at hh; omega)
    rw [e1, e2]
    exact ⟨rfl, rfl, h, rfl⟩
end Go.Proofs.Ytneemllgimeacaa
