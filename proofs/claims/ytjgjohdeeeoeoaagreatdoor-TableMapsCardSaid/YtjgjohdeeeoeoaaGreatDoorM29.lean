/- Trees, plain: what is read of a tree that stands on a shelf. -/
import Derived.Test.YtjgjohdeeeoeoaaGreatDoorM22
set_option linter.all false
namespace Go.Proofs.YtjgjohdeeeoeoaaGreatDoor
open Go.RowKit
variable {b : Bs} {bl bl' : List Bs} {l : List Lf} {h mids ns : List Pt} {g lv n off : Nat} {p q root : Pt} {s : Sh}
theorem Lj (h : 1 ≤ lv ∧ lv ≤ 2) (hn : 1 ≤ n) : fz (iu (km lv 0 off) n b) = true := by
 have a0 : n ≠ 0 := by omega
 have h3 : lv ≤ 2 := h.2;have h1 : 1 ≤ lv := h.1;unfold fz jg k7 ri;simp [iu, ph, km, eo, mh, wi, nh, ly, List.range_succ, a0, h1, h3]
def IsN (bl : List Bs) (lv off : Nat) (q : Pt) (ns : List Pt) : Prop :=
 NOK ns ∧ ((q = zeroP ∧ ns = holes) ∨ (ns ≠ holes ∧ jy ns = true ∧ ∃ k, k < 30000 ∧ bl[k]? = some (co ns) ∧ q = iu (km lv 0 off) (k + 1) (co ns)))
theorem dn (h : p ≠ q) : eqP p q = false := by rw [Bool.eq_false_iff]; intro e; exact h (rj.1 e)
theorem Ic : iu (km lv 0 off) n b ≠ zeroP := fun h => by
 have : (iu (km lv 0 off) n b).kind = zeroP.kind := by rw [h]
 cases this
theorem IsN.mono (h : IsN bl lv off q ns) (hp : ∀ (k : Nat) (b : Bs), bl[k]? = some b → bl'[k]? = some b) : IsN bl' lv off q ns := by
 obtain ⟨h1, h2⟩ := h;refine ⟨h1, ?_⟩;rcases h2 with h2 | ⟨a, b, k, c, d, e⟩
 ·exact .inl h2
 ·exact .inr ⟨a, b, k, c, hp _ _ d, e⟩
theorem IsN.hole (h : IsN bl lv off q ns) : q = zeroP ↔ ns = holes := by
 rcases h.2 with ⟨h1, h2⟩ | ⟨a, b, k, c, d, e⟩
 ·exact ⟨fun _ => h2, fun _ => h1⟩
 ·constructor
  ·intro h1; rw [e] at h1; exact absurd h1 Ic
  ·intro h1; exact absurd h1 a
theorem IsN.ok (h : IsN bl lv off q ns) (hl : lv < 256 ∧ off < 4294967296) : q.OK := by
 rcases h.2 with ⟨h1, h2⟩ | ⟨a, b, k, c, d, e⟩
 ·rw [h1]; exact ak
 ·rw [e]; exact sg (sx hl.1 (by omega) hl.2) (by omega) _
theorem IsN.fine (h : IsN bl lv off q ns) (hl : 1 ≤ lv ∧ lv ≤ 2) : j6 q = true := by
 unfold j6;rcases h.2 with ⟨h1, h2⟩ | ⟨a, b, k, c, d, e⟩
 ·rw [h1, br]; rfl
 ·rw [e, Lj hl (by omega), Bool.or_true]
theorem IsN.tag (h : IsN bl lv off q ns) (hq : q ≠ zeroP) : q.kind = 3 ∧ q.level = lv ∧ q.off = off ∧ 1 ≤ q.birth ∧ q.birth ≤ bl.length := by
 rcases h.2 with ⟨h1, h2⟩ | ⟨a, b, k, c, d, e⟩
 ·exact absurd h1 hq
 ·have := (List.getElem?_eq_some_iff.1 d).1
  rw [e];exact ⟨rfl, rfl, rfl, by show 1 ≤ k + 1; omega, by show k + 1 ≤ _; omega⟩
def lz (s : Sh) (q : Pt) : Bool := s.bad.any (fun x => x == at0 q)
theorem IsN.read (h : IsN s.blocks lv off q ns) (hq : q ≠ zeroP) : rnE s q = (if lz s q then 21 else 0) ∧ (lz s q = false → rnN s q = ns) ∧ rnS s q = rdS s q := by
 have hz : eqP q zeroP = false := dn hq;rcases h.2 with ⟨h1, h2⟩ | ⟨a, b, k, c, d, e⟩
 ·exact absurd h1 hq
 ·have a0 := (List.getElem?_eq_some_iff.1 d).1
  have ha : at0 q = k + 1 := (by rw [e]; rfl);obtain ⟨p1, p2⟩ := Fo h.1 b
  have hE : rdE s q = if lz s q then 21 else 0 := by
   unfold rdE lz;by_cases hh : s.bad.any (fun x => x == at0 q) = true
   ·rw [if_pos hh, if_pos hh]
   ·rw [if_neg hh, if_neg hh, if_neg (by rw [ha]; omega)]
  have hB : lz s q = false → rdB s q = co ns := fun hh => by
   unfold lz at hh;unfold rdB;rw [if_neg (by rw [hh]; simp), if_neg (by rw [ha]; omega), ha, List.getD_eq_getElem?_getD, Nat.add_sub_cancel, d];rfl
  refine ⟨?_, fun hh => ?_, ?_⟩
  ·unfold rnE
   rw [hz, hE];cases hh : lz s q
   ·rw [hB hh, p1]; rfl
   ·rfl
  ·unfold rnN
   rw [hz, hE, hh, hB hh, p2]; rfl
  ·unfold rnS
   rw [hz]; rfl
def grp (h : List Pt) (i : Nat) : List Pt := (h.drop (8 * i)).take 8
def IsT (bl : List Bs) (root : Pt) (h mids : List Pt) : Prop := h.length = 64 ∧ (∀ p ∈ h, p.OK) ∧ IsN bl 2 0 root mids ∧ ∀ i q, mids[i]? = some q → IsN bl 1 i q (grp h i)
theorem Ht (hl : h.length = 64) (ho : off < 64) : (grp h (off / 8))[off % 8]? = h[off]? := by
 unfold grp;rw [List.getElem?_take, if_pos (by omega), List.getElem?_drop];congr 1;omega
theorem IsT.mono (ht : IsT bl root h mids) (hp : ∀ (k : Nat) (b : Bs), bl[k]? = some b → bl'[k]? = some b) : IsT bl' root h mids := ⟨ht.1, ht.2.1, ht.2.2.1.mono hp, fun i q hq => (ht.2.2.2 i q hq).mono hp⟩
theorem IsT.mid (ht : IsT bl root h mids) {i : Nat} (hi : i < 8) : ∃ q, mids[i]? = some q ∧ IsN bl 1 i q (grp h i) := by
 obtain ⟨q, hq⟩ := ht.2.2.1.1.get hi;exact ⟨q, hq, ht.2.2.2 i q hq⟩
theorem IsT.ref0 (ht : IsT bl root h mids) : mu root = 0 := by
 unfold mu;rcases ht.2.2.1.2 with ⟨h1, h2⟩ | ⟨a, b, k, c, d, e⟩
 ·rw [h1, br]; rfl
 ·rw [e, dn Ic, Lj (by omega) (by omega)]
  rfl
def More (s s' : Sh) (rs : List Pt) : Prop := s' = { s with read0 := s.read0 ++ rs }
theorem More.refl (s : Sh) : More s s [] := by unfold More; simp
theorem More.rd (s : Sh) (q : Pt) : More s (rdS s q) [q] := rfl
theorem More.trans {a b c : Sh} {r r' : List Pt} (h : More a b r) (h' : More b c r') : More a c (r ++ r') := by
 unfold More at *;rw [h', h];simp
theorem vw (fr tt : Nat) (s : Sh) (ns : List Pt) (ls : List Lf) (q : Pt) (a : Nat) : bg fr tt 0 s ns ls q a = ⟨0, s, ns, ls ++ (if eqP q zeroP = true then [] else [(a, q)])⟩ := by
 unfold bg;cases eqP q zeroP <;> simp
theorem uh {f : Sh → List Pt → List Lf → Pt → Nat → Bw} {wide first off j : Nat} (hw : 0 < wide) (h1 : first + j * wide ≤ off) (h2 : off < first + j * wide + wide) : ∀ (qs : List Pt) (i : Nat) (s : Sh) (ns : List Pt) (ls : List Lf),
  (j < i → goB f wide first off (off + 1) qs i s ns ls = ⟨0, s, ns, ls⟩) ∧ (∀ q, i ≤ j → qs[j - i]? = some q → goB f wide first off (off + 1) qs i s ns ls = f s ns ls q (first + j * wide))
 | [], i, s, ns, ls => ⟨fun _ => rfl, fun q _ h => by simp at h⟩
 | q :: qs, i, s, ns, ls => by
  constructor
  ·intro hi
   have e : (j + 1) * wide ≤ i * wide := Nat.mul_le_mul_right wide hi;rw [Nat.add_mul, Nat.one_mul] at e;rw [jc (.inr (by omega))];exact (uh hw h1 h2 qs (i + 1) s ns ls).1 (by omega)
  ·intro q' hi hq
   by_cases e : i = j
   ·subst e
    rw [Nat.sub_self] at hq;simp only [List.getElem?_cons_zero, Option.some.injEq] at hq;subst hq;have hc : ¬ (first + i * wide + wide ≤ off ∨ off + 1 ≤ first + i * wide) := (by omega);by_cases he : (f s ns ls q (first + i * wide)).e = 0
    ·rw [mp hc he, (uh hw h1 h2 qs (i + 1) _ _ _).1 (by omega)]
     have : ∀ r : Bw, r.e = 0 → (⟨0, r.s, r.ns, r.ls⟩ : Bw) = r := fun r hr => by cases r; simp only at hr; rw [hr]
     exact this _ he
    ·rw [ug hc he]
   ·have a0 : i < j := by omega
    have e : (i + 1) * wide ≤ j * wide := Nat.mul_le_mul_right wide a0;rw [Nat.add_mul, Nat.one_mul] at e;rw [jc (.inl (by omega))];refine (uh hw h1 h2 qs (i + 1) s ns ls).2 q' (by omega) ?_;rw [show j - i = (j - (i + 1)) + 1 by omega, List.getElem?_cons_succ] at hq;exact hq
def dq (root : Pt) (mids : List Pt) : List Pt := if eqP root zeroP = true then [] else root :: mids.filter (fun q => !eqP q zeroP)
theorem tk (h : root ≠ zeroP) : root ∈ dq root mids := by unfold dq; rw [if_neg (by rw [dn h]; simp)]; simp
theorem Pd (h : root ≠ zeroP) (hq : q ∈ mids) (hz : q ≠ zeroP) : q ∈ dq root mids := by
 unfold dq;rw [if_neg (by rw [dn h]; simp)];exact List.mem_cons_of_mem _ (List.mem_filter.2 ⟨hq, by rw [dn hz]; rfl⟩)
theorem Sl (ht : IsT s.blocks root h mids) (ho : off < 64) : ∃ rs, More s (jb s root off) rs ∧ (∀ q ∈ rs, q ∈ dq root mids) ∧
  ((rs.any (lz s) = false ∧ lg s root off = 0 ∧ some (jm s root off) = h[off]?) ∨ (rs.any (lz s) = true ∧ lg s root off = 21 ∧ jm s root off = zeroP)) := by
 have hr := ht.ref0;have a8 : ¬ 64 ≤ off := by omega
 obtain ⟨q, hq, hn⟩ := ht.mid (show off / 8 < 8 by omega);obtain ⟨p, hp⟩ : ∃ p, h[off]? = some p := ⟨_, List.getElem?_eq_getElem (by rw [ht.1]; exact ho)⟩;have a1 : (grp h (off / 8))[off % 8]? = some p := by rw [Ht ht.1 ho, hp]
 have eE : lg s root off = (tj s root off).e := by unfold lg; rw [if_neg (by omega), if_neg a8]
 have eS : jb s root off = (tj s root off).s := by unfold jb; rw [if_neg (by omega)]
 have eP : jm s root off = if (tj s root off).e ≠ 0 then zeroP else io (tj s root off).ls := by
  unfold jm;by_cases he : (tj s root off).e = 0
  ·rw [if_neg (by omega), if_neg (by omega)]
  ·rw [if_pos (by omega), if_pos (by omega)]
 rw [eE, eS, eP]
 have a6 : q = zeroP → p = zeroP := fun e => by
  have := hn.hole.1 e;rw [this] at a1;simp only [holes, List.getElem?_replicate] at a1;rw [if_pos (by omega)] at a1;exact (Option.some.inj a1).symm
 have a9 : root = zeroP → q = zeroP := fun e => by
  have := ht.2.2.1.hole.1 e;rw [this] at hq;simp only [holes, List.getElem?_replicate] at hq;rw [if_pos (by omega)] at hq;exact (Option.some.inj hq).symm
 unfold tj;by_cases h0 : root = zeroP
 ·have hb : bg off (off + 1) 2 s [] [] root 0 = ⟨0, s, [], []⟩ := by rw [bu, h0, br]; rfl
  rw [hb];exact ⟨[], More.refl s, fun q hq => (by cases hq), .inl ⟨rfl, rfl, by rw [hp, a6 (a9 h0)]; rfl⟩⟩
 ·obtain ⟨r1, r2, r3⟩ := ht.2.2.1.read h0
  by_cases hh : lz s root = true
  ·have hb : bg off (off + 1) 2 s [] [] root 0 = ⟨21, rdS s root, [], []⟩ := by
    rw [bu, dn h0, r1, r3, if_pos hh]; rfl
   rw [hb];refine ⟨[root], rfl, fun q hq => ?_, .inr ⟨by simp [hh], rfl, rfl⟩⟩;rw [List.mem_singleton.1 hq];exact tk h0
  ·have a3 : lz s root = false := by simpa using hh
   have hb : bg off (off + 1) 2 s [] [] root 0 = bg off (off + 1) 1 (rdS s root) [root] [] q (0 + off / 8 * 8) := by
    rw [bu, dn h0, r1, r3, if_neg hh, r2 a3];exact (uh (f := bg off (off + 1) 1) (wide := 8 ^ 1) (first := 0) (off := off) (j := off / 8) (by decide) (by show 0 + off / 8 * 8 ≤ off; omega) (by show off < 0 + off / 8 * 8 + 8; omega) mids 0 (rdS s root) [root] []).2 q (by omega) (by rw [Nat.sub_zero]; exact hq)
   rw [hb];by_cases hq0 : q = zeroP
   ·have a0 : bg off (off + 1) 1 (rdS s root) [root] [] q (0 + off / 8 * 8) = ⟨0, rdS s root, [root], []⟩ := by rw [bu, hq0, br]; rfl
    rw [a0];refine ⟨[root], rfl, fun q hq => ?_, .inl ⟨by simp [a3], rfl, by rw [hp, a6 hq0]; rfl⟩⟩;rw [List.mem_singleton.1 hq];exact tk h0
   ·have a7 : IsN (rdS s root).blocks 1 (off / 8) q (grp h (off / 8)) := hn
    obtain ⟨t1, t2, t3⟩ := a7.read hq0;have a4 : lz (rdS s root) q = lz s q := rfl;rw [a4] at t1 t2
    have a2 : ∀ a ∈ [root] ++ [q], a ∈ dq root mids := fun a ha => by
     rcases List.mem_append.1 ha with ha | ha
     ·rw [List.mem_singleton.1 ha]; exact tk h0
     ·rw [List.mem_singleton.1 ha]; exact Pd h0 (List.mem_of_getElem? hq) hq0
    by_cases h2 : lz s q = true
    ·have a0 : bg off (off + 1) 1 (rdS s root) [root] [] q (0 + off / 8 * 8) = ⟨21, rdS (rdS s root) q, [root], []⟩ := by
      rw [bu, dn hq0, t1, t3, if_pos h2]; rfl
     rw [a0];exact ⟨[root] ++ [q], (More.rd s root).trans (More.rd _ q), a2, .inr ⟨by simp [h2], rfl, rfl⟩⟩
    ·have a5 : lz s q = false := by simpa using h2
     have a0 : bg off (off + 1) 1 (rdS s root) [root] [] q (0 + off / 8 * 8) = bg off (off + 1) 0 (rdS (rdS s root) q) ([root] ++ [q]) [] p (0 + off / 8 * 8 + off % 8 * 1) := by
      rw [bu, dn hq0, t1, t3, if_neg h2, t2 a5];exact (uh (f := bg off (off + 1) 0) (wide := 8 ^ 0) (first := 0 + off / 8 * 8) (off := off) (j := off % 8) (by decide) (by show 0 + off / 8 * 8 + off % 8 * 1 ≤ off; omega) (by show off < 0 + off / 8 * 8 + off % 8 * 1 + 1; omega) (grp h (off / 8)) 0 (rdS (rdS s root) q) ([root] ++ [q]) []).2 p (by omega) (by rw [Nat.sub_zero]; exact a1)
     rw [a0, vw];refine ⟨[root] ++ [q], (More.rd s root).trans (More.rd _ q), a2, .inl ⟨by simp [a3, a5], rfl, ?_⟩⟩;rw [hp];show some (if (0 : Nat) ≠ 0 then zeroP else _) = _;rw [if_neg (by omega)];by_cases hp0 : p = zeroP
     ·rw [hp0, br]; rfl
     ·rw [dn hp0]; rfl
def nz : Nat → List Pt → List Lf
 | _, [] => []
 | i, q :: qs => if eqP q zeroP = true then nz (i + 1) qs else (i, q) :: nz (i + 1) qs
theorem sj : ∀ (a b : List Pt) (i : Nat), nz i (a ++ b) = nz i a ++ nz (i + a.length) b
 | [], b, i => by simp [nz]
 | q :: a, b, i => by
  have ih := sj a b (i + 1);simp only [List.cons_append, nz, List.length_cons, ih, show i + (a.length + 1) = i + 1 + a.length by omega];split <;> simp
theorem Fb (i : Nat) : nz i holes = [] := rfl
theorem Et {first : Nat} : ∀ (qs : List Pt) (i : Nat) (s : Sh) (ns : List Pt) (ls : List Lf), first + i + qs.length ≤ 64 → goB (bg 0 64 0) (8 ^ 0) first 0 64 qs i s ns ls = ⟨0, s, ns, ls ++ nz (first + i) qs⟩
 | [], i, s, ns, ls, _ => by rw [L0]; simp [nz]
 | q :: qs, i, s, ns, ls, hl => by
  simp only [List.length_cons] at hl;have hc : ¬ (first + i * 8 ^ 0 + 8 ^ 0 ≤ 0 ∨ 64 ≤ first + i * 8 ^ 0) := (by omega);rw [mp hc (by rw [vw]), vw];rw [Et qs (i + 1) s ns _ (by omega)];simp only [nz];rw [show first + i * 8 ^ 0 = first + i by omega, show first + (i + 1) = first + i + 1 by omega];split <;> simp
theorem vz (h : List Pt) (i : Nat) : h.drop (8 * i) = grp h i ++ h.drop (8 * (i + 1)) := by
 unfold grp;rw [show 8 * (i + 1) = 8 * i + 8 by omega, ← List.drop_drop, List.take_append_drop]
theorem zi {h : List Pt} (hl : h.length = 64) : ∀ (qs : List Pt) (i : Nat) (s : Sh) (ns : List Pt) (ls : List Lf), i + qs.length = 8 → s.bad = [] → (∀ j q, qs[j]? = some q → IsN s.blocks 1 (i + j) q (grp h (i + j))) →
  ∃ rs, goB (bg 0 64 1) (8 ^ 1) 0 0 64 qs i s ns ls = ⟨0, { s with read0 := s.read0 ++ rs }, ns ++ qs.filter (fun q => !eqP q zeroP), ls ++ nz (8 * i) (h.drop (8 * i))⟩
 | [], i, s, ns, ls, hi, _, _ => ⟨[], by
  rw [L0];have : h.drop (8 * i) = [] := List.drop_of_length_le (by simp at hi; omega);rw [this]
  simp [nz]⟩
 | q :: qs, i, s, ns, ls, hi, hb, hq => by
  simp only [List.length_cons] at hi;have hn := hq 0 q rfl;rw [Nat.add_zero] at hn;have hc : ¬ (0 + i * 8 ^ 1 + 8 ^ 1 ≤ 0 ∨ 64 ≤ 0 + i * 8 ^ 1) := (by omega);have a2 : (grp h i).length = 8 := hn.1.len;by_cases h0 : q = zeroP
  ·have a0 : ∀ a, bg 0 64 1 s ns ls q a = ⟨0, s, ns, ls⟩ := fun a => by rw [bu, h0, br]; rfl
   rw [mp hc (by rw [a0]), a0];obtain ⟨rs, a1⟩ := zi hl qs (i + 1) s ns ls (by omega) hb (fun j q' hj => by rw [show i + 1 + j = i + (j + 1) by omega]; exact hq (j + 1) q' (by simpa using hj));refine ⟨rs, ?_⟩;rw [a1, vz h i, sj, hn.hole.1 h0, Fb, h0, List.filter_cons_of_neg (by rw [br]; simp)];simp [holes, show 8 * (i + 1) = 8 * i + 8 by omega]
  ·obtain ⟨r1, r2, r3⟩ := hn.read h0
   have hh : lz s q = false := (by unfold lz; rw [hb]; rfl);rw [hh] at r1
   have a0 : bg 0 64 1 s ns ls q (0 + i * 8 ^ 1) = ⟨0, rdS s q, ns ++ [q], ls ++ nz (8 * i) (grp h i)⟩ := by
    rw [bu, dn h0, r1, r3, r2 hh];have := Et (first := 0 + i * 8 ^ 1) (grp h i) 0 (rdS s q) (ns ++ [q]) ls (by omega);rw [show 0 + i * 8 ^ 1 + 0 = 8 * i by omega] at this;exact this
   rw [mp hc (by rw [a0]), a0];obtain ⟨rs, a1⟩ := zi hl qs (i + 1) (rdS s q) (ns ++ [q]) (ls ++ nz (8 * i) (grp h i)) (by omega) hb (fun j q' hj => by rw [show i + 1 + j = i + (j + 1) by omega]; exact hq (j + 1) q' (by simpa using hj));refine ⟨[q] ++ rs, ?_⟩;rw [a1, vz h i, sj, a2, List.filter_cons_of_pos (by rw [dn h0]; rfl)];simp [rdS, show 8 * (i + 1) = 8 * i + 8 by omega]
theorem E0 (ht : IsT s.blocks root h mids) (hb : s.bad = []) : (∃ rs, More s (ky s root) rs) ∧ pp s root = 0 ∧ sz s root = nz 0 h ∧ td s root = dq root mids := by
 have hr := ht.ref0
 have a3 : ∃ rs, Gy s root = ⟨0, { s with read0 := s.read0 ++ rs }, dq root mids, nz 0 h⟩ := by
  unfold Gy;by_cases h0 : root = zeroP
  ·have hm := ht.2.2.1.hole.1 h0
   have a0 : bg 0 64 2 s [] [] root 0 = ⟨0, s, [], []⟩ := (by rw [bu, h0, br]; rfl);refine ⟨[], ?_⟩;rw [a0]
   have a1 : nz 0 h = [] := by
    have hg : ∀ i, i < 8 → grp h i = holes := fun i hi => by
     obtain ⟨q, hq, hn⟩ := ht.mid hi;rw [hm] at hq;simp only [holes, List.getElem?_replicate] at hq;rw [if_pos (by omega)] at hq;exact hn.hole.1 (Option.some.inj hq).symm
    have hd : ∀ k, k ≤ 8 → nz (8 * (8 - k)) (h.drop (8 * (8 - k))) = [] := by
     intro k
     induction k with
     | zero => intro _; rw [List.drop_of_length_le (by rw [ht.1]; omega)]; rfl
     | succ k ih =>
      intro hk;have := ih (by omega);rw [show 8 - k = (8 - (k + 1)) + 1 by omega] at this;rw [vz, sj, hg _ (by omega), Fb, show (holes : List Pt).length = 8 from rfl];rw [show 8 * (8 - (k + 1)) + 8 = 8 * (8 - (k + 1) + 1) by omega];rw [this]; rfl
    have := hd 8 (Nat.le_refl _);simpa using this
   unfold dq;rw [h0, br, a1];simp
  ·obtain ⟨r1, r2, r3⟩ := ht.2.2.1.read h0
   have hh : lz s root = false := (by unfold lz; rw [hb]; rfl);rw [hh] at r1;obtain ⟨rs, a2⟩ := zi ht.1 mids 0 (rdS s root) [root] [] (by rw [ht.2.2.1.1.len]) hb (fun j q hj => by rw [Nat.zero_add]; exact ht.2.2.2 j q hj);refine ⟨[root] ++ rs, ?_⟩;rw [bu, dn h0, r1, r3, r2 hh];show goB (bg 0 64 1) (8 ^ 1) 0 0 64 mids 0 (rdS s root) ([] ++ [root]) [] = _;rw [List.nil_append, a2];unfold dq;rw [dn h0];simp [rdS]
 obtain ⟨rs, hk⟩ := a3;have eE : pp s root = 0 := by unfold pp; rw [if_neg (by omega), hk]
 refine ⟨⟨rs, by unfold ky More; rw [if_neg (by omega), hk]⟩, eE, ?_, ?_⟩
 ·unfold sz; rw [if_neg (by omega), hk]
 ·unfold td; rw [if_neg (by omega), hk]
def Ji (m : List Pt) (l : List Lf) : List Pt := l.foldl (fun m x => m.set (x.1 % 8) x.2) m
def ei (h : List Pt) (l : List Lf) : List Pt := l.foldl (fun m x => m.set x.1 x.2) h
def one (p : Pt) : List Pt := if eqP p zeroP = true then [] else [p]
theorem qu : one zeroP = [] := by unfold one; rw [br]; rfl
theorem A2 (h : p ≠ zeroP) : one p = [p] := by unfold one; rw [dn h]; rfl
structure Asc (l : List Lf) : Prop where
 asc : l.Pairwise (fun a b => a.1 < b.1)
 lt : ∀ x ∈ l, x.1 < 64
 ok : ∀ x ∈ l, x.2.OK ∧ j6 x.2 = true
theorem Asc.drop (h : Asc l) (n : Nat) : Asc (l.drop n) := ⟨h.asc.sublist (List.drop_sublist _ _), fun x hx => h.lt x (List.mem_of_mem_drop hx), fun x hx => h.ok x (List.mem_of_mem_drop hx)⟩
theorem Asc.take (h : Asc l) (n : Nat) : Asc (l.take n) := ⟨h.asc.sublist (List.take_sublist _ _), fun x hx => h.lt x (List.mem_of_mem_take hx), fun x hx => h.ok x (List.mem_of_mem_take hx)⟩
theorem sy (m : List Pt) (x : Lf) (l : List Lf) : Ji m (x :: l) = Ji (m.set (x.1 % 8) x.2) l := rfl
theorem o5 (m : List Pt) (x : Lf) (l : List Lf) : ei m (x :: l) = ei (m.set x.1 x.2) l := rfl
theorem Gi (m : List Pt) (a b : List Lf) : ei m (a ++ b) = ei (ei m a) b := by unfold ei; rw [List.foldl_append]
theorem o6 : ∀ (l : List Lf) (m : List Pt), (ei m l).length = m.length
 | [], _ => rfl
 | x :: l, m => by rw [o5, o6 l, List.length_set]
theorem F3 : ∀ (l : List Lf) (m : List Pt) (p : Pt), p ∈ ei m l → p ∈ m ∨ ∃ x ∈ l, p = x.2
 | [], m, p, h => .inl h
 | x :: l, m, p, h => by
  rw [o5] at h;rcases F3 l _ p h with h1 | ⟨y, hy, e⟩
  ·rcases List.mem_or_eq_of_mem_set h1 with h2 | h2
   ·exact .inl h2
   ·exact .inr ⟨x, by simp, h2⟩
  ·exact .inr ⟨y, by simp [hy], e⟩
theorem Gj : ∀ (l : List Lf) (m : List Pt), NOK m → (∀ x ∈ l, x.2.OK) → NOK (Ji m l)
 | [], _, h, _ => h
 | x :: l, m, h, ho => by
  rw [sy];exact Gj l _ (h.set _ (ho x (by simp))) (fun y hy => ho y (by simp [hy]))
theorem F4 : ∀ (l : List Lf) (m : List Pt) (p : Pt), p ∈ Ji m l → p ∈ m ∨ ∃ x ∈ l, p = x.2
 | [], m, p, h => .inl h
 | x :: l, m, p, h => by
  rw [sy] at h;rcases F4 l _ p h with h1 | ⟨y, hy, e⟩
  ·rcases List.mem_or_eq_of_mem_set h1 with h2 | h2
   ·exact .inl h2
   ·exact .inr ⟨x, by simp, h2⟩
  ·exact .inr ⟨y, by simp [hy], e⟩
theorem Hp (h : p ∈ holes) : j6 p = true := by rw [List.eq_of_mem_replicate h]; unfold j6; rw [br]; rfl
theorem IsN.fines (h : IsN bl lv off q ns) : ∀ p ∈ ns, j6 p = true := fun p hp => by
 rcases h.2 with ⟨h1, h2⟩ | ⟨a, b, _⟩
 ·rw [h2] at hp; exact Hp hp
 ·exact List.all_eq_true.1 b p hp
theorem a1w (was : List Pt) : ∀ (l : List Lf) (fuel : Nat) (s : Sh) (now : List Pt), l.length ≤ fuel → l.Pairwise (fun a b => a.1 < b.1) → goW (c7 0 0) (8 ^ 0) was fuel s now l = ⟨Ji now l, 0, s⟩
 | [], fuel, s, now, _, _ => yn
 | x :: xs, 0, s, now, h, _ => by simp at h
 | x :: xs, fuel + 1, s, now, h, hp => by
  have hh : d7 (8 ^ 0) (x :: xs) = 1 := by
   show 1 + (xs.takeWhile (fun y => decide (y.1 / 8 ^ 0 = x.1 / 8 ^ 0))).length = 1
   have : xs.takeWhile (fun y => decide (y.1 / 8 ^ 0 = x.1 / 8 ^ 0)) = [] := by
    cases xs with
    | nil => rfl
    | cons y ys =>
     have a0 := (List.pairwise_cons.1 hp).1 y (by simp);rw [List.takeWhile_cons_of_neg];simp;omega
   rw [this]; rfl
  have hf : ∀ q, c7 0 0 s q ((x :: xs).take (d7 (8 ^ 0) (x :: xs))) = ⟨x.2, 0, s⟩ := fun q => by rw [hh]; rfl
  rw [zk (by simp) (by rw [hf]), hf, hh];have := a1w was xs fuel s (now.set (x.1 % 8) x.2) (by simp at h; omega) (List.pairwise_cons.1 hp).2;rw [sy, ← this];simp
def ul (was now : List Pt) : Nat → List Pt → List Pt
 | _, [] => []
 | i, p :: ps => (if Bl was now i p = true then [p] else []) ++ ul was now (i + 1) ps
theorem F1 (was now : List Pt) : ∀ (ps : List Pt) (i : Nat) (s : Sh), m4 was now i ps s = { s with gone := s.gone ++ ul was now i ps }
 | [], i, s => by simp [m4, ul]
 | p :: ps, i, s => by
  rw [zw, F1 was now ps];cases h : Bl was now i p
  ·simp [ul, h]
  ·simp [ul, h, oldS]
theorem Fd (s : Sh) (p : Pt) (was now : List Pt) : qr s p 1 was now = { s with gone := s.gone ++ (ul was now 0 was ++ one p) } := by
 unfold qr um;simp only [if_true];rw [F1];by_cases h : p = zeroP
 ·rw [h, br, qu]; simp
 ·rw [dn h, A2 h]; simp [oldS]
theorem Fe (s : Sh) (p : Pt) (was now : List Pt) : qr s p 2 was now = { s with gone := s.gone ++ one p } := by
 unfold qr;simp only [show ¬ (2 : Nat) = 1 by omega, if_false];by_cases h : p = zeroP
 ·rw [h, br, qu]; simp
 ·rw [dn h, A2 h]; simp [oldS]
theorem Df (s : Sh) (p : Pt) : rnS s p = { s with read0 := s.read0 ++ one p } := by
 unfold rnS;by_cases h : p = zeroP
 ·rw [h, br, qu]; simp
 ·rw [dn h, A2 h]; rfl
theorem Zy (h : IsN s.blocks lv off q ns) : (rnE s q = 0 ∧ rnN s q = ns) ∨ (rnE s q = 21 ∧ s.bad ≠ []) := by
 by_cases h0 : q = zeroP
 ·refine .inl ⟨?_, ?_⟩
  ·unfold rnE; rw [h0, br]; rfl
  ·unfold rnN; rw [h0, br, (h.hole.1 h0)]; rfl
 ·obtain ⟨r1, r2, _⟩ := h.read h0
  cases hh : lz s q
  ·rw [hh] at r1; exact .inl ⟨r1, r2 hh⟩
  ·rw [hh] at r1
   refine .inr ⟨r1, fun hb => ?_⟩;unfold lz at hh;rw [hb] at hh;cases hh
structure Nw (lv g : Nat) (s : Sh) (q : Pt) (was now : List Pt) (r : Ww) : Prop where
 e : r.e = 0 ∨ r.e = 21 ∨ r.e = 30
 pre : ∀ (k : Nat) (b : Bs), s.blocks[k]? = some b → r.s.blocks[k]? = some b
 ok : r.e = 0 → IsN r.s.blocks lv g r.p now
 len : r.s.blocks.length ≤ s.blocks.length + 1
 bd : r.s.bad = s.bad
 full : s.bad = [] → s.room = -1 → r.e = 0 ∧ r.s.room = -1 ∧ (now = was → r.p = q ∧ r.s.made = s.made ∧ r.s.gone = s.gone) ∧
  (now ≠ was → r.s.gone = s.gone ++ ((if lv = 1 then ul was now 0 was else []) ++ one q) ∧ r.s.made = s.made ++ one r.p ∧ (r.p = zeroP ∨ s.blocks.length < r.p.birth))
theorem Ee {s0 : Sh} {was now : List Pt} (hlv : lv = 1 ∨ lv = 2) (hq : IsN s.blocks lv g q was) (hnow : NOK now) (hfine : ∀ p ∈ now, j6 p = true) (hoff : off = g) (hlen : s.blocks.length < 30000)
  (h0 : s.blocks = s0.blocks ∧ s.bad = s0.bad ∧ s.room = s0.room ∧ s.made = s0.made ∧ s.gone = s0.gone) : Nw lv g s0 q was now (u5 0 lv q was off ⟨now, 0, s⟩) := by
 obtain ⟨b1, b2, b3, b4, b5⟩ := h0;subst hoff
 have a1 : ∃ gn, qr s q lv was now = { s with gone := s.gone ++ gn } ∧ gn = (if lv = 1 then ul was now 0 was else []) ++ one q := by
  rcases hlv with rfl | rfl
  ·exact ⟨_, Fd s q was now, rfl⟩
  ·exact ⟨_, Fe s q was now, rfl⟩
 obtain ⟨gn, ho, a2⟩ := a1;unfold u5;simp only [ne_eq, not_true, if_false];by_cases hc : now = was
 ·rw [if_pos hc]
  refine ⟨.inl rfl, fun k b h => by rw [b1]; exact h, fun _ => by rw [hc]; exact hq, by rw [b1]; omega, b2, fun _ hr => ⟨rfl, by rw [b3]; exact hr, fun _ => ⟨rfl, b4, b5⟩, fun h => absurd hc h⟩⟩
 ·rw [if_neg hc]
  simp only [ho];unfold anP anE anS;by_cases hh : now = holes
  ·simp only [if_pos hh]
   exact ⟨.inl rfl, fun k b h => by show s.blocks[k]? = some b; rw [b1]; exact h, fun _ => ⟨hnow, .inl ⟨rfl, hh⟩⟩, by show s.blocks.length ≤ _; rw [b1]; omega, b2, fun _ hr => ⟨rfl, by show s.room = -1; rw [b3]; exact hr, fun h => absurd h hc, fun _ => ⟨by show s.gone ++ gn = _; rw [b5, a2], by show s.made = _; rw [b4, qu, List.append_nil], .inl rfl⟩⟩⟩
  ·have a3 : jy now = true := List.all_eq_true.2 hfine
   simp only [if_neg hh, a3, Bool.true_eq_false, if_false];by_cases hf : ja s
   ·have a0 : ∀ gn, ja { s with gone := gn } := fun _ => hf
    unfold nwP nwE nwS;simp only [if_pos (a0 _)];refine ⟨.inr (.inr rfl), fun k b h => by show s.blocks[k]? = some b; rw [b1]; exact h, fun h => (by cases h), by show s.blocks.length ≤ _; rw [b1]; omega, b2, fun _ hr => ?_⟩;unfold ja at hf;rw [b3, hr] at hf;omega
   ·have a0 : ∀ gn, ¬ ja { s with gone := gn } := fun _ => hf
    unfold nwP nwE nwS;simp only [if_neg (a0 _)];refine ⟨.inl rfl, fun k b h => ?_, fun _ => ?_, ?_, b2, fun _ hr => ?_⟩
    ·show (s.blocks ++ [co now])[k]? = some b
     have hk := (List.getElem?_eq_some_iff.1 h).1;rw [List.getElem?_append_left (by rw [b1]; exact hk), b1];exact h
    ·refine ⟨hnow, .inr ⟨hh, a3, s.blocks.length, hlen, ?_, rfl⟩⟩
     show (s.blocks ++ [co now])[s.blocks.length]? = some (co now);simp
    ·show (s.blocks ++ [co now]).length ≤ _
     rw [List.length_append, b1]; simp
    ·refine ⟨rfl, by show max (s.room - 1) (-1) = -1; rw [b3, hr]; decide, fun h => absurd h hc, fun _ => ⟨by show s.gone ++ gn = _; rw [b5, a2], ?_, .inr ?_⟩⟩
     ·show s.made ++ [iu _ _ _] = _
      rw [b4, A2 Ic]
     ·show s0.blocks.length < s.blocks.length + 1
      rw [b1]; omega
theorem a2g {mid : Pt} {ms : List Pt} (hn : IsN s.blocks 1 g mid ms) (hl : l ≠ []) (ha : Asc l) (hg : ∀ x ∈ l, x.1 / 8 = g) (hlen : s.blocks.length < 30000) : Nw 1 g s mid ms (Ji ms l) (c7 0 1 s mid l) := by
 rw [iz, if_neg hl];rcases Zy hn with ⟨r1, r2⟩ | ⟨r1, r2⟩
 ·rw [if_neg (by omega), r2, a1w ms l l.length _ _ (Nat.le_refl _) ha.asc, Df]
  obtain ⟨x, hx⟩ : ∃ x, l[0]? = some x := ⟨_, List.getElem?_eq_getElem (by cases l with | nil => exact absurd rfl hl | cons a b => simp)⟩
  have a0 : (l.getD 0 dl).1 / 8 ^ (0 + 1) = g := by
   rw [List.getD_eq_getElem?_getD, hx];exact hg x (List.mem_of_getElem? hx)
  exact Ee (.inl rfl) hn (Gj l ms hn.1 (fun x hx => (ha.ok x hx).1)) (fun p hp => by
   rcases F4 l ms p hp with h1 | ⟨x, hx, e⟩
   ·exact hn.fines p h1
   ·rw [e]; exact (ha.ok x hx).2) a0 hlen ⟨rfl, rfl, rfl, rfl, rfl⟩
 ·rw [if_pos (by omega), r1, Df]
  exact ⟨.inr (.inl rfl), fun k b h => h, fun h => (by cases h), Nat.le_succ _, rfl, fun hb => absurd hb r2⟩
theorem Cz (_hl : h.length = 64) (p : Pt) (i : Nat) : grp (h.set off p) i = if off / 8 = i then (grp h i).set (off % 8) p else grp h i := by
 unfold grp;apply List.ext_getElem?;intro j;by_cases hj : j < 8
 ·rw [List.getElem?_take, if_pos hj, List.getElem?_drop]
  by_cases hi : off / 8 = i
  ·rw [if_pos hi]
   by_cases hjo : off % 8 = j
   ·have e : off = 8 * i + j := by omega
    rw [← e, ← hjo];by_cases hlt : off < h.length
    ·rw [List.getElem?_set_self hlt, List.getElem?_set_self (by rw [List.length_take, List.length_drop]; omega)]
    ·rw [List.getElem?_eq_none (by rw [List.length_set]; omega), List.getElem?_eq_none (by rw [List.length_set, List.length_take, List.length_drop]; omega)]
   ·rw [List.getElem?_set_ne (by omega), List.getElem?_set_ne hjo, List.getElem?_take, if_pos hj, List.getElem?_drop]
  ·rw [if_neg hi, List.getElem?_set_ne (by omega), List.getElem?_take, if_pos hj, List.getElem?_drop]
 ·rw [List.getElem?_take, if_neg hj]
  split
  ·rw [List.getElem?_eq_none]
   rw [List.length_set, List.length_take]; omega
  ·rw [List.getElem?_take, if_neg hj]
theorem Ld {g : Nat} : ∀ (l : List Lf) (h : List Pt), h.length = 64 → (∀ x ∈ l, x.1 / 8 = g) → grp (ei h l) g = Ji (grp h g) l ∧ ∀ i, i ≠ g → grp (ei h l) i = grp h i
 | [], _, _, _ => ⟨rfl, fun _ _ => rfl⟩
 | x :: l, h, hl, hx => by
  have h0 := hx x (by simp);obtain ⟨h1, h2⟩ := Ld l (h.set x.1 x.2) (by rw [List.length_set]; exact hl) (fun y hy => hx y (by simp [hy]));rw [o5, sy];refine ⟨?_, fun i hi => ?_⟩
  ·rw [h1, Cz hl, if_pos h0]
  ·rw [h2 i hi, Cz hl, if_neg (by omega)]
theorem Lc {g0 : Nat} : ∀ (l : List Lf) (h : List Pt), h.length = 64 → (∀ x ∈ l, g0 ≤ x.1 / 8) → ∀ i, i < g0 → grp (ei h l) i = grp h i
 | [], _, _, _, _, _ => rfl
 | x :: l, h, hl, hx, i, hi => by
  have h0 := hx x (by simp);rw [o5, Lc l (h.set x.1 x.2) (by rw [List.length_set]; exact hl) (fun y hy => hx y (by simp [hy])) i hi, Cz hl, if_neg (by omega)]
theorem ta {α : Type} {p : α → Bool} : ∀ {l : List α} {x : α}, x ∈ l.takeWhile p → p x = true
 | [], x, h => by simp at h
 | a :: l, x, h => by
  cases ha : p a
  ·rw [List.takeWhile_cons_of_neg (by simp [ha])] at h; cases h
  ·rw [List.takeWhile_cons_of_pos ha] at h
   rcases List.mem_cons.1 h with rfl | h
   ·exact ha
   ·exact ta h
theorem qd {α : Type} {p : α → Bool} : ∀ {l : List α} {y : α} {ys : List α}, l.dropWhile p = y :: ys → p y = false
 | [], y, ys, h => by simp at h
 | a :: l, y, ys, h => by
  cases ha : p a
  ·rw [List.dropWhile_cons_of_neg (by simp [ha])] at h
   injection h with h1 h2
   rw [← h1]; exact ha
  ·rw [List.dropWhile_cons_of_pos ha] at h
   exact qd h
theorem My (hl : l ≠ []) (ha : Asc l) : 1 ≤ d7 8 l ∧ (∀ x ∈ l.take (d7 8 l), x.1 / 8 = (l.getD 0 dl).1 / 8) ∧ ∀ x ∈ l.drop (d7 8 l), (l.getD 0 dl).1 / 8 + 1 ≤ x.1 / 8 := by
 cases l with
 | nil => exact absurd rfl hl
 | cons a xs =>
  have a0 := List.takeWhile_append_dropWhile (p := fun y : Lf => decide (y.1 / 8 = a.1 / 8)) (l := xs);have hp := List.pairwise_cons.1 ha.asc;refine ⟨by simp only [d7]; omega, fun x hx => ?_, fun x hx => ?_⟩
  ·show x.1 / 8 = a.1 / 8
   simp only [d7] at hx;rw [show 1 + (xs.takeWhile (fun y : Lf => decide (y.1 / 8 = a.1 / 8))).length = (xs.takeWhile (fun y : Lf => decide (y.1 / 8 = a.1 / 8))).length + 1 by omega, List.take_succ_cons] at hx;rcases List.mem_cons.1 hx with rfl | hx
   ·rfl
   ·conv at hx => rw [← a0]
    rw [List.take_left' (by rw [a0])] at hx;have := ta hx;simpa using this
  ·show a.1 / 8 + 1 ≤ x.1 / 8
   simp only [d7] at hx;rw [show 1 + (xs.takeWhile (fun y : Lf => decide (y.1 / 8 = a.1 / 8))).length = (xs.takeWhile (fun y : Lf => decide (y.1 / 8 = a.1 / 8))).length + 1 by omega, List.drop_succ_cons] at hx
   have hd : xs.drop (xs.takeWhile (fun y : Lf => decide (y.1 / 8 = a.1 / 8))).length = xs.dropWhile (fun y : Lf => decide (y.1 / 8 = a.1 / 8)) := by
    conv => lhs; rw [← a0]
    rw [List.drop_left' (by rw [a0])]
   rw [hd] at hx;cases hdw : xs.dropWhile (fun y : Lf => decide (y.1 / 8 = a.1 / 8)) with
   | nil => rw [hdw] at hx; cases hx
   | cons y ys =>
    have hy : ¬ y.1 / 8 = a.1 / 8 := by
     have := qd hdw;simpa using this
    have a1 : ∀ z ∈ y :: ys, z ∈ xs := fun z hz => by rw [← a0, hdw]; exact List.mem_append_right _ hz
    have a3 := hp.1 y (a1 y (by simp));have a2 : (y :: ys).Pairwise (fun a b : Lf => a.1 < b.1) := (by rw [← hdw]; exact hp.2.sublist (List.dropWhile_sublist _));rw [hdw] at hx;rcases List.mem_cons.1 hx with rfl | hx
    ·omega
    ·have := (List.pairwise_cons.1 a2).1 x hx
     omega
end Go.Proofs.YtjgjohdeeeoeoaaGreatDoor
