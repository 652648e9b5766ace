/- Trees, plain: Set on a whole tree. -/
import Derived.Test.YtjgjohdeeeoeoaaGreatDoorM29
import Derived.Test.YtjgjohdeeeoeoaaGreatDoorM22
import Derived.Test.YtjgjohdeeeoeoaaGreatDoorM28
set_option linter.all false
namespace Go.Proofs.YtjgjohdeeeoeoaaGreatDoor
open Go.RowKit
variable {l : List Lf} {h : List Pt}
def ep (f : Nat → List Pt) (a k : Nat) : List Pt := (List.range' a k).flatMap f
theorem Gh (f : Nat → List Pt) (a : Nat) : ep f a 0 = [] := rfl
theorem i7 (f : Nat → List Pt) (a k : Nat) : ep f a (k + 1) = f a ++ ep f (a + 1) k := by unfold ep; rw [List.range'_succ, List.flatMap_cons]
theorem jp {f : Nat → List Pt} : ∀ (k a : Nat), (∀ i, a ≤ i → i < a + k → f i = []) → ep f a k = []
 | 0, _, _ => rfl
 | k + 1, a, h => by rw [i7, h a (by omega) (by omega), jp k (a + 1) (fun i h1 h2 => h i (by omega) (by omega))]; rfl
theorem p9 {f f' : Nat → List Pt} : ∀ (k a : Nat), (∀ i, a ≤ i → i < a + k → f i = f' i) → ep f a k = ep f' a k
 | 0, _, _ => rfl
 | k + 1, a, h => by rw [i7, i7, h a (by omega) (by omega), p9 k (a + 1) (fun i h1 h2 => h i (by omega) (by omega))]
theorem rh {f : Nat → List Pt} : ∀ (d a k : Nat), (∀ i, a ≤ i → i < a + d → f i = []) → ep f a (d + k) = ep f (a + d) k
 | 0, a, k, _ => by rw [Nat.zero_add, Nat.add_zero]
 | d + 1, a, k, h => by
  rw [show d + 1 + k = (d + k) + 1 by omega, i7, h a (by omega) (by omega), List.nil_append, rh d (a + 1) k (fun i h1 h2 => h i (by omega) (by omega)), show a + 1 + d = a + (d + 1) by omega]
theorem Lr {a b : List Bs} (h : ∀ (k : Nat) (x : Bs), a[k]? = some x → b[k]? = some x) : a.length ≤ b.length := by
 cases hl : a.length with
 | zero => omega
 | succ n =>
  have := h n _ (List.getElem?_eq_getElem (by omega));have := (List.getElem?_eq_some_iff.1 this).1;omega
structure Lp (mids : List Pt) (s : Sh) (hc now : List Pt) (g0 : Nat) : Prop where
 len : hc.length = 64
 nok : NOK now
 mok : NOK mids
 nd : ∀ i q, now[i]? = some q → IsN s.blocks 1 i q (grp hc i)
 old : ∀ i q, g0 ≤ i → mids[i]? = some q → IsN s.blocks 1 i q (grp hc i) ∧ now[i]? = some q
def mkF (hN hc now : List Pt) (i : Nat) : List Pt := if grp hN i = grp hc i then [] else one (now.getD i zeroP)
def gnF (hN hc mids : List Pt) (i : Nat) : List Pt := if grp hN i = grp hc i then [] else ul (grp hc i) (grp hN i) 0 (grp hc i) ++ one (mids.getD i zeroP)
structure LpR (mids : List Pt) (s : Sh) (hc now : List Pt) (g0 : Nat) (hN : List Pt) (r : Gw) : Prop where
 e : r.e = 0 ∨ r.e = 21 ∨ r.e = 30
 pre : ∀ (k : Nat) (b : Bs), s.blocks[k]? = some b → r.s.blocks[k]? = some b
 len : r.s.blocks.length ≤ s.blocks.length + (8 - g0)
 bd : r.s.bad = s.bad
 ok : r.e = 0 → NOK r.now ∧ (∀ i q, r.now[i]? = some q → IsN r.s.blocks 1 i q (grp hN i)) ∧ ∀ i, i < g0 → r.now[i]? = now[i]?
 full : s.bad = [] → s.room = -1 → r.e = 0 ∧ r.s.room = -1 ∧ r.s.made = s.made ++ ep (mkF hN hc r.now) g0 (8 - g0) ∧ r.s.gone = s.gone ++ ep (gnF hN hc mids) g0 (8 - g0) ∧
  (∀ i, grp hN i = grp hc i → r.now[i]? = now[i]?) ∧ (∀ i p, g0 ≤ i → grp hN i ≠ grp hc i → r.now[i]? = some p → p = zeroP ∨ s.blocks.length < p.birth)
theorem Zv {mids : List Pt} : ∀ (fuel : Nat) (s : Sh) (hc now : List Pt) (g0 : Nat) (l : List Lf), l.length ≤ fuel → Lp mids s hc now g0 → Asc l → (∀ x ∈ l, g0 ≤ x.1 / 8) → s.blocks.length + (8 - g0) < 30000 → g0 ≤ 8 →
  LpR mids s hc now g0 (ei hc l) (goW (c7 0 1) (8 ^ 1) mids fuel s now l)
 | fuel, s, hc, now, g0, [], _, hp, _, _, _, _ => by
  rw [yn];have h1 : ∀ i, mkF (ei hc []) hc now i = [] := fun i => by unfold mkF; exact if_pos rfl
  have h2 : ∀ i, gnF (ei hc []) hc mids i = [] := fun i => by unfold gnF; exact if_pos rfl
  refine ⟨.inl rfl, fun _ _ h => h, by show s.blocks.length ≤ _; omega, rfl, fun _ => ⟨hp.nok, hp.nd, fun _ _ => rfl⟩, fun _ hr => ⟨rfl, hr, ?_, ?_, fun _ _ => rfl, fun i p _ h => absurd rfl h⟩⟩
  ·rw [jp _ _ (fun i _ _ => h1 i), List.append_nil]
  ·rw [jp _ _ (fun i _ _ => h2 i), List.append_nil]
 | 0, s, hc, now, g0, x :: xs, hf, _, _, _, _, _ => by simp at hf
 | fuel + 1, s, hc, now, g0, x :: xs, hf, hp, ha, hge, hlen, hg8 => by
  obtain ⟨l, hl⟩ : ∃ l, x :: xs = l := ⟨_, rfl⟩;have ab : l ≠ [] := (by rw [← hl]; simp);have hx : l.getD 0 dl = x := (by rw [← hl]; rfl);have ap : x ∈ l := (by rw [← hl]; simp);rw [hl] at hf ha hge ⊢;obtain ⟨ay, a4, a5⟩ := My ab ha;rw [hx] at a4 a5;have ax := ha.lt x ap;obtain ⟨g, hg⟩ : ∃ g, x.1 / 8 = g := ⟨_, rfl⟩;have al := hge x ap;rw [hg] at a4 a5 al;have a2 : g < 8 := (by omega);have ak : (l.getD 0 dl).1 / 8 ^ 1 % 8 = g := (by rw [hx]; show x.1 / 8 % 8 = g; omega);have ae : (8 ^ 1 : Nat) = 8 := rfl;obtain ⟨q0, an⟩ := hp.mok.get a2;have aj : mids.getD g zeroP = q0 := (by rw [List.getD_eq_getElem?_getD, an]; rfl);obtain ⟨av, a6⟩ := hp.old g q0 al an;obtain ⟨pt, a7⟩ : ∃ pt, l.take (d7 8 l) = pt := ⟨_, rfl⟩;obtain ⟨rs, a8⟩ : ∃ rs, l.drop (d7 8 l) = rs := ⟨_, rfl⟩
  have ad : pt ≠ [] := by
   rw [← a7];intro e;have h3 : (l.take (d7 8 l)).length = 0 := (by rw [e]; rfl);rw [List.length_take] at h3;have h0 : 0 < l.length := (by rw [← hl]; simp);omega
  have ar : Asc pt := (by rw [← a7]; exact ha.take _);have au : Asc rs := (by rw [← a8]; exact ha.drop _);rw [a7] at a4;rw [a8] at a5;have W := a2g av ad ar a4 (by omega);obtain ⟨aw, a3⟩ := Ld pt hc hp.len a4;obtain ⟨a0, ao⟩ : ∃ r, c7 0 1 s q0 pt = r := ⟨_, rfl⟩;rw [ao] at W;rw [← aw] at W;have a9 : c7 0 1 s (mids.getD ((l.getD 0 dl).1 / 8 ^ 1 % 8) zeroP) (l.take (d7 (8 ^ 1) l)) = a0 := (by rw [ak, aj, ae, a7, ao]);have ai : ei hc l = ei (ei hc pt) rs := (by rw [← Gi, ← a7, ← a8, List.take_append_drop]);by_cases he : a0.e = 0
  ·rw [zk ab (by rw [a9]; exact he), a9, ak, ae, a8]
   have az := Lr W.pre;have aa : ∀ i, i < g + 1 → grp (ei hc l) i = grp (ei hc pt) i := fun i hi => by rw [ai]; exact Lc rs _ (by rw [o6]; exact hp.len) a5 i hi
   have aq : Lp mids a0.s (ei hc pt) (now.set g a0.p) (g + 1) := by
    refine ⟨by rw [o6]; exact hp.len, hp.nok.set g ((W.ok he).ok (by omega)), hp.mok, fun i q hi => ?_, fun i q hgi2 hi => ?_⟩
    ·by_cases e : g = i
     ·subst e
      rw [List.getElem?_set_self (by rw [hp.nok.len]; exact a2)] at hi;rw [← Option.some.inj hi];exact W.ok he
     ·rw [List.getElem?_set_ne e] at hi
      rw [a3 i (fun h => e h.symm)];exact (hp.nd i q hi).mono W.pre
    ·obtain ⟨h1, h2⟩ := hp.old i q (by omega) hi
     rw [a3 i (by omega), List.getElem?_set_ne (by omega)];exact ⟨h1.mono W.pre, h2⟩
   have R := Zv fuel a0.s (ei hc pt) (now.set g a0.p) (g + 1) rs (by rw [← a8, List.length_drop]; omega) aq au a5 (by have := W.len; omega) (by omega);rw [← ai] at R;rw [ae] at R;obtain ⟨r, hr⟩ : ∃ r, goW (c7 0 1) 8 mids fuel a0.s (now.set g a0.p) rs = r := ⟨_, rfl⟩;rw [hr] at R ⊢;have ah : (now.set g a0.p)[g]? = some a0.p := List.getElem?_set_self (by rw [hp.nok.len]; exact a2);refine ⟨R.e, fun k b h => R.pre k b (W.pre k b h), by have := R.len; have := W.len; omega, R.bd.trans W.bd, fun h0 => ⟨(R.ok h0).1, (R.ok h0).2.1, fun i hi => ?_⟩, fun hb hroom => ?_⟩
   ·rw [(R.ok h0).2.2 i (by omega), List.getElem?_set_ne (by omega)]
   ·obtain ⟨-, w2, w3, w4⟩ := W.full hb hroom
    obtain ⟨f1, f2, f3, f4, f5, f6⟩ := R.full (W.bd.trans hb) w2;have af : r.now[g]? = some a0.p := (by rw [(R.ok f1).2.2 g (by omega), ah]);have ag : r.now.getD g zeroP = a0.p := (by rw [List.getD_eq_getElem?_getD, af]; rfl);have a1 : ∀ i, i < g → grp (ei hc l) i = grp hc i := fun i hi => by rw [aa i (by omega), a3 i (by omega)]
    have e1 : ep (mkF (ei hc l) hc r.now) g0 (8 - g0) = mkF (ei hc l) hc r.now g ++ ep (mkF (ei hc l) (ei hc pt) r.now) (g + 1) (8 - (g + 1)) := by
     rw [show 8 - g0 = (g - g0) + ((8 - (g + 1)) + 1) by omega, rh _ _ _ (fun i h1 h2 => by unfold mkF; rw [if_pos (a1 i (by omega))]), show g0 + (g - g0) = g by omega, i7];congr 1;exact p9 _ _ (fun i h1 h2 => by unfold mkF; rw [a3 i (by omega)])
    have e2 : ep (gnF (ei hc l) hc mids) g0 (8 - g0) = gnF (ei hc l) hc mids g ++ ep (gnF (ei hc l) (ei hc pt) mids) (g + 1) (8 - (g + 1)) := by
     rw [show 8 - g0 = (g - g0) + ((8 - (g + 1)) + 1) by omega, rh _ _ _ (fun i h1 h2 => by unfold gnF; rw [if_pos (a1 i (by omega))]), show g0 + (g - g0) = g by omega, i7];congr 1;exact p9 _ _ (fun i h1 h2 => by unfold gnF; rw [a3 i (by omega)])
    have am : a0.s.made = s.made ++ mkF (ei hc l) hc r.now g ∧ a0.s.gone = s.gone ++ gnF (ei hc l) hc mids g := by
     unfold mkF gnF;rw [aa g (by omega), ag, aj];by_cases hc2 : grp (ei hc pt) g = grp hc g
     ·rw [if_pos hc2, if_pos hc2, List.append_nil, List.append_nil]
      exact (w3 hc2).2
     ·rw [if_neg hc2, if_neg hc2]
      exact ⟨(w4 hc2).2.1, by rw [(w4 hc2).1]; rfl⟩
    refine ⟨f1, f2, by rw [f3, am.1, e1, List.append_assoc], by rw [f4, am.2, e2, List.append_assoc], fun i hi => ?_, fun i p hi hch hip => ?_⟩
    ·by_cases e : i = g
     ·subst e
      rw [af, a6];rw [aa i (by omega)] at hi;rw [(w3 hi).1]
     ·rw [f5 i (by rw [hi, a3 i e]), List.getElem?_set_ne (by omega)]
    ·by_cases e : i = g
     ·subst e
      rw [af] at hip;rw [aa i (by omega)] at hch;rw [← Option.some.inj hip];exact (w4 hch).2.2
     ·by_cases hlt : i < g
      ·exact absurd (a1 i hlt) hch
      ·rcases f6 i p (by omega) (by rw [a3 i e]; exact hch) hip with h | h
       ·exact .inl h
       ·exact .inr (by omega)
  ·obtain ⟨g1, g2⟩ := La (f := c7 0 1) (wide := 8 ^ 1) (was := mids) (fuel := fuel) (s := s) (now := now) ab (by rw [a9]; exact he)
   rw [a9] at g1 g2;refine ⟨by rw [g1]; exact W.e, fun k b h => by rw [g2]; exact W.pre k b h, by rw [g2]; have := W.len; omega, by rw [g2]; exact W.bd, fun h0 => absurd (g1.symm.trans h0) he, fun hb hroom => absurd (W.full hb hroom).1 he⟩
structure StT (s : Sh) (root : Pt) (h mids : List Pt) (hN : List Pt) (r : Ww) : Prop where
 e : r.e = 0 ∨ r.e = 21 ∨ r.e = 30
 pre : ∀ (k : Nat) (b : Bs), s.blocks[k]? = some b → r.s.blocks[k]? = some b
 len : r.s.blocks.length ≤ s.blocks.length + 9
 bd : r.s.bad = s.bad
 full : s.bad = [] → s.room = -1 → r.e = 0 ∧ r.s.room = -1 ∧ ∃ mids', IsT r.s.blocks r.p hN mids' ∧
  r.s.made = s.made ++ (ep (mkF hN h mids') 0 8 ++ (if mids' = mids then [] else one r.p)) ∧ r.s.gone = s.gone ++ (ep (gnF hN h mids) 0 8 ++ (if mids' = mids then [] else one root)) ∧
  (mids' = mids → r.p = root) ∧ (mids' ≠ mids → r.p = zeroP ∨ s.blocks.length < r.p.birth) ∧
  (∀ i, grp hN i = grp h i → mids'[i]? = mids[i]?) ∧ (∀ i p, grp hN i ≠ grp h i → mids'[i]? = some p → p = zeroP ∨ s.blocks.length < p.birth)
theorem Zg (hh : ∀ p ∈ h, p.OK) (ha : Asc l) : ∀ p ∈ ei h l, p.OK := fun p hp => by
 rcases F3 l h p hp with h1 | ⟨x, hx, e⟩
 ·exact hh p h1
 ·rw [e]; exact (ha.ok x hx).1
theorem Px (ha : Asc l) : ra l = true := Bo fun i hi => by
 obtain ⟨x, hx⟩ : ∃ x, l[i]? = some x := ⟨_, List.getElem?_eq_getElem hi⟩;have hm := List.mem_of_getElem? hx;unfold di;rw [hx];simp only;have h1 := ha.lt x hm;have h2 := (ha.ok x hm).2;unfold j6 at h2;rw [h2, decide_eq_true h1];by_cases h0 : i = 0
 ·simp [h0]
 ·obtain ⟨y, hy⟩ : ∃ y, l[i - 1]? = some y := ⟨_, List.getElem?_eq_getElem (by omega)⟩
  have a0 := List.pairwise_iff_getElem.1 ha.asc (i - 1) i (by omega) hi (by omega);rw [List.getElem?_eq_getElem hi] at hx;rw [List.getElem?_eq_getElem (by omega)] at hy;rw [List.getD_eq_getElem?_getD, List.getElem?_eq_getElem (by omega)];simp only [Option.some.inj hx, Option.some.inj hy, Option.getD_some] at a0 ⊢;simp [a0]
theorem Uv {s : Sh} {root : Pt} {mids : List Pt} (ht : IsT s.blocks root h mids) (ha : Asc l) (hlen : s.blocks.length + 9 < 30000) : StT s root h mids (ei h l) (vh s root 0 l) := by
 have hr := ht.ref0;unfold vh;rw [if_neg (by omega), Px ha];simp only [Bool.true_eq_false, if_false];by_cases hl : l = []
 ·subst hl
  have hw : c7 0 2 s root [] = ⟨root, 0, s⟩ := (by rw [iz, if_pos rfl]);rw [hw];have h1 : ∀ i, mkF (ei h []) h mids i = [] := fun i => by unfold mkF; exact if_pos rfl
  have h2 : ∀ i, gnF (ei h []) h mids i = [] := fun i => by unfold gnF; exact if_pos rfl
  refine ⟨.inl rfl, fun _ _ h => h, by show s.blocks.length ≤ _; omega, rfl, fun _ hroom => ⟨rfl, hroom, mids, ht, ?_, ?_, fun _ => rfl, fun h => absurd rfl h, fun _ _ => rfl, fun i p h => absurd rfl h⟩⟩
  ·rw [jp _ _ (fun i _ _ => h1 i), if_pos rfl]; simp
  ·rw [jp _ _ (fun i _ _ => h2 i), if_pos rfl]; simp
 ·rw [iz, if_neg hl]
  rcases Zy ht.2.2.1 with ⟨r1, r2⟩ | ⟨r1, r2⟩
  ·rw [if_neg (by omega), r2, Df]
   have a4 : Lp mids { s with read0 := s.read0 ++ one root } h mids 0 := ⟨ht.1, ht.2.2.1.1, ht.2.2.1.1, ht.2.2.2, fun i q _ hq => ⟨ht.2.2.2 i q hq, hq⟩⟩;have R := Zv l.length { s with read0 := s.read0 ++ one root } h mids 0 l (Nat.le_refl _) a4 ha (fun x _ => by omega) (by show s.blocks.length + _ < _; omega) (by omega);obtain ⟨gw, a5⟩ : ∃ g, goW (c7 0 1) (8 ^ 1) mids l.length { s with read0 := s.read0 ++ one root } mids l = g := ⟨_, rfl⟩;rw [a5] at R ⊢
   have a3 : (l.getD 0 dl).1 / 8 ^ (1 + 1) = 0 := by
    obtain ⟨x, hx⟩ : ∃ x, l[0]? = some x := ⟨_, List.getElem?_eq_getElem (by cases l with | nil => exact absurd rfl hl | cons a b => simp)⟩;rw [List.getD_eq_getElem?_getD, hx];have := ha.lt x (List.mem_of_getElem? hx);show x.1 / 64 = 0;omega
   by_cases he : gw.e = 0
   ·obtain ⟨o1, o2, o3⟩ := R.ok he
    have a2 : gw = ⟨gw.now, 0, gw.s⟩ := by cases gw; simp only at he; rw [he]
    have a0 : ∀ p ∈ gw.now, j6 p = true := fun p hp => by
     obtain ⟨i, hi⟩ := List.getElem?_of_mem hp;exact (o2 i p hi).fine (by omega)
    have W := Ee (s0 := gw.s) (.inr rfl) (ht.2.2.1.mono (fun k b h => R.pre k b h)) o1 a0 a3 (by have := R.len; have : ({ s with read0 := s.read0 ++ one root } : Sh).blocks.length = s.blocks.length := rfl; omega) ⟨rfl, rfl, rfl, rfl, rfl⟩;rw [← a2] at W;obtain ⟨r, a6⟩ : ∃ r, u5 0 (1 + 1) root mids ((l.getD 0 dl).1 / 8 ^ (1 + 1)) gw = r := ⟨_, rfl⟩;rw [a6] at W ⊢;have a7 : s.blocks.length ≤ gw.s.blocks.length := Lr (a := s.blocks) (fun k b h => R.pre k b h);refine ⟨W.e, fun k b h => W.pre k b (R.pre k b h), by have := W.len; have h8 : gw.s.blocks.length ≤ s.blocks.length + 8 := R.len; omega, W.bd.trans R.bd, fun hb hroom => ?_⟩;obtain ⟨f1, f2, f3, f4, f5, f6⟩ := R.full hb hroom;obtain ⟨w1, w2, w3, w4⟩ := W.full (R.bd.trans hb) f2;refine ⟨w1, w2, gw.now, ⟨by rw [o6]; exact ht.1, Zg ht.2.1 ha, W.ok w1, fun i q hq => (o2 i q hq).mono W.pre⟩, ?_, ?_, fun hm => (w3 hm).1, fun hm => ?_, f5, fun i p hch hp => f6 i p (by omega) hch hp⟩
    ·by_cases hm : gw.now = mids
     ·rw [(w3 hm).2.1, f3, if_pos hm, List.append_nil]
     ·rw [(w4 hm).2.1, f3, if_neg hm, List.append_assoc]
    ·by_cases hm : gw.now = mids
     ·rw [(w3 hm).2.2, f4, if_pos hm, List.append_nil]
     ·rw [(w4 hm).1, f4, if_neg hm, List.append_assoc]
      rfl
    ·rcases (w4 hm).2.2 with h | h
     ·exact .inl h
     ·exact .inr (by omega)
   ·have a1 : u5 0 (1 + 1) root mids ((l.getD 0 dl).1 / 8 ^ (1 + 1)) gw = ⟨zeroP, gw.e, gw.s⟩ := by unfold u5; rw [if_pos he]
    rw [a1];refine ⟨R.e, fun k b h => R.pre k b h, by have h8 : gw.s.blocks.length ≤ s.blocks.length + 8 := R.len; show gw.s.blocks.length ≤ _; omega, R.bd, fun hb hroom => absurd (R.full hb hroom).1 he⟩
  ·rw [if_pos (by omega), r1, Df]
   exact ⟨.inr (.inl rfl), fun k b h => h, Nat.le_add_right _ _, rfl, fun hb => absurd hb r2⟩
theorem Lb {i k : Nat} (hk : k < 8) : (grp h i)[k]? = h[8 * i + k]? := by
 unfold grp;rw [List.getElem?_take, if_pos hk, List.getElem?_drop]
theorem Tl {m : List Pt} {f : Nat → List Pt} {P : Pt → Bool} (hm : m.length = 8) (hf : ∀ i q, m[i]? = some q → (f i).length = if P q = true then 1 else 0) : ∀ (k a : Nat), a + k = 8 → ((m.drop a).filter P).length = (ep f a k).length
 | 0, a, h => by rw [List.drop_of_length_le (by omega), Gh]; rfl
 | k + 1, a, h => by
  obtain ⟨q, hq⟩ : ∃ q, m[a]? = some q := ⟨_, List.getElem?_eq_getElem (by omega)⟩
  have hd : m.drop a = q :: m.drop (a + 1) := by
   rw [List.getElem?_eq_getElem (by omega)] at hq;rw [List.drop_eq_getElem_cons (by omega), Option.some.inj hq]
  rw [hd, i7, List.length_append, ← Tl hm hf k (a + 1) (by omega), hf a q hq];cases hP : P q
  ·rw [List.filter_cons_of_neg (by simp [hP])]; simp
  ·rw [List.filter_cons_of_pos hP]; simp; omega
def Ed (hN : List Pt) (k : Nat) : Nat := ((List.range k).filter (fun g => decide (grp hN g ≠ holes))).length
end Go.Proofs.YtjgjohdeeeoeoaaGreatDoor
namespace Go.Proofs.YtjgjohdeeeoeoaaGreatDoor
open Go.RowKit
attribute [local go_sem] Oper.semAt_some
variable {a : Act} {ops : Array Oper} {b bs : Bxs} {Q : Exit → Act → World → Prop} {rest : List Oper} {xs : List Value} {B D g n size : Nat} {L : Nat → Nat} {o : Oper} {x : Operand} {ρ : Operand → Value} {p q : Pt} {s : Sh} {e : TypeId} {v : Value} {X w : World}
theorem p7 {S : World → Prop} (v : Value) (hw : Region.wanted o (yielded ops a.tmps) = true) (hS : S w) (hrun : ∀ w, S w → (execOp a.eval o).run Tryz.prog w = .ok (.value v) w)
  (hK : wpList Tryz.prog ops Q rest (a.put o.dst v) w) : wpList Tryz.prog ops Q (o :: rest) a w := aq hw (hrun w hS) hK
theorem Du (hw : Region.wanted o (yielded ops a.tmps) = false)
  (hK : wpList Tryz.prog ops Q rest (a.put o.dst undef) w) : wpList Tryz.prog ops Q (o :: rest) a w := by
 unfold wpList;rw [if_neg (by simp [hw])];exact hK
theorem Ze (hw : Region.wanted o (yielded ops a.tmps) = true) (f : FuncId) (args : Array Value) (hrun : (execOp a.eval o).run Tryz.prog w = .ok (.enter f args) w)
  (C : Value → World → Prop) (hc : Calls Tryz.prog f args w fun e w' => ∃ v, e = .returned v ∧ C v w') (hK : ∀ v w', C v w' → wpList Tryz.prog ops Q rest (a.put o.dst v) w') : wpList Tryz.prog ops Q (o :: rest) a w := by
 unfold wpList;rw [if_pos hw];refine .inl ?_;unfold Oper.wp;rw [hrun];exact hc.mono fun e w' ⟨v, e1, h1⟩ => by subst e1; exact hK v w' h1
theorem Ke {y : Operand} {z : Bool} (hz : eqP p q = z) (ho : o.op = .binOp .eql 28 x y 28) (hx : ρ x = .agg (a8 p).toArray) (hy : ρ y = .agg (a8 q).toArray) (hp : p.OK) (hq : q.OK) : (execOp ρ o).run Tryz.prog w = .ok (.value (.bool z)) w := hz ▸ tg ho hx hy hp hq
theorem SrcM.at {cap : Nat} {l : List Pt} (h : SrcM X (.slice (some ⟨g, 0, none⟩) n cap) l) {k : Nat} (hk : l[k]? = some q) : X.rangeAt g (k * 41) (a8 q) := by
 obtain ⟨a1, a0, e, _, _, _, h3⟩ := h;obtain ⟨g', e2, _, h4⟩ := h3 (by have := (List.getElem?_eq_some_iff.1 hk).1; omega);injection e with e3 _ _
 rw [e2] at e3;injection e3 with e4
 injection e4 with e5 _ _
 rw [e5];exact h4 k q hk
theorem a0k {off : Nat} (hp : p.OK) (hr : w.rangeAt g off (a8 p)) (ho : o.op = .load 28 x) (hx : ρ x = .pointer (some ⟨g, off, none⟩)) : (execOp ρ o).run Tryz.prog w = .ok (.value (.agg (a8 p).toArray)) w :=
 c6 (ty := 28) (cs := a8 p) ho hx hr Tryz.underlying28 rfl (by rw [dw, aa hp])
def RowB (e : TypeId) (size : Nat) (b : Bxs) (v : Value) (n : Nat) (xs : List Value) : Prop :=
 xs.length = n * size ∧ ((v = .slice none 0 0 ∧ n = 0 ∧ b = []) ∨ ∃ g cap cs, v = .slice (some ⟨g, 0, none⟩) n cap ∧ b = [(g, cs, e)] ∧ n ≤ cap ∧ cap ≤ maxLen ∧ cs.length = cap * size ∧ cs.take (n * size) = xs)
theorem RowB.of (h : X.ownsRow B e size v n xs) : ∃ b, RowB e size b v n xs ∧ ∀ y ∈ b, Blk X y.1 y.2.1 y.2.2 ∧ v.ownBlock = some y.1 := by
 obtain ⟨h1, h2⟩ := h;rcases h2 with ⟨rfl, rfl⟩ | ⟨g, cap, cur, rfl, hb, hg, hc, hm, hs, ht⟩
 ·exact ⟨[], ⟨h1, .inl ⟨rfl, rfl, rfl⟩⟩, fun y hy => by simp at hy⟩
 ·refine ⟨[(g, cur.toList, e)], ⟨h1, .inr ⟨g, cap, cur.toList, rfl, rfl, hc, hm, by simpa using hs, ht⟩⟩, fun y hy => ?_⟩
  rw [List.mem_singleton] at hy;subst hy;exact ⟨by unfold Blk; simpa using hg, rfl⟩
theorem RowB.own (h : RowB e size b v n xs) (hb : ∀ y ∈ b, Blk X y.1 y.2.1 y.2.2) : X.ownsRow 0 e size v n xs := by
 obtain ⟨h1, h2⟩ := h;refine ⟨h1, ?_⟩;rcases h2 with ⟨rfl, rfl, rfl⟩ | ⟨g, cap, cs, rfl, rfl, hc, hm, hs, ht⟩
 ·exact .inl ⟨rfl, rfl⟩
 ·exact .inr ⟨g, cap, cs.toArray, rfl, by omega, hb (g, cs, e) (by simp), hc, hm, by simpa using hs, by simpa using ht⟩
theorem Fr.sub {bs' : Bxs} (h : Fr w D s bs X) (hs : ∀ y ∈ bs', y ∈ bs) : Fr w D s bs' X := by
 obtain ⟨⟨L1, v1, h1, h2, h3, h4⟩, k, hl⟩ := h;exact ⟨⟨L1, v1, h1, h2, fun b hb => h3 b (hs b hb), h4⟩, fun b hb => k b (hs b hb), hl⟩
theorem Fr.row (h : Fr w D s bs X) (hr : RowB e size b v n xs) (hs : ∀ y ∈ b, y ∈ bs) : X.ownsRow 0 e size v n xs := hr.own fun y hy => h.bx y (hs y hy)
theorem F2 : ∀ (l : List Lf) (i : Nat) (x : Lf), (∀ y ∈ l, Lf.OK y) → l[i]? = some x → ∀ j, j < 42 → (xx l)[i * 42 + j]? = (av x)[j]?
 | [], i, x, _, h, _, _ => by simp at h
 | y :: l, 0, x, hq, h, j, hj => by
  simp only [List.getElem?_cons_zero, Option.some.injEq] at h;subst h;have := bq (hq y (by simp)).2;show (av y ++ xx l)[0 * 42 + j]? = _;rw [List.getElem?_append_left (by omega)];congr 1;omega
 | y :: l, i + 1, x, hq, h, j, hj => by
  have h0 : l[i]? = some x := (by simpa using h);have hl := bq (hq y (by simp)).2;have ih := F2 l i x (fun z hz => hq z (by simp [hz])) h0 j hj;show (av y ++ xx l)[(i + 1) * 42 + j]? = _;rw [List.getElem?_append_right (by omega), ← ih];congr 1;omega
theorem OwnL.at {l : List Lf} (h : OwnL X B v l) (hok : ∀ x ∈ l, Lf.OK x) (h0 : 0 < l.length) : ∃ g cap, v = .slice (some ⟨g, 0, none⟩) l.length cap ∧ l.length ≤ cap ∧ ∀ i x, l[i]? = some x → X.rangeAt g (i * 42) (av x) := by
 obtain ⟨h1, h2⟩ := h;rcases h2 with ⟨rfl, hn⟩ | ⟨g, cap, cur, rfl, hb, hg, hc, hm, hs, ht⟩
 ·omega
 ·refine ⟨g, cap, rfl, hc, fun i x hx j u hu => ?_⟩
  have hB : Blk X g cur.toList 110 := (by unfold Blk; simpa using hg);have hi := (List.getElem?_eq_some_iff.1 hx).1
  have hj : j < 42 := by
   have := (List.getElem?_eq_some_iff.1 hu).1;rw [bq (hok x (List.mem_of_getElem? hx)).2] at this;exact this
  have h3 := F2 l i x hok hx j hj;rw [hu, ← ht, List.getElem?_take] at h3;split at h3
  ·exact hB.cell h3
  ·cases h3
theorem TaW.none {ls : List Lf} {lv : Value} {l : List Itm} {b : List Pt} {ov nv : Value} (h : TaW L w D ls lv s l b ov nv X) : TaW L w D ls lv s [] [] (.slice none 0 0) (.slice none 0 0) X := by
 obtain ⟨⟨L1, v1, h1, h2, h3, h4, h5⟩, k1, k2, k3, k4, k5⟩ := h;exact ⟨⟨L1, v1, h1, h2, h3, (fun g e => by cases e), (fun g e => by cases e)⟩, k1, ⟨rfl, .inl ⟨rfl, rfl⟩⟩, ⟨rfl, .inl ⟨rfl, rfl⟩⟩, (fun g e => by cases e), (fun g e => by cases e)⟩
theorem Yx (s : Sh) (p q : Pt) : rdB (tbS s p) q = rdB s q := by
 unfold tbS;split
 ·rfl
 ·rfl
def Jv (L : Nat → Nat) (w : World) (D : Nat) (s : Sh) (p : Pt) (m : Nat) (e : Ending) (Y : World) : Prop :=
 ∃ ov nv lv ls, e = .returned (.tuple #[ov, nv, .int .i64 ((ny s p).e : Int)]) ∧ TaW L w D ls lv (ny s p).s (ny s p).l (ny s p).b ov nv Y ∧ Lim m (ny s p).s
set_option maxRecDepth 100000 in
set_option maxHeartbeats 16000000 in
theorem Q7 {v : Sv} {m : Nat} (p : Pt) (hp : p.OK) (h : ShAt w L D s v) (hlo : Lo L) (hk : Lim m s) (hm : m + 173 < 100000000) (hbl : ∀ q, (rdB (ky s p) q).length ≤ 100000) (hoff : ∀ x ∈ sz s p, x.1 < 16000) (hn : (sz s p).length ≤ 100) (hnn : (td s p).length ≤ 1000) :
  Calls Tryz.prog 21 #[shI D, .agg (a8 p).toArray] w (Jv L w D s p (m + 173)) := by
 have ck := zH hp; have d0 := zH hlo; have HK := zH hk; have HM := zH hm; have b4 := zH hbl; have bv := zH hoff; have HN := zH hn; have bu := zH hnn;have b3 : Below w.heap.size w (w.alloc (.cells (a8 p).toArray 28)) := (Below.refl _ _).alloc (Nat.le_refl _) _;have al := zH b3;have ci := zH h.lt;have bw := zH (h.below b3);have b5 : Hid (Blk (w.alloc (.cells (a8 p).toArray 28)) w.heap.size (a8 p) 28) := zH (Blk.new _ _ _);generalize hPost : Jv L w D s p (m + 173) = Post;have HP : Hid (∀ ov nv lv ls Y, TaW L w D ls lv (ny s p).s (ny s p).l (ny s p).b ov nv Y → Lim (m + 173) (ny s p).s → Post (.returned (.tuple #[ov, nv, .int .i64 ((ny s p).e : Int)])) Y) := zH fun ov nv lv ls Y h1 h2 => by rw [← hPost]; exact ⟨ov, nv, lv, ls, rfl, h1, h2⟩
 obtain ⟨R, hR⟩ : ∃ r, ny s p = r := ⟨_, rfl⟩;have HR := zH hR;rw [hR] at HP;have ak := zH (Qb p hp (h.below b3) hlo hk (show m + 73 < 100000000 by omega));clear hp h hlo hk hm hbl hoff hn hnn b3 hPost hR;unfold shI at ak ⊢;go_enter Tryz.func21, Tryz.ntmps21
 go_upto_region 1 with fail
 obtain ⟨W, hW⟩ : ∃ W, w.alloc (.cells (a8 p).toArray 28) = W := ⟨_, rfl⟩;rw [hW] at al bw b5 ak ⊢;clear hW
 go_wp2_with (first | (refine a9 rfl (ax ck.out b5.out rfl rfl) ?_) | fail)
 refine ak.out.mono ?_;rintro e Y ⟨lv, nv, rfl, aq, ag⟩
 have HT : Hid (TaW L w D (sz s p) lv (ky s p) [] (td s p) (.slice none 0 0) nv Y) := zH (by
  obtain ⟨⟨L2, v2, k1, k2, k3, k4⟩, j1, j2, -, -⟩ := aq
  exact ⟨⟨L2, v2, k1, (Mv.of_below al.out ci.out).trans k2, k3, (fun g e => by cases e), k4⟩, j1.1, ⟨rfl, .inl ⟨rfl, rfl⟩⟩, j2.1, (fun g e => by cases e), fun g e => Nat.le_trans al.out.size (j2.2 g e)⟩)
 have b9 := zH aq.okl;have a1 : Hid (Lim (m + 73) (ky s p)) := zH ag;obtain ⟨sp, bi, bo, a2, -⟩ := d6 aq.lo.1;clear aq ag ak bw b5 al;have ab : Hid (R = if pp s p ≠ 0 then ⟨pp s p, ky s p, [], []⟩ else t5 (sz s p) (ky s p) [] (td s p)) := zH (by rw [← HR.out]; rfl);clear HR;obtain ⟨ae, a6⟩ : ∃ r, pp s p = r := ⟨_, rfl⟩;obtain ⟨s0, b2⟩ : ∃ r, ky s p = r := ⟨_, rfl⟩;obtain ⟨ls, ay⟩ : ∃ r, sz s p = r := ⟨_, rfl⟩;obtain ⟨b0, au⟩ : ∃ r, td s p = r := ⟨_, rfl⟩;rw [a6, b2, ay, au] at ab;rw [a6];rw [b2, ay, au] at HT;rw [b2] at a1 b4;rw [ay] at b9 bv HN bo a2;rw [au] at bu;clear a6 b2 ay au;obtain ⟨N, hN⟩ : ∃ N, ls.length = N := ⟨_, rfl⟩;rw [hN] at bo a2 HN;have b8 := zH hN;have ch := zH a2;subst bo;clear hN a2;by_cases a6 : ae = 0
 ·subst a6
  have ad : Hid (R = t5 ls s0 [] b0) := zH (by rw [ab.out, if_neg (by simp)]);clear ab;rw [show ((0 : Nat) : Int) = (0 : Int) from rfl]
  go_wp2_with fail
  go_loopw [8, 10, 27] (fun nv ov i wr => ∃ (k : Nat) (sk : Sh) (lk : List Itm) (bk : List Pt), k ≤ N ∧ i = .int .i64 (k : Int) ∧ TaW L w D ls (.slice sp N bi) sk lk bk ov nv wr ∧ R = t5 (ls.drop k) sk lk bk ∧ Lim (m + 73 + k) sk ∧ (∀ q, (rdB sk q).length ≤ 100000) ∧ lk.length ≤ 4 * k ∧ bk.length ≤ 1000 + k) (fun _ _ i _ => N - (intOf i).toNat)
  case atStart => exact ⟨0, s0, [], b0, by omega, rfl, HT.out, ad.out, a1.out, b4.out, by simp, by have := bu.out; omega⟩
  case round =>
   clear HT ad a1 b4;obtain ⟨k, sk, lk, bk, hk, rfl, ht, hr, ag, cf, cb, c8⟩ := hrel;obtain ⟨cz, bl, cw, -⟩ := d6 ht.oo;subst cw;obtain ⟨cy, bj, cv, -⟩ := d6 ht.no;subst cv;have HT := zH ht; have ao := zH hr; have a1 := zH ag; have bb := zH cf; have bt := zH cb; have br := zH c8;clear ht hr ag cf cb c8;have d7 := IntWalk.i64_in ((k : Int) + 1) (by have := HN.out; omega);by_cases hlt : k < N
   ·obtain ⟨x, hx⟩ : ∃ x, ls[k]? = some x := ⟨_, List.getElem?_eq_getElem (by have := b8.out; omega)⟩
    obtain ⟨g, cr, e, cu, c7⟩ := HT.out.lo.at b9.out (by have := b8.out; omega);injection e with e1 e2 e3
    subst e1;have a4 : Hid (Lf.OK x) := zH (b9.out x (List.mem_of_getElem? hx));have c1 : Hid (x.1 < 16000) := zH (bv.out x (List.mem_of_getElem? hx));have ad := zH (c7 k x hx);have b7 : Hid (R = t5 (x :: ls.drop (k + 1)) sk lk bk) := zH (by rw [ao.out, Re hx]);have cp : Hid ((Tryz.prog.info? 110).map (·.size) = some (av x).toArray.size) := zH (by rw [List.size_toArray, bq a4.out.2]; exact Aj);have cj : Hid ((av x).toArray.size = 42) := zH (by rw [List.size_toArray, bq a4.out.2]);have d2 : ¬ N ≤ k := (by omega);have d1 : N ≤ bi := ch.out;clear hx c7 cu e2 e3 ao
    go_upto_region 8 with (first | (refine a9 rfl (c6 (ty := 110) (cs := av x) rfl rfl (by have := ad.out; first | exact this | simpa using this) Tryz.underlying110 rfl (by rw [Aj, bq a4.out.2])) ?_) | (refine wpList_store_row rfl 110 (.tmp 12) (.tmp 30) rfl wr.heap.size (av x).toArray rfl rfl 110 _ (heap_alloc_new wr _) cp.out (by rw [cj.out]; rfl) (U0 x) ?_) | fail)
    refine (fun (k : ∀ W, Blk W wr.heap.size (av x) 110 → Below wr.heap.size wr W → Code.wp _ _ _ _ W) => k _ (ar wr _ (av x) 110).1 (ar wr _ (av x) 110).2) ?_;intro W5 hx5 hb5;obtain ⟨L1, v1, h1, a5⟩ := HT.out.call;have b1 := An x.2 a4.out.2 (h1.below hb5) a1.out (bb.out x.2);have aw := fun s2 Y hs => a5 s2 W5 Y hb5 hs
    obtain ⟨B, hB⟩ : ∃ B, wr.heap.size = B := ⟨_, rfl⟩;rw [hB] at hx5 aw ⊢;obtain ⟨ns, az⟩ : ∃ r, tbN sk x.2 = r := ⟨_, rfl⟩;obtain ⟨er, bn⟩ : ∃ r, tbE sk x.2 = r := ⟨_, rfl⟩;obtain ⟨s2, aj⟩ : ∃ r, tbS sk x.2 = r := ⟨_, rfl⟩;have an : Hid (BOK ns) := zH (by rw [← az]; exact J9 _ _);have a7 : Hid (Lim (m + 73 + (k + 1)) s2) := zH (by rw [← aj]; exact a1.out.tbS (by have := HM.out; have := HN.out; omega));have bc : Hid (∀ q, (rdB s2 q).length ≤ 100000) := zH (fun q => by rw [← aj, Yx]; exact bb.out q)
    have am : Hid (R = if er ≠ 0 then ⟨er, s2, [], []⟩ else t5 (ls.drop (k + 1)) s2 (lk ++ j9 x.1 ns 4) (bk ++ [x.2])) := zH (by
     rw [← az, ← bn, ← aj];by_cases q : tbE sk x.2 = 0
     ·rw [if_neg (by simp [q]), b7.out, M6 q]
     ·rw [if_pos q, b7.out, Vf q])
    unfold Cb at b1;rw [az, bn, aj] at b1;have bd : Hid (Calls Tryz.prog 46 #[shI D, .agg (a8 x.2).toArray] W5 fun e Y => e = .returned (.tuple #[.agg (ai ns).toArray, .int .i64 (er : Int)]) ∧ ShPost 5 L1 W5 D s2 Y) := zH b1;have b6 : Hid (∀ Y, ShPost 5 L1 W5 D s2 Y → TaW L w D ls (.slice (some ⟨g, 0, none⟩) N bi) s2 lk bk (.slice cz lk.length bl) (.slice cy bk.length bj) Y ∧ Blk Y B (av x) 110) := zH (fun Y hs => ⟨(aw s2 Y hs).1, (aw s2 Y hs).2 B _ _ (Nat.le_refl _) hx5⟩);have bz := zH hx5;have co := zH (fa an.out);have cm : Hid ((ai ns).toArray.size = 176) := zH an.out.size;clear hx5 hb5 h1 a5 b1 aw hB az bn aj a1 bb b7 ad HT;unfold shI at bd
    go_wp2_with (first | (refine a9 rfl (c6 (ty := 28) (cs := a8 x.2) rfl rfl (oz (d9 bz.out)) Tryz.underlying28 rfl (by rw [dw, aa a4.out.2])) ?_) | fail)
    refine bd.out.mono ?_;rintro e X6 ⟨rfl, bp⟩;have bx := zH (b6.out X6 bp).1;have bh := zH (b6.out X6 bp).2;clear bp bd b6 bz
    go_upto_region 9 with (first | (refine wpList_store_row rfl 104 (.tmp 13) (.tmp 36) rfl X6.heap.size (ai ns).toArray rfl rfl 104 _ (heap_alloc_new X6 _) co.out (by rw [cm.out]; rfl) (cn ns) ?_) | fail)
    refine (fun (k : ∀ W, Blk W X6.heap.size (ai ns) 104 → Below X6.heap.size X6 W → Code.wp _ _ _ _ W) => k _ (ar X6 _ (ai ns) 104).1 (ar X6 _ (ai ns) 104).2) ?_;intro X7 hx7 hb7;have bg := zH (bx.out.below hb7);have ap := zH (bh.out.below hb7 bh.out.lt);obtain ⟨g7, c9⟩ : ∃ g, X6.heap.size = g := ⟨_, rfl⟩;rw [c9] at hx7 ⊢;have bs := zH hx7;clear hx7 hb7 c9 bx bh;by_cases h0 : er = 0
    ·subst h0
     have a0 : Hid (R = t5 (ls.drop (k + 1)) s2 (lk ++ j9 x.1 ns 4) (bk ++ [x.2])) := zH (by rw [am.out, if_neg (by simp)]);have c0 := ap.out.cell (j := 0) rfl;obtain ⟨xo, cg⟩ : ∃ n, x.1 = n := ⟨_, rfl⟩;rw [cg] at c0 a0 c1;clear cg am;rw [show ((0 : Nat) : Int) = (0 : Int) from rfl]
     go_wp2_with (first | (refine a9 rfl (dp an.out bs.out rfl rfl) ?_) | fail)
     refine (Gd xo c1.out ns an.out X7).mono ?_;rintro e X8 ⟨d3, rfl, bm, cd⟩;have c2 := bg.out.below bm;have c4 := ap.out.below bm ap.out.lt;obtain ⟨d4, w9, ce, c3, ca⟩ := c2.app cd (by have := bt.out; have := uj xo ns 4; have := HN.out; omega) 55;have c5 := ca _ _ _ (by decide) c4;obtain ⟨cx, d5, ah, af⟩ := c3.appP (q := x.2) ((Below.refl w9.heap.size w9).alloc (Nat.le_refl _) (.cells (a8 x.2).toArray 28)) a4.out.2 (Blk.new w9 (a8 x.2) 28) (by have := br.out; have := HN.out; omega) 48;have cl := zH ce; have cq := zH c5; have ba := zH ah; have bf := zH af;clear c2 c4 ce c3 ca c5 ah af bm cd c0 bg ap bs
     go_wp2_with (first | (at_builtin; refine a9 rfl (zb rfl rfl rfl cl.out) ?_) | (refine a9 rfl (c6 (ty := 28) (cs := a8 x.2) rfl rfl (oz (d9 cq.out)) Tryz.underlying28 rfl (by rw [dw, aa a4.out.2])) ?_) | (refine a9 rfl (Aa x.2 rfl rfl a4.out.2) ?_) | (at_builtin; refine a9 rfl (rk rfl rfl rfl ba.out) ?_) | fail)
     go_roundw
     case rel => exact ⟨k + 1, s2, _, _, by omega, by go_num, bf.out, a0.out, a7.out, bc.out, by have := bt.out; have := uj xo ns 4; rw [List.length_append]; omega, by have := br.out; rw [List.length_append, List.length_singleton]; omega⟩
     case measure => simp [intOf]; omega
    ·have ct : ¬ (er : Int) = 0 := by omega
     have a0 : Hid (R = ⟨er, s2, [], []⟩) := zH (by rw [am.out, if_pos h0]);have HE := zH (HP.out (.slice none 0 0) (.slice none 0 0) _ ls X7 (by rw [a0.out]; exact bg.out.none) (by rw [a0.out]; exact a7.out.mono (by have := HN.out; omega) HM.out));have a3 : Hid (R.e = er) := zH (by rw [a0.out]);rw [a3.out] at HE;clear h0 am a0 HP a3
     go_wp2_with fail
     first | exact HE.out | (go_ret; exact HE.out)
   ·obtain rfl : k = N := by omega
    have a0 : Hid (R = ⟨0, sk, lk, bk⟩) := zH (by rw [ao.out, List.drop_of_length_le (by have := b8.out; omega)]; rfl);have HE := zH (HP.out _ _ _ ls wr (by rw [a0.out]; exact HT.out) (by rw [a0.out]; exact a1.out.mono (by have := HN.out; omega) HM.out));have a3 : Hid ((R.e : Int) = 0) := zH (by rw [a0.out]; rfl);rw [a3.out] at HE;clear hlt hk a0 HP a3 ao HT
    go_wp2_with fail
    first | exact HE.out | (go_ret; exact HE.out)
 ·have ct : ¬ (ae : Int) = 0 := by omega
  have a0 : Hid (R = ⟨ae, s0, [], []⟩) := zH (by rw [ab.out, if_pos a6]);have HE := zH (HP.out (.slice none 0 0) (.slice none 0 0) _ ls Y (by rw [a0.out]; exact HT.out.none) (by rw [a0.out]; exact a1.out.mono (by omega) HM.out));have a3 : Hid (R.e = ae) := zH (by rw [a0.out]);rw [a3.out] at HE;clear a6 ab a0 HP a3 HT
  go_wp2_with fail
  first | exact HE.out | (go_ret; exact HE.out)
end Go.Proofs.YtjgjohdeeeoeoaaGreatDoor
namespace Go.Proofs.YtjgjohdeeeoeoaaGreatDoor
open Go.RowKit
set_option maxRecDepth 100000 in
set_option maxHeartbeats 4000000 in
theorem Ge (n : Ino) (h : n.OK) (w : World) : Calls Tryz.prog 22 #[.agg (af n).toArray] w fun e w' => e = .returned (.agg (af n).toArray) ∧ Below w.heap.size w w' := by
 have HN := zH h
 have HX : Hid (∀ z, z = (af zeroI).toArray → OfW n w ((w.alloc (.cells (af n).toArray 62)).alloc (.cells z 68))) := zH (fun z hz => by
  subst hz
  exact ⟨(Blk.new _ _ _).alloc _, Blk.new' _ _ _ _ _ (by simp) rfl, ((Below.refl _ _).alloc (Nat.le_refl _) _).alloc (by simp) _⟩)
 have a0 := zH (fb h);have a1 : Hid ((af zeroI).toArray.size = (af n).toArray.size) := zH (by rw [List.size_toArray, List.size_toArray, am h, am zeroI_ok]);clear h;go_enter Tryz.func22, Tryz.ntmps22
 go_upto_region 1 with fail
 refine (fun (k : ∀ W, OfW n w W → Code.wp _ _ _ _ W) => k _ (HX.out _ rfl)) ?_;intro W hW;have HA := zH hW.a; have HR := zH hW.r; have HB := zH hW.b;clear hW HX;have c0 := HA.out.cell (j := 0) rfl;have c1 := HA.out.cell (j := 1) rfl;have c2 := HA.out.cell (j := 2) rfl
 go_wp2_with (first | (refine aq (by rfl) (na HN.out HA.out rfl rfl) ?_) | (refine a9 rfl (Wv HN.out rfl rfl rfl rfl rfl) ?_) | (refine wpList_store_row rfl 68 (.tmp 2) (.tmp 11) rfl (w.heap.size + 1) (af n).toArray rfl rfl 68 _ HR.out a0.out a1.out (fj n) ?_) | fail)
 exact bodyPost_ret (results_cell_row Tryz.results22 _ _ (w.heap.size + 1) 68 _ _ _ rfl (HR.out.row _) Tryz.underlying68 rfl a0.out) rfl ⟨rfl, cz HB.out (by omega) _⟩
end Go.Proofs.YtjgjohdeeeoeoaaGreatDoor
