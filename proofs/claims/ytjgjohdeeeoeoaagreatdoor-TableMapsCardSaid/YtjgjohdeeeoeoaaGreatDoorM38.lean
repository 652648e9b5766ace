/- Tables, plain: what is read of a table that stands on a shelf; what Set makes of it. -/
import Derived.Test.YtjgjohdeeeoeoaaGreatDoorM37
import Derived.Test.YtjgjohdeeeoeoaaGreatDoorM30
import Derived.Test.YtjgjohdeeeoeoaaGreatDoorM36
set_option linter.all false
namespace Go.Proofs.YtjgjohdeeeoeoaaGreatDoor
open Go.RowKit
variable {b : Bs} {bl' : List Bs} {hv ns : List Ino} {l : List Itm} {ls : List Lf} {h mids : List Pt} {n off : Nat} {q root : Pt} {s s' s0 : Sh}
def db (hv : List Ino) (off : Nat) : List Ino := (hv.drop (4 * off)).take 4
theorem uf {k : Nat} (hk : k < 4) : (db hv off)[k]? = hv[4 * off + k]? := by
 unfold db;rw [List.getElem?_take, if_pos hk, List.getElem?_drop]
theorem Kx (hl : hv.length = 256) (ho : ∀ n ∈ hv, n.OK) (h : off < 64) : BOK (db hv off) :=
 ⟨by unfold db; rw [List.length_take, List.length_drop]; omega, fun n hn => ho n (List.mem_of_mem_drop (List.mem_of_mem_take hn))⟩
def IsL (bl : List Bs) (off : Nat) (q : Pt) (ns : List Ino) : Prop :=
 BOK ns ∧ ((q = zeroP ∧ ns = zeros4) ∨ (ns ≠ zeros4 ∧ du ns = true ∧ ∃ k, k < 30000 ∧ bl[k]? = some (i9 ns) ∧ q = iu (fd off) (k + 1) (i9 ns)))
theorem yq : iu (fd off) n b ≠ zeroP := fun h => by
 have : (iu (fd off) n b).kind = zeroP.kind := by rw [h]
 cases this
theorem Tp (ho : off < 64) (hn : 1 ≤ n) : fz (iu (fd off) n b) = true := by
 have a0 : n ≠ 0 := by omega
 unfold fz jg k7 ri;simp [iu, ph, fd, zeroP, eo, mh, wi, nh, ly, List.range_succ, a0, ho]
theorem IsL.mono {bl : List Bs} (h : IsL bl off q ns) (hp : ∀ (k : Nat) (b : Bs), bl[k]? = some b → bl'[k]? = some b) : IsL bl' off q ns := by
 obtain ⟨h1, h2⟩ := h;refine ⟨h1, ?_⟩;rcases h2 with h2 | ⟨a, b, k, c, d, e⟩
 ·exact .inl h2
 ·exact .inr ⟨a, b, k, c, hp _ _ d, e⟩
theorem IsL.may {bl : List Bs} (h : IsL bl off q ns) : du ns = true := by
 rcases h.2 with ⟨_, e⟩ | ⟨_, e, _⟩
 ·rw [e]; kernel_rfl
 ·exact e
theorem IsL.hole {bl : List Bs} (h : IsL bl off q ns) : q = zeroP ↔ ns = zeros4 := by
 rcases h.2 with ⟨h1, h2⟩ | ⟨a, b, k, c, d, e⟩
 ·exact ⟨fun _ => h2, fun _ => h1⟩
 ·constructor
  ·intro h1; rw [e] at h1; exact absurd h1 yq
  ·intro h1; exact absurd h1 a
theorem IsL.read (h : IsL s.blocks off q ns) : ((tbE s q = 0 ∧ tbN s q = ns) ∨ (tbE s q = 21 ∧ tbN s q = zeros4 ∧ s.bad ≠ [])) ∧ ∃ rs, More s (tbS s q) rs := by
 rcases h.2 with ⟨h1, h2⟩ | ⟨a, b, k, c, d, e⟩
 ·subst h1
  unfold tbE tbN tbS;rw [br, if_pos rfl, if_pos rfl, if_pos rfl];exact ⟨.inl ⟨rfl, h2.symm⟩, [], More.refl s⟩
 ·have hz : eqP q zeroP = false := by rw [e]; exact dn yq
  have a0 := (List.getElem?_eq_some_iff.1 d).1;have ha : at0 q = k + 1 := (by rw [e]; rfl);obtain ⟨p1, p2⟩ := wg h.1 b;have hS : tbS s q = rdS s q := (by unfold tbS; rw [if_neg (by rw [hz]; decide)]);refine ⟨?_, [q], by rw [hS]; exact More.rd s q⟩;by_cases hh : s.bad.any (fun x => x == at0 q) = true
  ·right
   have hE : rdE s q = 21 := (by unfold rdE; rw [if_pos hh]);refine ⟨?_, ?_, fun e0 => by rw [e0] at hh; simp at hh⟩
   ·unfold tbE; rw [if_neg (by rw [hz]; decide), hE, if_pos (by simp)]
   ·unfold tbN; rw [if_neg (by rw [hz]; decide), hE, if_pos (by simp)]
  ·left
   have hE : rdE s q = 0 := by unfold rdE; rw [if_neg hh, if_neg (by rw [ha]; omega)]
   have hB : rdB s q = i9 ns := by
    unfold rdB;rw [if_neg hh, if_neg (by rw [ha]; omega), ha, Nat.add_sub_cancel, List.getD_eq_getElem?_getD, d];rfl
   refine ⟨?_, ?_⟩
   ·unfold tbE; rw [if_neg (by rw [hz]; decide), hE, if_neg (by simp), hB]; unfold yb; rw [if_pos p1, if_neg (by simp)]
   ·unfold tbN; rw [if_neg (by rw [hz]; decide), hE, if_neg (by simp), hB, p2]
structure IsTab (bl : List Bs) (root : Pt) (hv : List Ino) (h mids : List Pt) : Prop where
 len : hv.length = 256
 z : hv[0]? = some zeroI
 ok : ∀ n ∈ hv, n.OK
 t : IsT bl root h mids
 l : ∀ off q, h[off]? = some q → IsL bl off q (db hv off)
theorem IsTab.mono {bl : List Bs} (ht : IsTab bl root hv h mids) (hp : ∀ (k : Nat) (b : Bs), bl[k]? = some b → bl'[k]? = some b) : IsTab bl' root hv h mids := ⟨ht.len, ht.z, ht.ok, ht.t.mono hp, fun off q hq => (ht.l off q hq).mono hp⟩
theorem IsTab.leaf {bl : List Bs} (ht : IsTab bl root hv h mids) (ho : off < 64) : ∃ q, h[off]? = some q ∧ IsL bl off q (db hv off) := by
 obtain ⟨q, hq⟩ : ∃ q, h[off]? = some q := ⟨_, List.getElem?_eq_getElem (by rw [ht.t.1]; exact ho)⟩;exact ⟨q, hq, ht.l off q hq⟩
theorem IsTab.bl (ht : IsTab s.blocks root hv h mids) (ho : off < 64) :
  ((blE s root off = 0 ∧ blN s root off = db hv off) ∨ (blE s root off = 21 ∧ blN s root off = zeros4 ∧ s.bad ≠ [])) ∧ ∃ rs, More s (blS s root off) rs := by
 obtain ⟨rs, h1, _, h2⟩ := Sl ht.t ho;obtain ⟨q, hq, hl⟩ := ht.leaf ho;rcases h2 with ⟨_, h3, h4⟩ | ⟨h3, h4, _⟩
 ·rw [hq] at h4
  injection h4 with h5
  have hb := h1.bl;have hr := IsL.read (s := jb s root off) (q := q) (by rw [hb.1]; exact hl);rw [hb.2] at hr;obtain ⟨a0, a2, a1⟩ := hr;unfold blE blN blS;rw [h3, if_neg (by simp), if_neg (by simp), if_neg (by simp), h5];exact ⟨a0, rs ++ a2, h1.trans a1⟩
 ·unfold blE blN blS
  rw [h4, if_pos (by simp), if_pos (by simp), if_pos (by simp)];refine ⟨.inr ⟨rfl, rfl, fun e => ?_⟩, rs, h1⟩;rw [List.any_eq_true] at h3;obtain ⟨x, _, hx⟩ := h3;unfold lz at hx;rw [e] at hx;simp at hx
theorem IsTab.get (ht : IsTab s.blocks root hv h mids) {num : Nat} (hn : df num = true) :
  ((gtE s root num = 0 ∧ some (gtN s root num) = hv[num]?) ∨ (gtE s root num = 21 ∧ gtN s root num = zeroI ∧ s.bad ≠ [])) ∧ ∃ rs, More s (gtS s root num) rs := by
 have a1 : num < 256 := by unfold df at hn; simp at hn; omega
 obtain ⟨h1, h2⟩ := ht.bl (off := num / 4) (by omega);have a0 : ¬ df num = false := by rw [hn]; decide
 rw [show gtE s root num = blE s root (num / 4) by unfold gtE; rw [if_neg a0], show gtS s root num = blS s root (num / 4) by unfold gtS; rw [if_neg a0]];refine ⟨?_, h2⟩;rcases h1 with ⟨e1, e2⟩ | ⟨e1, e2, e3⟩
 ·left
  rw [show gtN s root num = (blN s root (num / 4)).getD (num % 4) zeroI by unfold gtN; rw [if_neg a0, e1, if_neg (by simp)], e2];refine ⟨e1, ?_⟩;have := uf (hv := hv) (off := num / 4) (k := num % 4) (by omega);rw [show 4 * (num / 4) + num % 4 = num by omega] at this;rw [← this, List.getD_eq_getElem?_getD];obtain ⟨x, hx⟩ : ∃ x, (db hv (num / 4))[num % 4]? = some x := ⟨_, List.getElem?_eq_getElem (by rw [(Kx ht.len ht.ok (by omega)).len]; omega)⟩;rw [hx];rfl
 ·right
  rw [show gtN s root num = zeroI by unfold gtN; rw [if_neg a0, e1, if_pos (by simp)]];exact ⟨e1, rfl, e3⟩
def jj (hv : List Ino) (l : List Itm) : List Ino := l.foldl (fun a x => a.set x.1 x.2) hv
theorem vj : ∀ (l : List Itm) (hv : List Ino), (jj hv l).length = hv.length
 | [], _ => rfl
 | x :: l, hv => by
  have := vj l (hv.set x.1 x.2);rw [List.length_set] at this;exact this
theorem Mw {x : Itm} : db (hv.set x.1 x.2) off = if x.1 / 4 = off then (db hv off).set (x.1 % 4) x.2 else db hv off := by
 unfold db;apply List.ext_getElem?;intro j;by_cases hc : x.1 / 4 = off
 ·rw [if_pos hc]
  rw [List.getElem?_take, List.getElem?_drop, List.getElem?_set, List.getElem?_set, List.getElem?_take, List.getElem?_drop];by_cases hj : j < 4
  ·rw [if_pos hj, if_pos hj]
   by_cases hx : x.1 = 4 * off + j
   ·rw [if_pos hx, if_pos (show x.1 % 4 = j by omega)]
    rw [List.length_take, List.length_drop];by_cases hl : x.1 < hv.length
    ·rw [if_pos hl, if_pos (show x.1 % 4 < min 4 (hv.length - 4 * off) by omega)]
    ·rw [if_neg hl, if_neg (show ¬ x.1 % 4 < min 4 (hv.length - 4 * off) by omega)]
   ·rw [if_neg hx, if_neg (show ¬ x.1 % 4 = j by omega)]
  ·rw [if_neg hj, if_neg hj]
   rw [List.length_take];by_cases hx : x.1 % 4 = j
   ·omega
   ·rw [if_neg hx]
 ·rw [if_neg hc]
  rw [List.getElem?_take, List.getElem?_drop, List.getElem?_set, List.getElem?_take, List.getElem?_drop];by_cases hj : j < 4
  ·rw [if_pos hj, if_pos hj, if_neg (by omega)]
  ·rw [if_neg hj, if_neg hj]
theorem zh (off : Nat) : ∀ (l : List Itm) (hv : List Ino), db (jj hv l) off = wth (db hv off) (cq off l)
 | [], _ => rfl
 | x :: l, hv => by
  have ih := zh off l (hv.set x.1 x.2);show db (jj (hv.set x.1 x.2) l) off = _;rw [ih, Mw];by_cases hc : x.1 / 4 = off
  ·rw [if_pos hc]
   have e : cq off (x :: l) = x :: cq off l := (by simp [cq, hc]);rw [e];rfl
  ·rw [if_neg hc]
   have e : cq off (x :: l) = cq off l := (by simp [cq, hc]);rw [e]
theorem Ag : ∀ (l : List Itm) (hv : List Ino) (n : Ino), n ∈ jj hv l → n ∈ hv ∨ ∃ x ∈ l, n = x.2
 | [], _, _, h => .inl h
 | x :: l, hv, n, h => by
  rcases Ag l (hv.set x.1 x.2) n h with h1 | ⟨y, hy, e⟩
  ·rcases List.mem_or_eq_of_mem_set h1 with h2 | h2
   ·exact .inl h2
   ·exact .inr ⟨x, by simp, h2⟩
  ·exact .inr ⟨y, by simp [hy], e⟩
theorem Br : ∀ (l : List Itm) (hv : List Ino), (∀ x ∈ l, x.1 ≠ 0) → (jj hv l)[0]? = hv[0]?
 | [], _, _ => rfl
 | x :: l, hv, h => by
  have ih := Br l (hv.set x.1 x.2) (fun y hy => h y (by simp [hy]));show (jj (hv.set x.1 x.2) l)[0]? = _;rw [ih, List.getElem?_set, if_neg (h x (by simp))]
theorem Zk (h : du ns = true) : ∀ (l : List Itm), (∀ x ∈ l, ij x.2 = true) → du (wth ns l) = true := by
 intro l
 induction l generalizing ns with
 | nil => intro _; exact h
 | cons x l ih =>
  intro hl;show du (wth (ns.set (x.1 % 4) x.2) l) = true;refine ih ?_ (fun y hy => hl y (by simp [hy]));unfold du at *;rw [List.all_eq_true] at *;intro n hn;rcases List.mem_or_eq_of_mem_set hn with h2 | h2
  ·exact h n h2
  ·rw [h2]; exact hl x (by simp)
structure SgI (l : List Itm) (s0 s : Sh) (hv : List Ino) (os : List Nat) (ls : List Lf) : Prop where
 pre : ∀ (k : Nat) (b : Bs), s0.blocks[k]? = some b → s.blocks[k]? = some b
 bd : s.bad = s0.bad
 rm : s.room = -1
 le : s0.blocks.length ≤ s.blocks.length
 len : s.blocks.length ≤ s0.blocks.length + os.length
 md : s.made = s0.made ++ ls.flatMap (fun x => one x.2)
 asc : Asc ls
 sub : ∀ x ∈ ls, x.1 ∈ os
 lf : ∀ x ∈ ls, IsL s.blocks x.1 x.2 (wth (db hv x.1) (cq x.1 l)) ∧ wth (db hv x.1) (cq x.1 l) ≠ db hv x.1 ∧ (x.2 = zeroP ∨ s0.blocks.length < x.2.birth)
 ch : ∀ off ∈ os, wth (db hv off) (cq off l) = db hv off ∨ ∃ x ∈ ls, x.1 = off
theorem More.sgi {os : List Nat} {rs : List Pt} (h : SgI l s0 s hv os ls) (hm : More s s' rs) : SgI l s0 s' hv os ls := by
 unfold More at hm;subst hm;exact ⟨h.pre, h.bd, h.rm, h.le, h.len, h.md, h.asc, h.sub, h.lf, h.ch⟩
theorem Uy {root : Pt} {hv : List Ino} {h mids : List Pt} {l : List Itm} {s0 : Sh} (ht : IsTab s0.blocks root hv h mids) (hok : ∀ x ∈ l, Itm.OK x) (hmay : ∀ x ∈ l, ij x.2 = true) (hfull : s0.blocks.length + 64 < 30000) :
  ∀ (os done : List Nat) (s : Sh) (ls : List Lf), done.length + os.length ≤ 64 → (∀ o ∈ os, o < 64) → os.Pairwise (· < ·) → (∀ o ∈ done, ∀ o' ∈ os, o < o') → SgI l s0 s hv done ls →
   ((dz root l os s ls).e = 0 ∧ SgI l s0 (dz root l os s ls).s hv (done ++ os) (dz root l os s ls).l) ∨
   ((dz root l os s ls).e = 21 ∧ s0.bad ≠ [] ∧ ∃ os' ls', SgI l s0 (dz root l os s ls).s hv os' ls' ∧ os'.length ≤ 64)
 | [], done, s, ls, _, _, _, _, hI => by
  left;rw [List.append_nil];exact ⟨rfl, hI⟩
 | off :: os, done, s, ls, hlen, hlt, hpw, hdn, hI => by
  have aa : done.length + os.length + 1 ≤ 64 := (by rw [List.length_cons] at hlen; omega);have ho := hlt off (by simp);have ae : IsTab s.blocks root hv h mids := ht.mono hI.pre;obtain ⟨hb, rs, hm⟩ := ae.bl ho;have a0 := hm.sgi hI;rcases hb with ⟨e1, e2⟩ | ⟨e1, _, e3⟩
  ·have a2 : jn root l s off = wth (db hv off) (cq off l) := by unfold jn; rw [e2]
   have a5 := fun s' ls' (hI' : SgI l s0 s' hv (done ++ [off]) ls') => Uy ht hok hmay hfull os (done ++ [off]) s' ls' (by simp; omega) (fun o hq => hlt o (by simp [hq])) (List.Pairwise.of_cons hpw) (fun o hq o' hq' => by
    rcases List.mem_append.1 hq with hq | hq
    ·exact hdn o hq o' (by simp [hq'])
    ·simp at hq; subst hq; exact (List.pairwise_cons.1 hpw).1 o' hq') hI'
   have a3 : ∀ {o : Nat}, o ∈ done → o ∈ done ++ [off] := fun hq => by simp [hq]
   by_cases hs : jn root l s off = blN s root off
   ·rw [Dm e1 hs]
    have hr := a5 (blS s root off) ls ⟨a0.pre, a0.bd, a0.rm, a0.le, by have := a0.len; simp; omega, a0.md, a0.asc, fun x hx => a3 (a0.sub x hx), a0.lf, fun o hq => by
     rcases List.mem_append.1 hq with hq | hq
     ·exact a0.ch o hq
     ·simp at hq; subst hq
      left
      rw [← a2, hs, e2]⟩
    rw [List.append_assoc] at hr;exact hr
   ·have a8 := Kx ht.len ht.ok ho
    have a6 : BOK (wth (db hv off) (cq off l)) := Dz a8 hok off
    have a7 : du (wth (db hv off) (cq off l)) = true := Zk (by
     obtain ⟨q, _, hl⟩ := ht.leaf ho
     exact hl.may) _ (fun x hx => hmay x (List.mem_filter.1 hx).1)
    have ad : (blS s root off).blocks.length < 30000 := by have := a0.len; omega
    have a9 : ¬ ja (blS s root off) := fun hf => by
     unfold ja at hf;have := a0.rm;omega
    have e4 : taE (blS s root off) (jn root l s off) = 0 := by
     rw [a2];unfold taE;split
     ·rfl
     ·rw [if_neg (by rw [a7]; decide)]
      unfold nwE;rw [if_neg a9]
    rw [Ix e1 hs e4];have ab : wth (db hv off) (cq off l) ≠ db hv off := fun e => hs (by rw [a2, e, e2])
    have a1 : ∀ x ∈ ls, x.1 < off := fun x hx => hdn x.1 (a0.sub x hx) off (by simp)
    have af : SgI l s0 (taS (blS s root off) (jn root l s off) off) hv (done ++ [off]) (ls ++ [(off, taP (blS s root off) (jn root l s off) off)]) := by
     rw [a2];unfold taS taP;by_cases hz : wth (db hv off) (cq off l) = zeros4
     ·rw [if_pos hz, if_pos hz]
      refine ⟨a0.pre, a0.bd, a0.rm, a0.le, by have := a0.len; simp; omega, ?_, ?_, ?_, ?_, ?_⟩
      ·rw [a0.md, List.flatMap_append]
       simp [qu]
      ·refine ⟨List.pairwise_append.2 ⟨a0.asc.asc, by simp, fun a ha b hb => by simp at hb; subst hb; exact a1 a ha⟩, fun x hx => ?_, fun x hx => ?_⟩
       ·rcases List.mem_append.1 hx with hx | hx
        ·exact a0.asc.lt x hx
        ·simp at hx; subst hx; exact ho
       ·rcases List.mem_append.1 hx with hx | hx
        ·exact a0.asc.ok x hx
        ·simp at hx; subst hx; exact ⟨ak, by unfold j6; rw [br]; rfl⟩
      ·intro x hx
       rcases List.mem_append.1 hx with hx | hx
       ·exact a3 (a0.sub x hx)
       ·simp at hx; subst hx; simp
      ·intro x hx
       rcases List.mem_append.1 hx with hx | hx
       ·exact a0.lf x hx
       ·simp at hx; subst hx
        exact ⟨⟨a6, .inl ⟨rfl, hz⟩⟩, ab, .inl rfl⟩
      ·intro o hq
       rcases List.mem_append.1 hq with hq | hq
       ·rcases a0.ch o hq with h1 | ⟨x, hx, e⟩
        ·exact .inl h1
        ·exact .inr ⟨x, by simp [hx], e⟩
       ·simp at hq; subst hq
        exact .inr ⟨(o, zeroP), by simp, rfl⟩
     ·rw [if_neg hz, if_neg hz, if_neg (by rw [a7]; decide), if_neg (by rw [a7]; decide)]
      unfold nwS nwP;rw [if_neg a9, if_neg a9]
      have a4 : ∀ (k : Nat) (b : Bs), (blS s root off).blocks[k]? = some b → ((blS s root off).blocks ++ [i9 (wth (db hv off) (cq off l))])[k]? = some b := fun k b hk => by
       rw [List.getElem?_append_left (List.getElem?_eq_some_iff.1 hk).1];exact hk
      refine ⟨fun k b hk => a4 k b (a0.pre k b hk), a0.bd, ?_, ?_, ?_, ?_, ?_, ?_, ?_, ?_⟩
      ·show max ((blS s root off).room - 1) (-1) = -1
       rw [a0.rm]; rfl
      ·show _ ≤ ((blS s root off).blocks ++ [_]).length
       rw [List.length_append]; have := a0.le; omega
      ·show ((blS s root off).blocks ++ [_]).length ≤ _
       rw [List.length_append, List.length_append]; have := a0.len; simp; omega
      ·show (blS s root off).made ++ [_] = _
       rw [a0.md, List.flatMap_append];simp only [List.flatMap_cons, List.flatMap_nil, List.append_nil, List.append_assoc];rw [A2 yq]
      ·refine ⟨List.pairwise_append.2 ⟨a0.asc.asc, by simp, fun a ha b hb => by simp at hb; subst hb; exact a1 a ha⟩, fun x hx => ?_, fun x hx => ?_⟩
       ·rcases List.mem_append.1 hx with hx | hx
        ·exact a0.asc.lt x hx
        ·simp at hx; subst hx; exact ho
       ·rcases List.mem_append.1 hx with hx | hx
        ·exact a0.asc.ok x hx
        ·simp at hx; subst hx
         exact ⟨sg (Ap (by omega)) (by omega) _, by unfold j6; rw [Tp ho (by omega), Bool.or_true]⟩
      ·intro x hx
       rcases List.mem_append.1 hx with hx | hx
       ·exact a3 (a0.sub x hx)
       ·simp at hx; subst hx; simp
      ·intro x hx
       rcases List.mem_append.1 hx with hx | hx
       ·obtain ⟨a, b, c⟩ := a0.lf x hx
        exact ⟨a.mono a4, b, c⟩
       ·simp at hx; subst hx
        refine ⟨⟨a6, .inr ⟨hz, a7, (blS s root off).blocks.length, ad, ?_, rfl⟩⟩, ab, .inr ?_⟩
        ·show ((blS s root off).blocks ++ [_])[_]? = _
         rw [List.getElem?_append_right (Nat.le_refl _), Nat.sub_self]; rfl
        ·show _ < (blS s root off).blocks.length + 1
         have := a0.le; omega
      ·intro o hq
       rcases List.mem_append.1 hq with hq | hq
       ·rcases a0.ch o hq with h1 | ⟨x, hx, e⟩
        ·exact .inl h1
        ·exact .inr ⟨x, by simp [hx], e⟩
       ·simp at hq; subst hq
        exact .inr ⟨_, List.mem_append_right _ (List.mem_singleton_self _), rfl⟩
    have hr := a5 _ _ af;rw [List.append_assoc] at hr;exact hr
  ·right
   rw [Iw (by rw [e1]; simp)];refine ⟨e1, by rw [← hI.bd]; exact e3, done, ls, a0, by omega⟩
theorem Zf {l : List Lf} : ∀ {h : List Pt}, Asc l → h.length = 64 → ∀ (off : Nat), (∀ x ∈ l, x.1 = off → (ei h l)[off]? = some x.2) ∧ ((∀ x ∈ l, x.1 ≠ off) → (ei h l)[off]? = h[off]?) := by
 induction l with
 | nil => intro h _ _ off; exact ⟨fun x hx => (by cases hx), fun _ => rfl⟩
 | cons y l ih =>
  intro h ha hh off;have a0 : Asc l := ⟨List.Pairwise.of_cons ha.asc, fun x hx => ha.lt x (by simp [hx]), fun x hx => ha.ok x (by simp [hx])⟩;obtain ⟨i1, i2⟩ := ih (h := h.set y.1 y.2) a0 (by rw [List.length_set]; exact hh) off;rw [o5];refine ⟨fun x hx e => ?_, fun hn => ?_⟩
  ·rcases List.mem_cons.1 hx with rfl | hx
   ·rw [i2 (fun z hz => by have := (List.pairwise_cons.1 ha.asc).1 z hz; omega), List.getElem?_set, if_pos e, if_pos (by rw [hh]; exact ha.lt x (by simp))]
   ·exact i1 x hx e
  ·rw [i2 (fun z hz => hn z (by simp [hz])), List.getElem?_set, if_neg (hn y (by simp))]
structure SeT (s : Sh) (root : Pt) (hv : List Ino) (h mids : List Pt) (l : List Itm) (r : Ww) : Prop where
 e : r.e = 0
 pre : ∀ (k : Nat) (b : Bs), s.blocks[k]? = some b → r.s.blocks[k]? = some b
 len : r.s.blocks.length ≤ s.blocks.length + 80
 bd : r.s.bad = []
 rm : r.s.room = -1
 tab : ∃ h' mids', IsTab r.s.blocks r.p (jj hv l) h' mids'
 same : jj hv l = hv → r.p = root ∧ r.s.made = s.made
 diff : jj hv l ≠ hv → r.p ≠ root
theorem Sd {hw : List Ino} (h1 : hv.length = 256) (h2 : hw.length = 256) (h : ∀ off, off < 64 → db hv off = db hw off) : hv = hw := by
 apply List.ext_getElem?;intro i;by_cases hi : i < 256
 ·have h3 := h (i / 4) (by omega)
  have h4 := uf (hv := hv) (off := i / 4) (k := i % 4) (by omega);have h5 := uf (hv := hw) (off := i / 4) (k := i % 4) (by omega);rw [show 4 * (i / 4) + i % 4 = i by omega] at h4 h5;rw [← h4, ← h5, h3]
 ·rw [List.getElem?_eq_none (by omega), List.getElem?_eq_none (by omega)]
theorem Tz (l : List Itm) : (dr l).Pairwise (· < ·) := List.Pairwise.sublist List.filter_sublist List.pairwise_lt_range
theorem Fc (l : List Itm) : (dr l).length ≤ 64 := by
 unfold dr;have := List.length_filter_le (fun off => decide (cq off l ≠ [])) (List.range 64);simpa using this
theorem Q0 (hr : s.room = -1) : SgI l s s hv [] [] :=
 ⟨fun _ _ h => h, rfl, hr, Nat.le_refl _, by simp, by simp, ⟨by simp, fun x hx => (by cases hx), fun x hx => (by cases hx)⟩, fun x hx => (by cases hx), fun x hx => (by cases hx), fun o ho => (by cases ho)⟩
theorem Vh {root' : Pt} {mids' : List Pt} (ht : IsTab s0.blocks root hv h mids) (hok : ∀ x ∈ l, Itm.OK x) (hz : ∀ x ∈ l, x.1 ≠ 0) (hI : SgI l s0 s hv (dr l) ls)
  (hpre : ∀ (k : Nat) (b : Bs), s.blocks[k]? = some b → s'.blocks[k]? = some b) (ht' : IsT s'.blocks root' (ei h ls) mids') : IsTab s'.blocks root' (jj hv l) (ei h ls) mids' := by
 refine ⟨by rw [vj]; exact ht.len, by rw [Br l hv hz]; exact ht.z, fun n hn => ?_, ht', fun off q hq => ?_⟩
 ·rcases Ag l hv n hn with h1 | ⟨x, hx, e⟩
  ·exact ht.ok n h1
  ·rw [e]; exact (hok x hx).2
 ·have a1 : off < 64 := by
   have := (List.getElem?_eq_some_iff.1 hq).1;rw [o6, ht.t.1] at this;exact this
  obtain ⟨u1, u2⟩ := Zf (h := h) hI.asc ht.t.1 off;rw [zh];by_cases hx : ∃ x ∈ ls, x.1 = off
  ·obtain ⟨x, hx, e⟩ := hx
   rw [u1 x hx e] at hq;cases hq;subst e;exact (hI.lf x hx).1.mono hpre
  ·have a0 : ∀ x ∈ ls, x.1 ≠ off := fun x hx' e => hx ⟨x, hx', e⟩
   rw [u2 a0] at hq
   have h4 : wth (db hv off) (cq off l) = db hv off := by
    by_cases hm : cq off l = []
    ·rw [hm]; rfl
    ·rcases hI.ch off (by unfold dr; exact List.mem_filter.2 ⟨List.mem_range.2 a1, by simpa using hm⟩) with e | ⟨x, hx', e⟩
     ·exact e
     ·exact absurd ⟨x, hx', e⟩ hx
   rw [h4];exact (ht.l off q hq).mono (fun k b hk => hpre k b (hI.pre k b hk))
theorem Lz (ht : IsTab s.blocks root hv h mids) (hok : ∀ x ∈ l, Itm.OK x) (hs : ka l = true) (hb : s.bad = []) (hr : s.room = -1) (hfull : s.blocks.length + 100 < 30000) :
  SeT s root hv h mids l (tsR s root l) := by
 have ai : ∀ x ∈ l, ij x.2 = true := fun x hx => (rc hs x hx).2
 have am : ∀ x ∈ l, x.1 ≠ 0 := fun x hx e => by
  have := (rc hs x hx).1;unfold df at this;simp [e] at this
 rcases Uy ht hok ai (by omega) (dr l) [] s [] (by simpa using Fc l) (fun o ho => (wj ho).1) (Tz l) (fun o ho => by cases ho) (Q0 hr) with ⟨e0, hI⟩ | ⟨_, hbad, _⟩
 ·rw [List.nil_append] at hI
  obtain ⟨g, hg⟩ : ∃ g, dz root l (dr l) s [] = g := ⟨_, rfl⟩;rw [hg] at e0 hI
  have ap : tsR s root l = vh g.s root 0 g.l := by
   unfold tsR;rw [if_neg (by rw [hs]; decide), hg, if_neg (by rw [e0]; simp)]
  rw [ap];have au := hI;have av := Fc l;have af : IsT g.s.blocks root h mids := ht.t.mono hI.pre;have st := Uv (s := g.s) af hI.asc (by have := hI.len; omega);obtain ⟨f1, f2, a7, f3, f4, f5, f6, f7, f8, f9⟩ := st.full (hI.bd.trans hb) hI.rm;have a8 := Vh ht hok am hI st.pre f3
  have ad : jj hv l = hv → g.l = [] := fun e => by
   cases hq : g.l with
   | nil => rfl
   | cons x xs =>
    have h1 := (hI.lf x (by rw [hq]; simp)).2.1;rw [← zh, e] at h1;exact absurd rfl h1
  refine ⟨f1, fun k b hk => st.pre k b (hI.pre k b hk), by have := st.len; have := hI.len; omega, st.bd.trans (hI.bd.trans hb), f2, ⟨_, _, a8⟩, fun e => ?_, fun hne => ?_⟩
  ·have ah := ad e
   rw [ah] at f3 f4 f6 f8 hI;have aq : ei h [] = h := rfl;rw [aq] at f3 f4 f8
   have ab : a7 = mids := by
    apply List.ext_getElem?;intro i;exact f8 i rfl
   refine ⟨by rw [ah]; exact f6 ab, ?_⟩;rw [ah, f4, if_pos ab, List.append_nil, hI.md];have : ep (mkF h h a7) 0 8 = [] := jp 8 0 (fun i _ _ => by unfold mkF; rw [if_pos rfl]);rw [this];simp
  ·-- some leaf is another one
   have al : ∃ a0, a0 < 64 ∧ db (jj hv l) a0 ≠ db hv a0 := by
    apply Classical.byContradiction;intro hno;apply hne;refine Sd (by rw [vj]; exact ht.len) ht.len (fun a0 ho => ?_);apply Classical.byContradiction;intro h2;exact hno ⟨a0, ho, h2⟩
   obtain ⟨a0, ho, aa⟩ := al;obtain ⟨q, hq, ak⟩ := ht.leaf ho;obtain ⟨q', an, a9⟩ := a8.leaf ho
   have ao : q' ≠ q := fun e => by
    subst e;rcases ak.2 with ⟨a1, a2⟩ | ⟨a1, a2, k, a3, a4, a5⟩
    ·exact aa ((a9.hole.1 a1).trans a2.symm)
    ·rcases a9.2 with ⟨b1, b2⟩ | ⟨b1, b2, k', b3, b4, b5⟩
     ·rw [b1] at a5; exact absurd a5.symm yq
     ·have ek : k = k' := by
       have : (iu (fd a0) (k + 1) (i9 (db hv a0))).birth = (iu (fd a0) (k' + 1) (i9 (db (jj hv l) a0))).birth := (by rw [← a5, ← b5]);have : k + 1 = k' + 1 := this;omega
      subst ek;have a6 := st.pre k _ (hI.pre k _ a4);rw [a6] at b4;injection b4 with b4
      have h1 := (wg ak.1 a2).2;have h2 := (wg a9.1 b2).2;rw [b4, h2] at h1;exact aa h1
   have ag : grp (ei h g.l) (a0 / 8) ≠ grp h (a0 / 8) := fun e => by
    have h1 := Ht (h := ei h g.l) (by rw [o6]; exact ht.t.1) ho;have h2 := Ht ht.t.1 ho;rw [e, h2, hq, an] at h1;injection h1 with h1
    exact ao h1.symm
   obtain ⟨m', ae, aj⟩ := f3.mid (show a0 / 8 < 8 by omega);obtain ⟨m, hm, hn⟩ := af.mid (show a0 / 8 < 8 by omega)
   have ab : a7 ≠ mids := fun e => by
    subst e;rw [hm] at ae;injection ae with ae
    subst ae;rcases f9 (a0 / 8) m ag hm with hz | hb2
    ·exact ag ((aj.hole.1 hz).trans (hn.hole.1 hz).symm)
    ·have hz : m ≠ zeroP := fun hz => ag ((aj.hole.1 hz).trans (hn.hole.1 hz).symm)
     have := (hn.tag hz).2.2.2.2;omega
   intro er;rcases f7 ab with hz | hb2
   ·have ar : root = zeroP := er.symm.trans hz
    have e1 := f3.2.2.1.hole.1 hz;have e2 := af.2.2.1.hole.1 ar;exact ab (e1.trans e2.symm)
   ·rw [er] at hb2
    by_cases hz : root = zeroP
    ·rw [hz] at hb2; simp [zeroP] at hb2
    ·have := (af.2.2.1.tag hz).2.2.2.2
     omega
 ·exact absurd hb hbad
def lh (hv : List Ino) : List Itm := (List.range 64).flatMap fun off => j9 off (db hv off) 4
theorem N6 (off : Nat) : j9 off zeros4 4 = [] := by
 unfold j9;rw [List.flatMap_eq_nil_iff];intro j hj;have hj := List.mem_range.1 hj
 have e : zeros4.getD j zeroI = zeroI := by
  match j, hj with
  | 0, _ | 1, _ | 2, _ | 3, _ => rfl
 unfold D4;rw [e, mz, if_neg (by simp)]
theorem J4 {bl : List Bs} {hv : List Ino} : ∀ (h : List Pt) (i : Nat) (s : Sh) (l : List Itm) (b : List Pt), s.blocks = bl → s.bad = [] → (∀ j q, h[j]? = some q → IsL bl (i + j) q (db hv (i + j))) →
  ∃ rs s', More s s' rs ∧ t5 (nz i h) s l b = ⟨0, s', l ++ (List.range' i h.length).flatMap (fun off => j9 off (db hv off) 4), b ++ (nz i h).map (·.2)⟩
 | [], i, s, l, b, _, _, _ => ⟨[], s, More.refl s, by simp [nz, t5]⟩
 | q :: h, i, s, l, b, hbl, hbd, hl => by
  have hq := hl 0 q rfl;rw [Nat.add_zero] at hq
  have a1 : ∀ j p, h[j]? = some p → IsL bl (i + 1 + j) p (db hv (i + 1 + j)) := fun j p hj => by
   have := hl (j + 1) p (by simpa using hj);rw [show i + (j + 1) = i + 1 + j by omega] at this;exact this
  rw [List.length_cons, List.range'_succ, List.flatMap_cons];by_cases hz : q = zeroP
  ·have e : nz i (q :: h) = nz (i + 1) h := by rw [hz]; simp only [nz]; rw [br, if_pos rfl]
   obtain ⟨rs, s', h1, h2⟩ := J4 h (i + 1) s l b hbl hbd a1;refine ⟨rs, s', h1, ?_⟩;rw [e, h2, hq.hole.1 hz, N6, List.nil_append]
  ·have e : nz i (q :: h) = (i, q) :: nz (i + 1) h := by simp only [nz]; rw [dn hz, if_neg (by decide)]
   obtain ⟨hr, a2, a0⟩ := IsL.read (s := s) (q := q) (off := i) (ns := db hv i) (by rw [hbl]; exact hq);rcases hr with ⟨r1, r2⟩ | ⟨_, _, r3⟩
   ·obtain ⟨rs, s', h1, h2⟩ := J4 h (i + 1) (tbS s q) (l ++ j9 i (db hv i) 4) (b ++ [q]) (a0.bl.1.trans hbl) (a0.bl.2.trans hbd) a1
    refine ⟨a2 ++ rs, s', a0.trans h1, ?_⟩;rw [e, M6 (show tbE s (i, q).2 = 0 from r1)];show t5 (nz (i + 1) h) (tbS s q) (l ++ j9 i (tbN s q) 4) (b ++ [q]) = _;rw [r2, h2];simp
   ·exact absurd hbd r3
theorem IsTab.all (ht : IsTab s.blocks root hv h mids) (hb : s.bad = []) :
  ∃ rs s', More s s' rs ∧ ny s root = ⟨0, s', lh hv, dq root mids ++ (nz 0 h).map (·.2)⟩ := by
 obtain ⟨⟨rs, h1⟩, h2, h3, h4⟩ := E0 ht.t hb;obtain ⟨a0, s', h5, h6⟩ := J4 (hv := hv) h 0 (ky s root) [] (dq root mids) h1.bl.1 (h1.bl.2.trans hb) (fun j q hq => by rw [Nat.zero_add]; exact ht.l j q hq);refine ⟨rs ++ a0, s', h1.trans h5, ?_⟩;unfold ny;rw [if_neg (by rw [h2]; simp), h3, h4, h6, List.nil_append, ht.t.1];unfold lh;rw [List.range_eq_range']
theorem Gb (bl : List Bs) : IsTab bl zeroP (List.replicate 256 zeroI) (List.replicate 64 zeroP) holes := by
 refine ⟨List.length_replicate, by rw [List.getElem?_replicate, if_pos (by omega)], fun n hn => by rw [List.eq_of_mem_replicate hn]; exact zeroI_ok, ?_, fun off q hq => ?_⟩
 ·refine ⟨by simp, fun p hp => by rw [List.eq_of_mem_replicate hp]; exact ak, ⟨holes_ok, .inl ⟨rfl, rfl⟩⟩, fun i q hq => ?_⟩
  have hi : i < 8 := by have := (List.getElem?_eq_some_iff.1 hq).1; simpa [holes] using this
  have hg : grp (List.replicate 64 zeroP) i = holes := by
   unfold grp holes;rw [List.drop_replicate, List.take_replicate];congr 1;omega
  rw [hg];exact ⟨holes_ok, .inl ⟨List.eq_of_mem_replicate (List.mem_of_getElem? hq), rfl⟩⟩
 ·have ho : off < 64 := by have := (List.getElem?_eq_some_iff.1 hq).1; simpa using this
  have e : db (List.replicate 256 zeroI) off = zeros4 := by
   unfold db;rw [List.drop_replicate, List.take_replicate, Nat.min_eq_left (by omega)];rfl
  rw [e];exact ⟨zeros4_ok, .inl ⟨List.eq_of_mem_replicate (List.mem_of_getElem? hq), rfl⟩⟩
theorem Pc {bl : List Bs} (ht : IsT bl root h mids) : (dq root mids).length = if Ed h 8 = 0 then 0 else Ed h 8 + 1 := by
 have a1 := ht.2.2.1.1.len
 have hf : (mids.filter (fun q => !eqP q zeroP)).length = Ed h 8 := by
  have h1 := Tl (m := mids) (f := fun i => if grp h i ≠ holes then [zeroP] else []) (P := fun q => !eqP q zeroP) a1 (fun i q hq => by
   have hn := ht.2.2.2 i q hq;by_cases hz : q = zeroP
   ·rw [hz, br]
    simp [hn.hole.1 hz]
   ·rw [dn hz]
    have : grp h i ≠ holes := fun e => hz (hn.hole.2 e)
    simp [this]) 8 0 (by omega)
  rw [List.drop_zero] at h1;rw [h1]
  have h2 : ∀ k, (ep (fun i => if grp h i ≠ holes then [zeroP] else []) 0 k).length = Ed h k := by
   intro k;unfold ep Ed;rw [← List.range_eq_range']
   induction k with
   | zero => rfl
   | succ k ih =>
    rw [List.range_succ, List.flatMap_append, List.length_append, ih, List.filter_append, List.length_append];by_cases e : grp h k = holes <;> simp [e]
  exact h2 8
 unfold dq;by_cases hz : root = zeroP
 ·rw [hz, br, if_pos rfl]
  have hh := ht.2.2.1.hole.1 hz
  have : (mids.filter (fun q => !eqP q zeroP)) = [] := by
   rw [hh, List.filter_eq_nil_iff];intro q hq;rw [List.eq_of_mem_replicate hq, br];simp
  rw [this] at hf;rw [← hf];rfl
 ·rw [dn hz, if_neg (by decide), List.length_cons, hf]
  have a2 : Ed h 8 ≠ 0 := fun e => by
   rw [e] at hf
   have a0 : mids = holes := by
    unfold holes;rw [List.eq_replicate_iff];refine ⟨a1, fun q hq => ?_⟩;apply Classical.byContradiction;intro hq0;have : q ∈ mids.filter (fun q => !eqP q zeroP) := List.mem_filter.2 ⟨hq, by rw [dn hq0]; rfl⟩;rw [List.eq_nil_of_length_eq_zero hf] at this;cases this
   exact hz (ht.2.2.1.hole.2 a0)
  rw [if_neg a2]
end Go.Proofs.YtjgjohdeeeoeoaaGreatDoor
