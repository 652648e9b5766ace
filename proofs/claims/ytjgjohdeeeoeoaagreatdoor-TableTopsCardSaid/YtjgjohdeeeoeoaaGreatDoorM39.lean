/- Tables, plain: what is read of a table that stands on a shelf; what Set makes of it. -/
import Derived.Test.YtjgjohdeeeoeoaaGreatDoorM38
import Derived.Test.YtjgjohdeeeoeoaaGreatDoorM34
import Derived.Test.YtjgjohdeeeoeoaaGreatDoorM37
namespace Go.Proofs.YtjgjohdeeeoeoaaGreatDoor
open Go.RowKit
def four (hv : List Ino) (off : Nat) : List Ino := (hv.drop (4 * off)).take 4
theorem four_at {hv : List Ino} {off k : Nat} (hk : k < 4) : (four hv off)[k]? = hv[4 * off + k]? := by
  unfold four
  rw [List.getElem?_take, if_pos hk, List.getElem?_drop]
theorem four_ok {hv : List Ino} (hl : hv.length = 256) (ho : ∀ n ∈ hv, n.OK) {off : Nat} (h : off < 64) : BOK (four hv off) :=
  ⟨by unfold four; rw [List.length_take, List.length_drop]; omega, fun n hn => ho n (List.mem_of_mem_drop (List.mem_of_mem_take hn))⟩
def IsL (bl : List Bs) (off : Nat) (q : Pt) (ns : List Ino) : Prop :=
  BOK ns ∧ ((q = zeroP ∧ ns = zeros4) ∨ (ns ≠ zeros4 ∧ allMay ns = true ∧ ∃ k, k < 30000 ∧ bl[k]? = some (blkB ns) ∧ q = newP (tbTag off) (k + 1) (blkB ns)))
theorem newT_nz {off n : Nat} {b : Bs} : newP (tbTag off) n b ≠ zeroP := fun h => by
  have : (newP (tbTag off) n b).kind = zeroP.kind := by rw [h]
  cases this
theorem mayT_new {off n : Nat} {b : Bs} (ho : off < 64) (hn : 1 ≤ n) : mayP (newP (tbTag off) n b) = true := by
  have hn0 : n ≠ 0 := by omega
  unfold mayP placedP apartP copiesP
  simp [newP, bornP, tbTag, zeroP, copiesFrom, sweep, lowN, highN, wideN, List.range_succ, hn0, ho]
theorem IsL.mono {bl bl' : List Bs} {off : Nat} {q : Pt} {ns : List Ino} (h : IsL bl off q ns) (hp : ∀ (k : Nat) (b : Bs), bl[k]? = some b → bl'[k]? = some b) : IsL bl' off q ns := by
  obtain ⟨h1, h2⟩ := h
  refine ⟨h1, ?_⟩
  rcases h2 with h2 | ⟨a, b, k, c, d, e⟩
  · exact .inl h2
  · exact .inr ⟨a, b, k, c, hp _ _ d, e⟩
theorem IsL.may {bl : List Bs} {off : Nat} {q : Pt} {ns : List Ino} (h : IsL bl off q ns) : allMay ns = true := by
  rcases h.2 with ⟨_, e⟩ | ⟨_, e, _⟩
  · rw [e]; kernel_rfl
  · exact e
theorem IsL.hole {bl : List Bs} {off : Nat} {q : Pt} {ns : List Ino} (h : IsL bl off q ns) : q = zeroP ↔ ns = zeros4 := by
  rcases h.2 with ⟨h1, h2⟩ | ⟨a, b, k, c, d, e⟩
  · exact ⟨fun _ => h2, fun _ => h1⟩
  · constructor
    · intro h1; rw [e] at h1; exact absurd h1 newT_nz
    · intro h1; exact absurd h1 a
theorem IsL.read {s : Sh} {off : Nat} {q : Pt} {ns : List Ino} (h : IsL s.blocks off q ns) : ((tbE s q = 0 ∧ tbN s q = ns) ∨ (tbE s q = 21 ∧ tbN s q = zeros4 ∧ s.bad ≠ [])) ∧ ∃ rs, More s (tbS s q) rs := by
  rcases h.2 with ⟨h1, h2⟩ | ⟨a, b, k, c, d, e⟩
  · subst h1
    unfold tbE tbN tbS
    rw [eqP_same, if_pos rfl, if_pos rfl, if_pos rfl]
    exact ⟨.inl ⟨rfl, h2.symm⟩, [], More.refl s⟩
  · have hz : eqP q zeroP = false := by rw [e]; exact eqP_no newT_nz
    have hlt := (List.getElem?_eq_some_iff.1 d).1
    have ha : at0 q = k + 1 := by rw [e]; rfl
    obtain ⟨p1, p2⟩ := iput_back h.1 b
    have hS : tbS s q = rdS s q := by unfold tbS; rw [if_neg (by rw [hz]; decide)]
    refine ⟨?_, [q], by rw [hS]; exact More.rd s q⟩
    by_cases hh : s.bad.any (fun x => x == at0 q) = true
    · right
      have hE : rdE s q = 21 := by unfold rdE; rw [if_pos hh]
      refine ⟨?_, ?_, fun e0 => by rw [e0] at hh; simp at hh⟩
      · unfold tbE; rw [if_neg (by rw [hz]; decide), hE, if_pos (by simp)]
      · unfold tbN; rw [if_neg (by rw [hz]; decide), hE, if_pos (by simp)]
    · left
      have hE : rdE s q = 0 := by unfold rdE; rw [if_neg hh, if_neg (by rw [ha]; omega)]
      have hB : rdB s q = blkB ns := by
        unfold rdB
        rw [if_neg hh, if_neg (by rw [ha]; omega), ha, Nat.add_sub_cancel, List.getD_eq_getElem?_getD, d]
        rfl
      refine ⟨?_, ?_⟩
      · unfold tbE; rw [if_neg (by rw [hz]; decide), hE, if_neg (by simp), hB]; unfold inoE; rw [if_pos p1, if_neg (by simp)]
      · unfold tbN; rw [if_neg (by rw [hz]; decide), hE, if_neg (by simp), hB, p2]
structure IsTab (bl : List Bs) (root : Pt) (hv : List Ino) (h mids : List Pt) : Prop where
  len : hv.length = 256
  z : hv[0]? = some zeroI
  ok : ∀ n ∈ hv, n.OK
  t : IsT bl root h mids
  l : ∀ off q, h[off]? = some q → IsL bl off q (four hv off)
theorem IsTab.mono {bl bl' : List Bs} {root : Pt} {hv : List Ino} {h mids : List Pt} (ht : IsTab bl root hv h mids) (hp : ∀ (k : Nat) (b : Bs), bl[k]? = some b → bl'[k]? = some b) : IsTab bl' root hv h mids := ⟨ht.len, ht.z, ht.ok, ht.t.mono hp, fun off q hq => (ht.l off q hq).mono hp⟩
theorem IsTab.leaf {bl : List Bs} {root : Pt} {hv : List Ino} {h mids : List Pt} (ht : IsTab bl root hv h mids) {off : Nat} (ho : off < 64) : ∃ q, h[off]? = some q ∧ IsL bl off q (four hv off) := by
  obtain ⟨q, hq⟩ : ∃ q, h[off]? = some q := ⟨_, List.getElem?_eq_getElem (by rw [ht.t.1]; exact ho)⟩
  exact ⟨q, hq, ht.l off q hq⟩
theorem IsTab.bl {s : Sh} {root : Pt} {hv : List Ino} {h mids : List Pt} (ht : IsTab s.blocks root hv h mids) {off : Nat} (ho : off < 64) :
    ((blE s root off = 0 ∧ blN s root off = four hv off) ∨ (blE s root off = 21 ∧ blN s root off = zeros4 ∧ s.bad ≠ [])) ∧ ∃ rs, More s (blS s root off) rs := by
  obtain ⟨rs, h1, _, h2⟩ := get_tree ht.t ho
  obtain ⟨q, hq, hl⟩ := ht.leaf ho
  rcases h2 with ⟨_, h3, h4⟩ | ⟨h3, h4, _⟩
  · rw [hq] at h4
    injection h4 with h5
    have hb := h1.bl
    have hr := IsL.read (s := getS s root off) (q := q) (by rw [hb.1]; exact hl)
    rw [hb.2] at hr
    obtain ⟨hr1, rs2, hr2⟩ := hr
    unfold blE blN blS
    rw [h3, if_neg (by simp), if_neg (by simp), if_neg (by simp), h5]
    exact ⟨hr1, rs ++ rs2, h1.trans hr2⟩
  · unfold blE blN blS
    rw [h4, if_pos (by simp), if_pos (by simp), if_pos (by simp)]
    refine ⟨.inr ⟨rfl, rfl, fun e => ?_⟩, rs, h1⟩
    rw [List.any_eq_true] at h3
    obtain ⟨x, _, hx⟩ := h3
    unfold hitP at hx
    rw [e] at hx
    simp at hx
theorem IsTab.get {s : Sh} {root : Pt} {hv : List Ino} {h mids : List Pt} (ht : IsTab s.blocks root hv h mids) {num : Nat} (hn : numOk num = true) :
    ((gtE s root num = 0 ∧ some (gtN s root num) = hv[num]?) ∨ (gtE s root num = 21 ∧ gtN s root num = zeroI ∧ s.bad ≠ [])) ∧ ∃ rs, More s (gtS s root num) rs := by
  have hnum : num < 256 := by unfold numOk at hn; simp at hn; omega
  obtain ⟨h1, h2⟩ := ht.bl (off := num / 4) (by omega)
  have hn' : ¬ numOk num = false := by rw [hn]; decide
  rw [show gtE s root num = blE s root (num / 4) by unfold gtE; rw [if_neg hn'], show gtS s root num = blS s root (num / 4) by unfold gtS; rw [if_neg hn']]
  refine ⟨?_, h2⟩
  rcases h1 with ⟨e1, e2⟩ | ⟨e1, e2, e3⟩
  · left
    rw [show gtN s root num = (blN s root (num / 4)).getD (num % 4) zeroI by unfold gtN; rw [if_neg hn', e1, if_neg (by simp)], e2]
    refine ⟨e1, ?_⟩
    have := four_at (hv := hv) (off := num / 4) (k := num % 4) (by omega)
    rw [show 4 * (num / 4) + num % 4 = num by omega] at this
    rw [← this, List.getD_eq_getElem?_getD]
    obtain ⟨x, hx⟩ : ∃ x, (four hv (num / 4))[num % 4]? = some x := ⟨_, List.getElem?_eq_getElem (by rw [(four_ok ht.len ht.ok (by omega)).len]; omega)⟩
    rw [hx]
    rfl
  · right
    rw [show gtN s root num = zeroI by unfold gtN; rw [if_neg hn', e1, if_pos (by simp)]]
    exact ⟨e1, rfl, e3⟩
def setV (hv : List Ino) (l : List Itm) : List Ino := l.foldl (fun a x => a.set x.1 x.2) hv
theorem setV_len : ∀ (l : List Itm) (hv : List Ino), (setV hv l).length = hv.length
  | [], _ => rfl
  | x :: l, hv => by
    have := setV_len l (hv.set x.1 x.2)
    rw [List.length_set] at this
    exact this
theorem four_set1 {hv : List Ino} {x : Itm} {off : Nat} : four (hv.set x.1 x.2) off = if x.1 / 4 = off then (four hv off).set (x.1 % 4) x.2 else four hv off := by
  unfold four
  apply List.ext_getElem?
  intro j
  by_cases hc : x.1 / 4 = off
  · rw [if_pos hc]
    rw [List.getElem?_take, List.getElem?_drop, List.getElem?_set, List.getElem?_set, List.getElem?_take, List.getElem?_drop]
    by_cases hj : j < 4
    · rw [if_pos hj, if_pos hj]
      by_cases hx : x.1 = 4 * off + j
      · rw [if_pos hx, if_pos (show x.1 % 4 = j by omega)]
        rw [List.length_take, List.length_drop]
        by_cases hl : x.1 < hv.length
        · rw [if_pos hl, if_pos (show x.1 % 4 < min 4 (hv.length - 4 * off) by omega)]
        · rw [if_neg hl, if_neg (show ¬ x.1 % 4 < min 4 (hv.length - 4 * off) by omega)]
      · rw [if_neg hx, if_neg (show ¬ x.1 % 4 = j by omega)]
    · rw [if_neg hj, if_neg hj]
      rw [List.length_take]
      by_cases hx : x.1 % 4 = j
      · omega
      · rw [if_neg hx]
  · rw [if_neg hc]
    rw [List.getElem?_take, List.getElem?_drop, List.getElem?_set, List.getElem?_take, List.getElem?_drop]
    by_cases hj : j < 4
    · rw [if_pos hj, if_pos hj, if_neg (by omega)]
    · rw [if_neg hj, if_neg hj]
theorem four_set (off : Nat) : ∀ (l : List Itm) (hv : List Ino), four (setV hv l) off = wth (four hv off) (grpI off l)
  | [], _ => rfl
  | x :: l, hv => by
    have ih := four_set off l (hv.set x.1 x.2)
    show four (setV (hv.set x.1 x.2) l) off = _
    rw [ih, four_set1]
    by_cases hc : x.1 / 4 = off
    · rw [if_pos hc]
      have e : grpI off (x :: l) = x :: grpI off l := by simp [grpI, hc]
      rw [e]
      rfl
    · rw [if_neg hc]
      have e : grpI off (x :: l) = grpI off l := by simp [grpI, hc]
      rw [e]
theorem setV_mem : ∀ (l : List Itm) (hv : List Ino) (n : Ino), n ∈ setV hv l → n ∈ hv ∨ ∃ x ∈ l, n = x.2
  | [], _, _, h => .inl h
  | x :: l, hv, n, h => by
    rcases setV_mem l (hv.set x.1 x.2) n h with h1 | ⟨y, hy, e⟩
    · rcases List.mem_or_eq_of_mem_set h1 with h2 | h2
      · exact .inl h2
      · exact .inr ⟨x, by simp, h2⟩
    · exact .inr ⟨y, by simp [hy], e⟩
theorem setV_zero : ∀ (l : List Itm) (hv : List Ino), (∀ x ∈ l, x.1 ≠ 0) → (setV hv l)[0]? = hv[0]?
  | [], _, _ => rfl
  | x :: l, hv, h => by
    have ih := setV_zero l (hv.set x.1 x.2) (fun y hy => h y (by simp [hy]))
    show (setV (hv.set x.1 x.2) l)[0]? = _
    rw [ih, List.getElem?_set, if_neg (h x (by simp))]
theorem wth_may {ns : List Ino} (h : allMay ns = true) : ∀ (l : List Itm), (∀ x ∈ l, mayI x.2 = true) → allMay (wth ns l) = true := by
  intro l
  induction l generalizing ns with
  | nil => intro _; exact h
  | cons x l ih =>
    intro hl
    show allMay (wth (ns.set (x.1 % 4) x.2) l) = true
    refine ih ?_ (fun y hy => hl y (by simp [hy]))
    unfold allMay at *
    rw [List.all_eq_true] at *
    intro n hn
    rcases List.mem_or_eq_of_mem_set hn with h2 | h2
    · exact h n h2
    · rw [h2]; exact hl x (by simp)
structure SgI (l : List Itm) (s0 s : Sh) (hv : List Ino) (os : List Nat) (ls : List Lf) : Prop where
  pre : ∀ (k : Nat) (b : Bs), s0.blocks[k]? = some b → s.blocks[k]? = some b
  bd : s.bad = s0.bad
  rm : s.room = -1
  le : s0.blocks.length ≤ s.blocks.length
  len : s.blocks.length ≤ s0.blocks.length + os.length
  md : s.made = s0.made ++ ls.flatMap (fun x => one x.2)
  asc : Asc ls
  sub : ∀ x ∈ ls, x.1 ∈ os
  lf : ∀ x ∈ ls, IsL s.blocks x.1 x.2 (wth (four hv x.1) (grpI x.1 l)) ∧ wth (four hv x.1) (grpI x.1 l) ≠ four hv x.1 ∧ (x.2 = zeroP ∨ s0.blocks.length < x.2.birth)
  ch : ∀ off ∈ os, wth (four hv off) (grpI off l) = four hv off ∨ ∃ x ∈ ls, x.1 = off
theorem More.sgi {l : List Itm} {s0 s s' : Sh} {hv : List Ino} {os : List Nat} {ls : List Lf} {rs : List Pt} (h : SgI l s0 s hv os ls) (hm : More s s' rs) : SgI l s0 s' hv os ls := by
  unfold More at hm
  subst hm
  exact ⟨h.pre, h.bd, h.rm, h.le, h.len, h.md, h.asc, h.sub, h.lf, h.ch⟩
theorem sg_tab {root : Pt} {hv : List Ino} {h mids : List Pt} {l : List Itm} {s0 : Sh} (ht : IsTab s0.blocks root hv h mids) (hok : ∀ x ∈ l, Itm.OK x) (hmay : ∀ x ∈ l, mayI x.2 = true) (hfull : s0.blocks.length + 64 < 30000) :
    ∀ (os done : List Nat) (s : Sh) (ls : List Lf), done.length + os.length ≤ 64 → (∀ o ∈ os, o < 64) → os.Pairwise (· < ·) → (∀ o ∈ done, ∀ o' ∈ os, o < o') → SgI l s0 s hv done ls →
      ((sgGo root l os s ls).e = 0 ∧ SgI l s0 (sgGo root l os s ls).s hv (done ++ os) (sgGo root l os s ls).l) ∨
      ((sgGo root l os s ls).e = 21 ∧ s0.bad ≠ [] ∧ ∃ os' ls', SgI l s0 (sgGo root l os s ls).s hv os' ls' ∧ os'.length ≤ 64)
  | [], done, s, ls, _, _, _, _, hI => by
    left
    rw [List.append_nil]
    exact ⟨rfl, hI⟩
  | off :: os, done, s, ls, hlen, hlt, hpw, hdn, hI => by
    have hlen' : done.length + os.length + 1 ≤ 64 := by rw [List.length_cons] at hlen; omega
    have ho := hlt off (by simp)
    have ht' : IsTab s.blocks root hv h mids := ht.mono hI.pre
    obtain ⟨hb, rs, hm⟩ := ht'.bl ho
    have hI1 := hm.sgi hI
    rcases hb with ⟨e1, e2⟩ | ⟨e1, _, e3⟩
    · have hnow : nowB root l s off = wth (four hv off) (grpI off l) := by unfold nowB; rw [e2]
      have hrec := fun s' ls' (hI' : SgI l s0 s' hv (done ++ [off]) ls') => sg_tab ht hok hmay hfull os (done ++ [off]) s' ls' (by simp; omega) (fun o hq => hlt o (by simp [hq])) (List.Pairwise.of_cons hpw) (fun o hq o' hq' => by
        rcases List.mem_append.1 hq with hq | hq
        · exact hdn o hq o' (by simp [hq'])
        · simp at hq; subst hq; exact (List.pairwise_cons.1 hpw).1 o' hq') hI'
      have hsub : ∀ {o : Nat}, o ∈ done → o ∈ done ++ [off] := fun hq => by simp [hq]
      by_cases hs : nowB root l s off = blN s root off
      · rw [sg_same e1 hs]
        have hr := hrec (blS s root off) ls ⟨hI1.pre, hI1.bd, hI1.rm, hI1.le, by have := hI1.len; simp; omega, hI1.md, hI1.asc, fun x hx => hsub (hI1.sub x hx), hI1.lf, fun o hq => by
          rcases List.mem_append.1 hq with hq | hq
          · exact hI1.ch o hq
          · simp at hq; subst hq
            left
            rw [← hnow, hs, e2]⟩
        rw [List.append_assoc] at hr
        exact hr
      · have hbok := four_ok ht.len ht.ok ho
        have hwok : BOK (wth (four hv off) (grpI off l)) := wth_okG hbok hok off
        have hwm : allMay (wth (four hv off) (grpI off l)) = true := wth_may (by
          obtain ⟨q, _, hl⟩ := ht.leaf ho
          exact hl.may) _ (fun x hx => hmay x (List.mem_filter.1 hx).1)
        have hlb : (blS s root off).blocks.length < 30000 := by have := hI1.len; omega
        have hnf : ¬ fullS (blS s root off) := fun hf => by
          unfold fullS at hf
          have := hI1.rm
          omega
        have e4 : taE (blS s root off) (nowB root l s off) = 0 := by
          rw [hnow]
          unfold taE
          split
          · rfl
          · rw [if_neg (by rw [hwm]; decide)]
            unfold nwE
            rw [if_neg hnf]
        rw [sg_new e1 hs e4]
        have hne : wth (four hv off) (grpI off l) ≠ four hv off := fun e => hs (by rw [hnow, e, e2])
        have hfresh : ∀ x ∈ ls, x.1 < off := fun x hx => hdn x.1 (hI1.sub x hx) off (by simp)
        have key : SgI l s0 (taS (blS s root off) (nowB root l s off) off) hv (done ++ [off]) (ls ++ [(off, taP (blS s root off) (nowB root l s off) off)]) := by
          rw [hnow]
          unfold taS taP
          by_cases hz : wth (four hv off) (grpI off l) = zeros4
          · rw [if_pos hz, if_pos hz]
            refine ⟨hI1.pre, hI1.bd, hI1.rm, hI1.le, by have := hI1.len; simp; omega, ?_, ?_, ?_, ?_, ?_⟩
            · rw [hI1.md, List.flatMap_append]
              simp [one_zero]
            · refine ⟨List.pairwise_append.2 ⟨hI1.asc.asc, by simp, fun a ha b hb => by simp at hb; subst hb; exact hfresh a ha⟩, fun x hx => ?_, fun x hx => ?_⟩
              · rcases List.mem_append.1 hx with hx | hx
                · exact hI1.asc.lt x hx
                · simp at hx; subst hx; exact ho
              · rcases List.mem_append.1 hx with hx | hx
                · exact hI1.asc.ok x hx
                · simp at hx; subst hx; exact ⟨zeroP_ok, by unfold fineP; rw [eqP_same]; rfl⟩
            · intro x hx
              rcases List.mem_append.1 hx with hx | hx
              · exact hsub (hI1.sub x hx)
              · simp at hx; subst hx; simp
            · intro x hx
              rcases List.mem_append.1 hx with hx | hx
              · exact hI1.lf x hx
              · simp at hx; subst hx
                exact ⟨⟨hwok, .inl ⟨rfl, hz⟩⟩, hne, .inl rfl⟩
            · intro o hq
              rcases List.mem_append.1 hq with hq | hq
              · rcases hI1.ch o hq with h1 | ⟨x, hx, e⟩
                · exact .inl h1
                · exact .inr ⟨x, by simp [hx], e⟩
              · simp at hq; subst hq
                exact .inr ⟨(o, zeroP), by simp, rfl⟩
          · rw [if_neg hz, if_neg hz, if_neg (by rw [hwm]; decide), if_neg (by rw [hwm]; decide)]
            unfold nwS nwP
            rw [if_neg hnf, if_neg hnf]
            have hpre : ∀ (k : Nat) (b : Bs), (blS s root off).blocks[k]? = some b → ((blS s root off).blocks ++ [blkB (wth (four hv off) (grpI off l))])[k]? = some b := fun k b hk => by
              rw [List.getElem?_append_left (List.getElem?_eq_some_iff.1 hk).1]
              exact hk
            refine ⟨fun k b hk => hpre k b (hI1.pre k b hk), hI1.bd, ?_, ?_, ?_, ?_, ?_, ?_, ?_, ?_⟩
            · show max ((blS s root off).room - 1) (-1) = -1
              rw [hI1.rm]; rfl
            · show _ ≤ ((blS s root off).blocks ++ [_]).length
              rw [List.length_append]; have := hI1.le; omega
            · show ((blS s root off).blocks ++ [_]).length ≤ _
              rw [List.length_append, List.length_append]; have := hI1.len; simp; omega
            · show (blS s root off).made ++ [_] = _
              rw [hI1.md, List.flatMap_append]
              simp only [List.flatMap_cons, List.flatMap_nil, List.append_nil, List.append_assoc]
              rw [one_nz newT_nz]
            · refine ⟨List.pairwise_append.2 ⟨hI1.asc.asc, by simp, fun a ha b hb => by simp at hb; subst hb; exact hfresh a ha⟩, fun x hx => ?_, fun x hx => ?_⟩
              · rcases List.mem_append.1 hx with hx | hx
                · exact hI1.asc.lt x hx
                · simp at hx; subst hx; exact ho
              · rcases List.mem_append.1 hx with hx | hx
                · exact hI1.asc.ok x hx
                · simp at hx; subst hx
                  exact ⟨newP_ok (tbTag_ok (by omega)) (by omega) _, by unfold fineP; rw [mayT_new ho (by omega), Bool.or_true]⟩
            · intro x hx
              rcases List.mem_append.1 hx with hx | hx
              · exact hsub (hI1.sub x hx)
              · simp at hx; subst hx; simp
            · intro x hx
              rcases List.mem_append.1 hx with hx | hx
              · obtain ⟨a, b, c⟩ := hI1.lf x hx
                exact ⟨a.mono hpre, b, c⟩
              · simp at hx; subst hx
                refine ⟨⟨hwok, .inr ⟨hz, hwm, (blS s root off).blocks.length, hlb, ?_, rfl⟩⟩, hne, .inr ?_⟩
                · show ((blS s root off).blocks ++ [_])[_]? = _
                  rw [List.getElem?_append_right (Nat.le_refl _), Nat.sub_self]; rfl
                · show _ < (blS s root off).blocks.length + 1
                  have := hI1.le; omega
            · intro o hq
              rcases List.mem_append.1 hq with hq | hq
              · rcases hI1.ch o hq with h1 | ⟨x, hx, e⟩
                · exact .inl h1
                · exact .inr ⟨x, by simp [hx], e⟩
              · simp at hq; subst hq
                exact .inr ⟨_, List.mem_append_right _ (List.mem_singleton_self _), rfl⟩
        have hr := hrec _ _ key
        rw [List.append_assoc] at hr
        exact hr
    · right
      rw [sg_err (by rw [e1]; simp)]
      refine ⟨e1, by rw [← hI.bd]; exact e3, done, ls, hI1, by omega⟩
theorem updH_at {l : List Lf} : ∀ {h : List Pt}, Asc l → h.length = 64 → ∀ (off : Nat), (∀ x ∈ l, x.1 = off → (updH h l)[off]? = some x.2) ∧ ((∀ x ∈ l, x.1 ≠ off) → (updH h l)[off]? = h[off]?) := by
  induction l with
  | nil => intro h _ _ off; exact ⟨fun x hx => (by cases hx), fun _ => rfl⟩
  | cons y l ih =>
    intro h ha hh off
    have ha2 : Asc l := ⟨List.Pairwise.of_cons ha.asc, fun x hx => ha.lt x (by simp [hx]), fun x hx => ha.ok x (by simp [hx])⟩
    obtain ⟨i1, i2⟩ := ih (h := h.set y.1 y.2) ha2 (by rw [List.length_set]; exact hh) off
    rw [updH_cons]
    refine ⟨fun x hx e => ?_, fun hn => ?_⟩
    · rcases List.mem_cons.1 hx with rfl | hx
      · rw [i2 (fun z hz => by have := (List.pairwise_cons.1 ha.asc).1 z hz; omega), List.getElem?_set, if_pos e, if_pos (by rw [hh]; exact ha.lt x (by simp))]
      · exact i1 x hx e
    · rw [i2 (fun z hz => hn z (by simp [hz])), List.getElem?_set, if_neg (hn y (by simp))]
structure SeT (s : Sh) (root : Pt) (hv : List Ino) (h mids : List Pt) (l : List Itm) (r : Ww) : Prop where
  e : r.e = 0
  pre : ∀ (k : Nat) (b : Bs), s.blocks[k]? = some b → r.s.blocks[k]? = some b
  len : r.s.blocks.length ≤ s.blocks.length + 80
  bd : r.s.bad = []
  rm : r.s.room = -1
  tab : ∃ h' mids', IsTab r.s.blocks r.p (setV hv l) h' mids'
  same : setV hv l = hv → r.p = root ∧ r.s.made = s.made
  diff : setV hv l ≠ hv → r.p ≠ root
theorem four_ext {hv hw : List Ino} (h1 : hv.length = 256) (h2 : hw.length = 256) (h : ∀ off, off < 64 → four hv off = four hw off) : hv = hw := by
  apply List.ext_getElem?
  intro i
  by_cases hi : i < 256
  · have h3 := h (i / 4) (by omega)
    have h4 := four_at (hv := hv) (off := i / 4) (k := i % 4) (by omega)
    have h5 := four_at (hv := hw) (off := i / 4) (k := i % 4) (by omega)
    rw [show 4 * (i / 4) + i % 4 = i by omega] at h4 h5
    rw [← h4, ← h5, h3]
  · rw [List.getElem?_eq_none (by omega), List.getElem?_eq_none (by omega)]
theorem offsI_pw (l : List Itm) : (offsI l).Pairwise (· < ·) := List.Pairwise.sublist List.filter_sublist List.pairwise_lt_range
theorem offsI_le (l : List Itm) : (offsI l).length ≤ 64 := by
  unfold offsI
  have := List.length_filter_le (fun off => decide (grpI off l ≠ [])) (List.range 64)
  simpa using this
theorem sgi_start {l : List Itm} {s : Sh} {hv : List Ino} (hr : s.room = -1) : SgI l s s hv [] [] :=
  ⟨fun _ _ h => h, rfl, hr, Nat.le_refl _, by simp, by simp, ⟨by simp, fun x hx => (by cases hx), fun x hx => (by cases hx)⟩, fun x hx => (by cases hx), fun x hx => (by cases hx), fun o ho => (by cases ho)⟩
theorem tab_next {s0 s s' : Sh} {root root' : Pt} {hv : List Ino} {h mids mids' : List Pt} {l : List Itm} {ls : List Lf} (ht : IsTab s0.blocks root hv h mids) (hok : ∀ x ∈ l, Itm.OK x) (hz : ∀ x ∈ l, x.1 ≠ 0) (hI : SgI l s0 s hv (offsI l) ls)
    (hpre : ∀ (k : Nat) (b : Bs), s.blocks[k]? = some b → s'.blocks[k]? = some b) (ht' : IsT s'.blocks root' (updH h ls) mids') : IsTab s'.blocks root' (setV hv l) (updH h ls) mids' := by
  refine ⟨by rw [setV_len]; exact ht.len, by rw [setV_zero l hv hz]; exact ht.z, fun n hn => ?_, ht', fun off q hq => ?_⟩
  · rcases setV_mem l hv n hn with h1 | ⟨x, hx, e⟩
    · exact ht.ok n h1
    · rw [e]; exact (hok x hx).2
  · have hof : off < 64 := by
      have := (List.getElem?_eq_some_iff.1 hq).1
      rw [updH_len, ht.t.1] at this
      exact this
    obtain ⟨u1, u2⟩ := updH_at (h := h) hI.asc ht.t.1 off
    rw [four_set]
    by_cases hx : ∃ x ∈ ls, x.1 = off
    · obtain ⟨x, hx, e⟩ := hx
      rw [u1 x hx e] at hq
      cases hq
      subst e
      exact (hI.lf x hx).1.mono hpre
    · have hno : ∀ x ∈ ls, x.1 ≠ off := fun x hx' e => hx ⟨x, hx', e⟩
      rw [u2 hno] at hq
      have h4 : wth (four hv off) (grpI off l) = four hv off := by
        by_cases hm : grpI off l = []
        · rw [hm]; rfl
        · rcases hI.ch off (by unfold offsI; exact List.mem_filter.2 ⟨List.mem_range.2 hof, by simpa using hm⟩) with e | ⟨x, hx', e⟩
          · exact e
          · exact absurd ⟨x, hx', e⟩ hx
      rw [h4]
      exact (ht.l off q hq).mono (fun k b hk => hpre k b (hI.pre k b hk))
theorem set_tab {s : Sh} {root : Pt} {hv : List Ino} {h mids : List Pt} {l : List Itm} (ht : IsTab s.blocks root hv h mids) (hok : ∀ x ∈ l, Itm.OK x) (hs : setT l = true) (hb : s.bad = []) (hr : s.room = -1) (hfull : s.blocks.length + 100 < 30000) :
    SeT s root hv h mids l (tsR s root l) := by
  have hmay : ∀ x ∈ l, mayI x.2 = true := fun x hx => (setT_num hs x hx).2
  have hnz : ∀ x ∈ l, x.1 ≠ 0 := fun x hx e => by
    have := (setT_num hs x hx).1
    unfold numOk at this
    simp [e] at this
  rcases sg_tab ht hok hmay (by omega) (offsI l) [] s [] (by simpa using offsI_le l) (fun o ho => (offsI_mem ho).1) (offsI_pw l) (fun o ho => by cases ho) (sgi_start hr) with ⟨e0, hI⟩ | ⟨_, hbad, _⟩
  · rw [List.nil_append] at hI
    obtain ⟨g, hg⟩ : ∃ g, sgGo root l (offsI l) s [] = g := ⟨_, rfl⟩
    rw [hg] at e0 hI
    have hts : tsR s root l = setR g.s root 0 g.l := by
      unfold tsR
      rw [if_neg (by rw [hs]; decide), hg, if_neg (by rw [e0]; simp)]
    rw [hts]
    have hI' := hI
    have hle := offsI_le l
    have ht1 : IsT g.s.blocks root h mids := ht.t.mono hI.pre
    have st := set_tree (s := g.s) ht1 hI.asc (by have := hI.len; omega)
    obtain ⟨f1, f2, mids', f3, f4, f5, f6, f7, f8, f9⟩ := st.full (hI.bd.trans hb) hI.rm
    have hnext := tab_next ht hok hnz hI st.pre f3
    have hunch : setV hv l = hv → g.l = [] := fun e => by
      cases hq : g.l with
      | nil => rfl
      | cons x xs =>
        have h1 := (hI.lf x (by rw [hq]; simp)).2.1
        rw [← four_set, e] at h1
        exact absurd rfl h1
    refine ⟨f1, fun k b hk => st.pre k b (hI.pre k b hk), by have := st.len; have := hI.len; omega, st.bd.trans (hI.bd.trans hb), f2, ⟨_, _, hnext⟩, fun e => ?_, fun hne => ?_⟩
    · have hl0 := hunch e
      rw [hl0] at f3 f4 f6 f8 hI
      have hup : updH h [] = h := rfl
      rw [hup] at f3 f4 f8
      have hmm : mids' = mids := by
        apply List.ext_getElem?
        intro i
        exact f8 i rfl
      refine ⟨by rw [hl0]; exact f6 hmm, ?_⟩
      rw [hl0, f4, if_pos hmm, List.append_nil, hI.md]
      have : upFrom (mkF h h mids') 0 8 = [] := upFrom_nil 8 0 (fun i _ _ => by unfold mkF; rw [if_pos rfl])
      rw [this]
      simp
    · -- some leaf is another one
      have hex : ∃ off, off < 64 ∧ four (setV hv l) off ≠ four hv off := by
        apply Classical.byContradiction
        intro hno
        apply hne
        refine four_ext (by rw [setV_len]; exact ht.len) ht.len (fun off ho => ?_)
        apply Classical.byContradiction
        intro h2
        exact hno ⟨off, ho, h2⟩
      obtain ⟨off, ho, hdif⟩ := hex
      obtain ⟨q, hq, hql⟩ := ht.leaf ho
      obtain ⟨q', hq', hql'⟩ := hnext.leaf ho
      have hqq : q' ≠ q := fun e => by
        subst e
        rcases hql.2 with ⟨a1, a2⟩ | ⟨a1, a2, k, a3, a4, a5⟩
        · exact hdif ((hql'.hole.1 a1).trans a2.symm)
        · rcases hql'.2 with ⟨b1, b2⟩ | ⟨b1, b2, k', b3, b4, b5⟩
          · rw [b1] at a5; exact absurd a5.symm newT_nz
          · have ek : k = k' := by
              have : (newP (tbTag off) (k + 1) (blkB (four hv off))).birth = (newP (tbTag off) (k' + 1) (blkB (four (setV hv l) off))).birth := by rw [← a5, ← b5]
              have : k + 1 = k' + 1 := this
              omega
            subst ek
            have a6 := st.pre k _ (hI.pre k _ a4)
            rw [a6] at b4
            injection b4 with b4
            have h1 := (iput_back hql.1 a2).2
            have h2 := (iput_back hql'.1 b2).2
            rw [b4, h2] at h1
            exact hdif h1
      have hg8 : grp (updH h g.l) (off / 8) ≠ grp h (off / 8) := fun e => by
        have h1 := grp_at (h := updH h g.l) (by rw [updH_len]; exact ht.t.1) ho
        have h2 := grp_at ht.t.1 ho
        rw [e, h2, hq, hq'] at h1
        injection h1 with h1
        exact hqq h1.symm
      obtain ⟨m', hm', hn'⟩ := f3.mid (show off / 8 < 8 by omega)
      obtain ⟨m, hm, hn⟩ := ht1.mid (show off / 8 < 8 by omega)
      have hmm : mids' ≠ mids := fun e => by
        subst e
        rw [hm] at hm'
        injection hm' with hm'
        subst hm'
        rcases f9 (off / 8) m hg8 hm with hz | hb2
        · exact hg8 ((hn'.hole.1 hz).trans (hn.hole.1 hz).symm)
        · have hz : m ≠ zeroP := fun hz => hg8 ((hn'.hole.1 hz).trans (hn.hole.1 hz).symm)
          have := (hn.tag hz).2.2.2.2
          omega
      intro er
      rcases f7 hmm with hz | hb2
      · have hz2 : root = zeroP := er.symm.trans hz
        have e1 := f3.2.2.1.hole.1 hz
        have e2 := ht1.2.2.1.hole.1 hz2
        exact hmm (e1.trans e2.symm)
      · rw [er] at hb2
        by_cases hz : root = zeroP
        · rw [hz] at hb2; simp [zeroP] at hb2
        · have := (ht1.2.2.1.tag hz).2.2.2.2
          omega
  · exact absurd hb hbad
def itemsH (hv : List Ino) : List Itm := (List.range 64).flatMap fun off => itmK off (four hv off) 4
theorem itmK_zero (off : Nat) : itmK off zeros4 4 = [] := by
  unfold itmK
  rw [List.flatMap_eq_nil_iff]
  intro j hj
  have hj := List.mem_range.1 hj
  have e : zeros4.getD j zeroI = zeroI := by
    match j, hj with
    | 0, _ | 1, _ | 2, _ | 3, _ => rfl
  unfold itm1
  rw [e, eqI_same, if_neg (by simp)]
theorem ta_tab {bl : List Bs} {hv : List Ino} : ∀ (h : List Pt) (i : Nat) (s : Sh) (l : List Itm) (b : List Pt), s.blocks = bl → s.bad = [] → (∀ j q, h[j]? = some q → IsL bl (i + j) q (four hv (i + j))) →
    ∃ rs s', More s s' rs ∧ taGo (nz i h) s l b = ⟨0, s', l ++ (List.range' i h.length).flatMap (fun off => itmK off (four hv off) 4), b ++ (nz i h).map (·.2)⟩
  | [], i, s, l, b, _, _, _ => ⟨[], s, More.refl s, by simp [nz, taGo]⟩
  | q :: h, i, s, l, b, hbl, hbd, hl => by
    have hq := hl 0 q rfl
    rw [Nat.add_zero] at hq
    have hl' : ∀ j p, h[j]? = some p → IsL bl (i + 1 + j) p (four hv (i + 1 + j)) := fun j p hj => by
      have := hl (j + 1) p (by simpa using hj)
      rw [show i + (j + 1) = i + 1 + j by omega] at this
      exact this
    rw [List.length_cons, List.range'_succ, List.flatMap_cons]
    by_cases hz : q = zeroP
    · have e : nz i (q :: h) = nz (i + 1) h := by rw [hz]; simp only [nz]; rw [eqP_same, if_pos rfl]
      obtain ⟨rs, s', h1, h2⟩ := ta_tab h (i + 1) s l b hbl hbd hl'
      refine ⟨rs, s', h1, ?_⟩
      rw [e, h2, hq.hole.1 hz, itmK_zero, List.nil_append]
    · have e : nz i (q :: h) = (i, q) :: nz (i + 1) h := by simp only [nz]; rw [eqP_no hz, if_neg (by decide)]
      obtain ⟨hr, rs1, hm1⟩ := IsL.read (s := s) (q := q) (off := i) (ns := four hv i) (by rw [hbl]; exact hq)
      rcases hr with ⟨r1, r2⟩ | ⟨_, _, r3⟩
      · obtain ⟨rs, s', h1, h2⟩ := ta_tab h (i + 1) (tbS s q) (l ++ itmK i (four hv i) 4) (b ++ [q]) (hm1.bl.1.trans hbl) (hm1.bl.2.trans hbd) hl'
        refine ⟨rs1 ++ rs, s', hm1.trans h1, ?_⟩
        rw [e, taGo_ok (show tbE s (i, q).2 = 0 from r1)]
        show taGo (nz (i + 1) h) (tbS s q) (l ++ itmK i (tbN s q) 4) (b ++ [q]) = _
        rw [r2, h2]
        simp
      · exact absurd hbd r3
theorem IsTab.all {s : Sh} {root : Pt} {hv : List Ino} {h mids : List Pt} (ht : IsTab s.blocks root hv h mids) (hb : s.bad = []) :
    ∃ rs s', More s s' rs ∧ taAll s root = ⟨0, s', itemsH hv, nodesOf root mids ++ (nz 0 h).map (·.2)⟩ := by
  obtain ⟨⟨rs, h1⟩, h2, h3, h4⟩ := all_tree ht.t hb
  obtain ⟨rs2, s', h5, h6⟩ := ta_tab (hv := hv) h 0 (allS s root) [] (nodesOf root mids) h1.bl.1 (h1.bl.2.trans hb) (fun j q hq => by rw [Nat.zero_add]; exact ht.l j q hq)
  refine ⟨rs ++ rs2, s', h1.trans h5, ?_⟩
  unfold taAll
  rw [if_neg (by rw [h2]; simp), h3, h4, h6, List.nil_append, ht.t.1]
  unfold itemsH
  rw [List.range_eq_range']
theorem tab_zero (bl : List Bs) : IsTab bl zeroP (List.replicate 256 zeroI) (List.replicate 64 zeroP) holes := by
  refine ⟨List.length_replicate, by rw [List.getElem?_replicate, if_pos (by omega)], fun n hn => by rw [List.eq_of_mem_replicate hn]; exact zeroI_ok, ?_, fun off q hq => ?_⟩
  · refine ⟨by simp, fun p hp => by rw [List.eq_of_mem_replicate hp]; exact zeroP_ok, ⟨holes_ok, .inl ⟨rfl, rfl⟩⟩, fun i q hq => ?_⟩
    have hi : i < 8 := by have := (List.getElem?_eq_some_iff.1 hq).1; simpa [holes] using this
    have hg : grp (List.replicate 64 zeroP) i = holes := by
      unfold grp holes
      rw [List.drop_replicate, List.take_replicate]
      congr 1
      omega
    rw [hg]
    exact ⟨holes_ok, .inl ⟨List.eq_of_mem_replicate (List.mem_of_getElem? hq), rfl⟩⟩
  · have ho : off < 64 := by have := (List.getElem?_eq_some_iff.1 hq).1; simpa using this
    have e : four (List.replicate 256 zeroI) off = zeros4 := by
      unfold four
      rw [List.drop_replicate, List.take_replicate, Nat.min_eq_left (by omega)]
      rfl
    rw [e]
    exact ⟨zeros4_ok, .inl ⟨List.eq_of_mem_replicate (List.mem_of_getElem? hq), rfl⟩⟩
theorem nodes_len {bl : List Bs} {root : Pt} {h mids : List Pt} (ht : IsT bl root h mids) : (nodesOf root mids).length = if cntG h 8 = 0 then 0 else cntG h 8 + 1 := by
  have hm8 := ht.2.2.1.1.len
  have hf : (mids.filter (fun q => !eqP q zeroP)).length = cntG h 8 := by
    have h1 := len_up (m := mids) (f := fun i => if grp h i ≠ holes then [zeroP] else []) (P := fun q => !eqP q zeroP) hm8 (fun i q hq => by
      have hn := ht.2.2.2 i q hq
      by_cases hz : q = zeroP
      · rw [hz, eqP_same]
        simp [hn.hole.1 hz]
      · rw [eqP_no hz]
        have : grp h i ≠ holes := fun e => hz (hn.hole.2 e)
        simp [this]) 8 0 (by omega)
    rw [List.drop_zero] at h1
    rw [h1]
    have h2 : ∀ k, (upFrom (fun i => if grp h i ≠ holes then [zeroP] else []) 0 k).length = cntG h k := by
      intro k
      unfold upFrom cntG
      rw [← List.range_eq_range']
      induction k with
      | zero => rfl
      | succ k ih =>
        rw [List.range_succ, List.flatMap_append, List.length_append, ih, List.filter_append, List.length_append]
        by_cases e : grp h k = holes <;> simp [e]
    exact h2 8
  unfold nodesOf
  by_cases hz : root = zeroP
  · rw [hz, eqP_same, if_pos rfl]
    have hh := ht.2.2.1.hole.1 hz
    have : (mids.filter (fun q => !eqP q zeroP)) = [] := by
      rw [hh, List.filter_eq_nil_iff]
      intro q hq
      rw [List.eq_of_mem_replicate hq, eqP_same]
      simp
    rw [this] at hf
    rw [← hf]
    rfl
  · rw [eqP_no hz, if_neg (by decide), List.length_cons, hf]
    have hne : cntG h 8 ≠ 0 := fun e => by
      rw [e] at hf
      have hall : mids = holes := by
        unfold holes
        rw [List.eq_replicate_iff]
        refine ⟨hm8, fun q hq => ?_⟩
        apply Classical.byContradiction
        intro hq0
        have : q ∈ mids.filter (fun q => !eqP q zeroP) := List.mem_filter.2 ⟨hq, by rw [eqP_no hq0]; rfl⟩
        rw [List.eq_nil_of_length_eq_zero hf] at this
        cases this
      exact hz (ht.2.2.1.hole.2 hall)
    rw [if_neg hne]
end Go.Proofs.YtjgjohdeeeoeoaaGreatDoor
