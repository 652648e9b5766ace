/- Tables within a law's frame. -/
import Derived.Test.YtjgjohdeeeoeoaaGreatDoorM39
import Derived.Test.YtjgjohdeeeoeoaaGreatDoorM37
import Derived.Test.YtjgjohdeeeoeoaaGreatDoorM27
namespace Go.Proofs.YtjgjohdeeeoeoaaGreatDoor
open Go.RowKit
attribute [local go_sem] Oper.semAt_some
theorem BlkOK.nwS {s : Sh} (h : BlkOK s) {p : Pt} {b : Bs} (hb : b.length ≤ 100000) : BlkOK (nwS s p b) := by
  unfold Go.Proofs.YtjgjohdeeeoeoaaGreatDoor.nwS
  split
  · exact h
  · intro c hc
    rcases List.mem_append.1 hc with hc | hc
    · exact h c hc
    · simp at hc; subst hc; exact hb
theorem goW_bo {f : Sh → Pt → List Lf → Ww} {was : List Pt} (hf : ∀ s q l, BlkOK s → q.OK → (∀ x ∈ l, Lf.OK x) → BlkOK (f s q l).s ∧ (f s q l).p.OK) (wide : Nat) (hw : NOK was) : ∀ (fuel : Nat) (s : Sh) (now : List Pt) (l : List Lf), BlkOK s → NOK now → (∀ x ∈ l, Lf.OK x) → BlkOK (goW f wide was fuel s now l).s ∧ NOK (goW f wide was fuel s now l).now
  | 0, s, now, l, h1, h2, _ => ⟨h1, h2⟩
  | fuel + 1, s, now, l, h1, h2, h3 => by
    by_cases h0 : l = []
    · subst h0; rw [goW_nil]; exact ⟨h1, h2⟩
    · have hq : (was.getD ((l.getD 0 dl).1 / wide % 8) zeroP).OK := by
        rw [List.getD_eq_getElem?_getD]
        cases hg : was[(l.getD 0 dl).1 / wide % 8]? with
        | none => exact zeroP_ok
        | some q => exact hw.ok q (List.mem_of_getElem? hg)
      have hr := hf s _ (l.take (headN wide l)) h1 hq (fun x hx => h3 x (List.mem_of_mem_take hx))
      by_cases he : (f s (was.getD ((l.getD 0 dl).1 / wide % 8) zeroP) (l.take (headN wide l))).e = 0
      · rw [goW_ok h0 he]
        exact goW_bo hf wide hw fuel _ _ _ hr.1 (h2.set _ hr.2) (fun x hx => h3 x (List.mem_of_mem_drop hx))
      · unfold goW
        rw [if_neg h0, if_pos he]
        exact ⟨hr.1, h2⟩
theorem with_bo {obj : Nat} (ho : obj < 65536) : ∀ (n : Nat) (s : Sh) (p : Pt) (l : List Lf), n ≤ 2 → BlkOK s → p.OK → (∀ x ∈ l, Lf.OK x) → BlkOK (withP obj n s p l).s ∧ (withP obj n s p l).p.OK
  | 0, s, p, l, _, h1, h2, h3 => by
    unfold withP
    split
    · exact ⟨h1, h2⟩
    · refine ⟨h1, ?_⟩
      rename_i h0
      cases l with
      | nil => exact absurd rfl h0
      | cons x l => exact (h3 x (by simp)).2
  | n + 1, s, p, l, hn, h1, h2, h3 => by
    rw [withP_succ]
    split
    · exact ⟨h1, h2⟩
    · rename_i h0
      split
      · exact ⟨h1.same (rnS_same s p), zeroP_ok⟩
      · obtain ⟨g1, g2⟩ := goW_bo (f := withP obj n) (fun s q l a b c => with_bo ho n s q l (by omega) a b c) (8 ^ n) (rnN_ok s p) l.length (rnS s p) (rnN s p) l (h1.same (rnS_same s p)) (rnN_ok s p) h3
        generalize goW (withP obj n) (8 ^ n) (rnN s p) l.length (rnS s p) (rnN s p) l = g at g1 g2
        have hoff : (l.getD 0 dl).1 / 8 ^ (n + 1) < 4294967296 := by
          cases l with
          | nil => exact absurd rfl h0
          | cons x l => exact Nat.lt_of_le_of_lt (Nat.div_le_self _ _) (h3 x (by simp)).1
        unfold endW
        split
        · exact ⟨g1, zeroP_ok⟩
        · split
          · exact ⟨g1, h2⟩
          · have hold : BlkOK (oldN g.s p (n + 1) (rnN s p) g.now) := by
              rcases (show n = 0 ∨ n = 1 by omega) with rfl | rfl
              · rw [oldN1_eq]; exact g1
              · rw [oldN2_eq]; exact g1
            have hlen : (nodeB g.now).length ≤ 100000 := by rw [nodeB_length g2.ok, g2.len]; omega
            constructor
            · unfold anS
              split
              · exact hold
              · split
                · exact hold
                · exact hold.nwS hlen
            · unfold anP
              split
              · exact zeroP_ok
              · split
                · exact zeroP_ok
                · exact nwP_ok (tagP_ok (by omega) ho hoff) _
theorem setR_bo {s : Sh} {p : Pt} {l : List Lf} (h1 : BlkOK s) (h2 : p.OK) (h3 : ∀ x ∈ l, Lf.OK x) : BlkOK (setR s p 0 l).s := by
  unfold setR
  split
  · exact h1
  · split
    · exact h1
    · exact (with_bo (by omega) 2 s p l (Nat.le_refl _) h1 h2 h3).1
theorem sg_bo {p : Pt} {l : List Itm} (hok : ∀ x ∈ l, Itm.OK x) : ∀ (os : List Nat) (s : Sh) (ls : List Lf), (∀ o ∈ os, o < 64) → BlkOK s → (∀ x ∈ ls, Lf.OK x) → BlkOK (sgGo p l os s ls).s ∧ ∀ x ∈ (sgGo p l os s ls).l, Lf.OK x
  | [], s, ls, _, h1, h2 => ⟨h1, h2⟩
  | off :: os, s, ls, ho, h1, h2 => by
    have ho1 := ho off (by simp)
    have hb := h1.same (blS_same s p off)
    have hw : BOK (nowB p l s off) := by unfold nowB; exact wth_okG (blN_ok _ _ _) hok off
    by_cases e : blE s p off = 0
    · by_cases e2 : nowB p l s off = blN s p off
      · rw [sg_same e e2]; exact sg_bo hok os _ _ (fun o h => ho o (by simp [h])) hb h2
      · by_cases e3 : taE (blS s p off) (nowB p l s off) = 0
        · rw [sg_new e e2 e3]
          refine sg_bo hok os _ _ (fun o h => ho o (by simp [h])) (hb.taS hw off) (fun x hx => ?_)
          rcases List.mem_append.1 hx with hx | hx
          · exact h2 x hx
          · simp at hx; subst hx
            exact ⟨by show off < 4294967296; omega, taP_ok (by omega)⟩
        · rw [sg_bad e e2 e3]; exact ⟨hb.taS hw off, fun x hx => by cases hx⟩
    · rw [sg_err e]; exact ⟨hb, fun x hx => by cases hx⟩
theorem tsR_bo {s : Sh} {p : Pt} {l : List Itm} (hok : ∀ x ∈ l, Itm.OK x) (h1 : BlkOK s) (h2 : p.OK) : BlkOK (tsR s p l).s := by
  unfold tsR
  obtain ⟨g1, g2⟩ := sg_bo (p := p) hok (offsI l) s [] (fun o h => (offsI_mem h).1) h1 (fun x hx => by cases hx)
  split
  · exact h1
  · split
    · exact g1
    · exact setR_bo g1 h2 g2
theorem trows_at : ∀ (l : List Itm) (i : Nat) (x : Itm), (∀ y ∈ l, Itm.OK y) → l[i]? = some x → ∀ j, j < 45 → (trI l)[i * 45 + j]? = (tcI x)[j]?
  | [], i, x, _, h, _, _ => by simp at h
  | y :: l, 0, x, hq, h, j, hj => by
    simp only [List.getElem?_cons_zero, Option.some.injEq] at h
    subst h
    have := tcI_length (hq y (by simp)).2
    show (tcI y ++ trI l)[0 * 45 + j]? = _
    rw [List.getElem?_append_left (by omega)]
    congr 1
    omega
  | y :: l, i + 1, x, hq, h, j, hj => by
    have h0 : l[i]? = some x := by simpa using h
    have hl := tcI_length (hq y (by simp)).2
    have ih := trows_at l i x (fun z hz => hq z (by simp [hz])) h0 j hj
    show (tcI y ++ trI l)[(i + 1) * 45 + j]? = _
    rw [List.getElem?_append_right (by omega), ← ih]
    congr 1
    omega
theorem OwnT.at {X : World} {B : Nat} {v : Value} {l : List Itm} (h : OwnT X B v l) (hok : ∀ x ∈ l, Itm.OK x) (h0 : 0 < l.length) : ∃ g cap, v = .slice (some ⟨g, 0, none⟩) l.length cap ∧ l.length ≤ cap ∧ ∀ i x, l[i]? = some x → X.rangeAt g (i * 45) (tcI x) := by
  rcases h.2 with ⟨_, e⟩ | ⟨g, cap, cur, rfl, _, hg, hc, _, hs, ht⟩
  · omega
  · refine ⟨g, cap, rfl, hc, fun i x hx j u hu => ?_⟩
    have hb : Blk X g cur.toList 76 := by unfold Blk; simpa using hg
    have hj : j < 45 := by have := (List.getElem?_eq_some_iff.1 hu).1; rw [tcI_length (hok x (List.mem_of_getElem? hx)).2] at this; exact this
    have hi := (List.getElem?_eq_some_iff.1 hx).1
    refine hb.cell ?_
    have e := trows_at l i x hok hx j hj
    rw [hu, ← ht, List.getElem?_take, if_pos (by omega)] at e
    exact e
theorem srcT_of {X : World} {B : Nat} {v : Value} {l : List Itm} (h : OwnT X B v l) (hok : ∀ x ∈ l, Itm.OK x) : ∃ sp cap, v = .slice sp l.length cap ∧ l.length ≤ cap ∧ SrcT X sp l := by
  by_cases h0 : 0 < l.length
  · obtain ⟨g, cap, e, hc, hr⟩ := h.at hok h0
    refine ⟨_, cap, e, hc, fun _ => ⟨g, 0, rfl, ?_, fun i x hx => by rw [Nat.zero_add]; exact hr i x hx⟩⟩
    exact (h.lt g (by rw [e]; rfl)).2
  · rcases h.2 with ⟨e2, _⟩ | ⟨g, cap2, cur, e2, _, _, hc2, _⟩
    · exact ⟨none, 0, by rw [e2]; congr 1; omega, by omega, fun h => absurd h h0⟩
    · exact ⟨_, _, e2, hc2, fun h => absurd h h0⟩
theorem fr_tset {w X : World} {D : Nat} {s : Sh} {bs lb : Bxs} (h : Fr w D s bs X) (p : Pt) (hp : p.OK) (l : List Itm) (hok : ∀ x ∈ l, Itm.OK x) {v : Value} (hl : l.length ≤ 12) (hr : RowB 76 45 lb v l.length (trI l)) (hs : ∀ y ∈ lb, y ∈ bs) {m : Nat} (hk : Lim m s) (hm : m + 3715 < 100000000) (hb : BlkOK s) :
    Calls Tryz.prog 15 #[shI D, .agg (pcells p).toArray, v] X fun e Y => e = .returned (.tuple #[.agg (pcells (tsR s p l).p).toArray, .int .i64 ((tsR s p l).e : Int)]) ∧ Fr w D (tsR s p l).s bs Y ∧ Lim (m + 3715) (tsR s p l).s ∧ (tsR s p l).p.OK := by
  have ho : OwnT X 0 v l := h.row hr hs
  obtain ⟨L1, v1, h1, h2, h3, h4, h5⟩ := h.call
  obtain ⟨sp, cap, e, hc, hS⟩ := srcT_of ho hok
  have hlab : ∀ a, sp = some a → a.block < X.heap.size ∧ (L1 a.block = 0 ∨ L1 a.block = 10) := fun a ha => by
    have e1 : v.ownBlock = some a.block := by rw [e, ha]; rfl
    obtain ⟨y, hy, e2⟩ := hr.blk e1
    refine ⟨by rw [← e2]; exact (h.bx y (hs y hy)).lt, .inl ?_⟩
    rw [← e2]
    exact h4 y (hs y hy)
  subst e
  refine (tbSet_any p hp l hok sp cap hc hl hS hlab h1 h2 hk hm hb).mono ?_
  rintro e Y ⟨e1, e2, e3, e4⟩
  exact ⟨e1, h5 _ Y e2, e3, e4⟩
theorem fr_tget {w X : World} {D : Nat} {s : Sh} {bs : Bxs} (h : Fr w D s bs X) (p : Pt) (hp : p.OK) (num : Nat) (hn : num < 65536) {m : Nat} (hk : Lim m s) (hm : m + 74 < 100000000) (hb : BlkOK s) :
    Calls Tryz.prog 20 #[shI D, .agg (pcells p).toArray, .int .u16 (num : Int)] X fun e Y => e = .returned (.tuple #[.agg (icells (gtN s p num)).toArray, .int .i64 (gtE s p num : Int)]) ∧ Fr w D (gtS s p num) bs Y ∧ Lim (m + 74) (gtS s p num) := by
  obtain ⟨L1, v1, h1, h2, h3, h4, h5⟩ := h.call
  refine (tbGet_any p hp num hn h1 h2 hk hm ((hb.same (getS_same _ _ _)).rdB _)).mono ?_
  rintro e Y ⟨e1, e2, e3⟩
  exact ⟨e1, h5 _ Y e2, e3⟩
theorem nz_off : ∀ (h : List Pt) (i : Nat) (x : Lf), x ∈ nz i h → i ≤ x.1 ∧ x.1 < i + h.length
  | [], _, _, hx => by cases hx
  | q :: h, i, x, hx => by
    simp only [nz] at hx
    rw [List.length_cons]
    split at hx
    · have := nz_off h (i + 1) x hx; omega
    · rcases List.mem_cons.1 hx with rfl | hx
      · exact ⟨Nat.le_refl _, by show i < _; omega⟩
      · have := nz_off h (i + 1) x hx; omega
theorem nz_len : ∀ (h : List Pt) (i : Nat), (nz i h).length ≤ h.length
  | [], _ => Nat.le_refl _
  | q :: h, i => by
    simp only [nz]
    have := nz_len h (i + 1)
    split
    · rw [List.length_cons]; omega
    · rw [List.length_cons, List.length_cons]; omega
theorem nodes_le {root : Pt} {mids : List Pt} (h : mids.length = 8) : (nodesOf root mids).length ≤ 9 := by
  unfold nodesOf
  split
  · simp
  · have := List.length_filter_le (fun q => !eqP q zeroP) mids
    rw [List.length_cons]; omega
theorem IsTab.root {bl : List Bs} {root : Pt} {hv : List Ino} {h mids : List Pt} (ht : IsTab bl root hv h mids) : root.OK := ht.t.2.2.1.ok ⟨by omega, by omega⟩
theorem fr_tall {w X : World} {D : Nat} {s : Sh} {bs : Bxs} (h : Fr w D s bs X) {p : Pt} {hv : List Ino} {hh mids : List Pt} (ht : IsTab s.blocks p hv hh mids) (hbad : s.bad = []) {m : Nat} (hk : Lim m s) (hm : m + 173 < 100000000) (hb : BlkOK s) :
    Calls Tryz.prog 21 #[shI D, .agg (pcells p).toArray] X fun e Y => ∃ ov nv ob nb rs s', e = .returned (.tuple #[ov, nv, .int .i64 0]) ∧ More s s' rs ∧ Fr w D s' (ob ++ (nb ++ bs)) Y ∧ Lim (m + 173) s' ∧
      RowB 76 45 ob ov (itemsH hv).length (trI (itemsH hv)) ∧ RowB 28 41 nb nv (nodesOf p mids ++ (nz 0 hh).map (·.2)).length (prows (nodesOf p mids ++ (nz 0 hh).map (·.2))) ∧ ∀ y ∈ ob ++ nb, X.heap.size ≤ y.1 := by
  obtain ⟨L1, v1, h1, h2, h3, h4, h5⟩ := h.call
  obtain ⟨⟨rs0, ha1⟩, ha2, ha3, ha4⟩ := all_tree ht.t hbad
  obtain ⟨rs, s', hmore, hta⟩ := ht.all hbad
  refine (tbAll_any p ht.root h1 h2 hk hm (fun q => (hb.same (allS_same _ _)).rdB q) (fun x hx => by rw [ha3] at hx; have := nz_off hh 0 x hx; have := ht.t.1; omega) (by rw [ha3]; have := nz_len hh 0; have := ht.t.1; omega) (by rw [ha4]; have := nodes_le (root := p) ht.t.2.2.1.1.len; omega)).mono ?_
  rintro e Y ⟨ov, nv, lv, ls, e1, ⟨⟨L2, v2, k1, k2, k3, k4, k5⟩, lo, oo, no, og, ng⟩, e3⟩
  rw [hta] at e1 e3 oo no k1
  obtain ⟨ob, r1, r2⟩ := RowB.of oo
  obtain ⟨nb, r3, r4⟩ := RowB.of no
  have hF := h5 _ Y ⟨L2, v2, k1, k2⟩
  obtain ⟨-, hbx, hbel⟩ := hF
  refine ⟨ov, nv, ob, nb, rs, s', e1, hmore, ⟨⟨L2, v2, k1, h2.mv k2, fun b hb => ?_, fun g hg => ?_⟩, fun b hb => ?_, hbel⟩, e3, r1, r3, fun y hy => ?_⟩
  · rcases List.mem_append.1 hb with hb | hb
    · exact k4 _ (r2 b hb).2
    · rcases List.mem_append.1 hb with hb | hb
      · exact k5 _ (r4 b hb).2
      · exact (k2.old _ (h.bx b hb).lt).trans (h4 b hb)
  · rw [k2.old g (Nat.lt_of_lt_of_le hg h.bel.size)]
    exact h3 g hg
  · rcases List.mem_append.1 hb with hb | hb
    · exact (r2 b hb).1
    · rcases List.mem_append.1 hb with hb | hb
      · exact (r4 b hb).1
      · exact hbx b hb
  · rcases List.mem_append.1 hy with hy | hy
    · exact og _ (r2 y hy).2
    · exact ng _ (r4 y hy).2
end Go.Proofs.YtjgjohdeeeoeoaaGreatDoor
namespace Go.Proofs.YtjgjohdeeeoeoaaGreatDoor
open Go.RowKit
def lfB (hv : List Ino) (off : Nat) : Bool := decide (four hv off ≠ zeros4)
def lfN (hv : List Ino) : Nat := ((List.range 64).filter (lfB hv)).length
def gpB (hv : List Ino) (g : Nat) : Bool := (List.range 8).any fun k => lfB hv (8 * g + k)
def gpN (hv : List Ino) : Nat := ((List.range 8).filter (gpB hv)).length
def blkN (hv : List Ino) : Nat := if gpN hv = 0 then 0 else lfN hv + gpN hv + 1
theorem nz_count {hv : List Ino} {bl : List Bs} : ∀ (h : List Pt) (i : Nat), (∀ j q, h[j]? = some q → IsL bl (i + j) q (four hv (i + j))) → (nz i h).length = ((List.range' i h.length).filter (lfB hv)).length
  | [], _, _ => rfl
  | q :: h, i, hl => by
    have hq := hl 0 q rfl
    rw [Nat.add_zero] at hq
    have ih := nz_count (hv := hv) (bl := bl) h (i + 1) (fun j p hj => by
      have := hl (j + 1) p (by simpa using hj)
      rw [show i + (j + 1) = i + 1 + j by omega] at this
      exact this)
    rw [List.length_cons, List.range'_succ]
    simp only [nz]
    by_cases hz : q = zeroP
    · rw [hz, eqP_same, if_pos rfl, ih, List.filter_cons_of_neg]
      unfold lfB
      simp [hq.hole.1 hz]
    · rw [eqP_no hz, if_neg (by decide), List.length_cons, ih, List.filter_cons_of_pos, List.length_cons]
      unfold lfB
      have : four hv i ≠ zeros4 := fun e => hz (hq.hole.2 e)
      simp [this]
theorem IsTab.cnt {bl : List Bs} {root : Pt} {hv : List Ino} {h mids : List Pt} (ht : IsTab bl root hv h mids) : cntG h 8 = gpN hv := by
  unfold cntG gpN
  congr 1
  apply List.filter_congr
  intro g hg
  have hg := List.mem_range.1 hg
  have e : grp h g ≠ holes ↔ gpB hv g = true := by
    have hgl : (grp h g).length = 8 := by unfold grp; rw [List.length_take, List.length_drop, ht.t.1]; omega
    constructor
    · intro hne
      unfold gpB
      rw [List.any_eq_true]
      apply Classical.byContradiction
      intro hno
      apply hne
      unfold holes
      rw [List.eq_replicate_iff]
      refine ⟨hgl, fun q hq => ?_⟩
      obtain ⟨k, hk⟩ := List.getElem?_of_mem hq
      have hk8 : k < 8 := by have := (List.getElem?_eq_some_iff.1 hk).1; omega
      rw [grp_get hk8] at hk
      have hl := ht.l _ _ hk
      apply Classical.byContradiction
      intro hq0
      refine hno ⟨k, List.mem_range.2 hk8, ?_⟩
      unfold lfB
      have : four hv (8 * g + k) ≠ zeros4 := fun e => hq0 (hl.hole.2 e)
      simp [this]
    · intro hb e
      unfold gpB at hb
      rw [List.any_eq_true] at hb
      obtain ⟨k, hk, hb⟩ := hb
      have hk8 := List.mem_range.1 hk
      obtain ⟨q, hq, hl⟩ := ht.leaf (show 8 * g + k < 64 by omega)
      have h1 := grp_get (h := h) (i := g) hk8
      rw [e, hq] at h1
      have h2 : q = zeroP := List.eq_of_mem_replicate (List.mem_of_getElem? (show holes[k]? = some q from h1))
      unfold lfB at hb
      simp [hl.hole.1 h2] at hb
  by_cases hc : gpB hv g = true
  · rw [hc]; simpa using e.2 hc
  · have : ¬ grp h g ≠ holes := fun h => hc (e.1 h)
    rw [Bool.not_eq_true] at hc
    rw [hc]
    simpa using this
theorem IsTab.blocks {bl : List Bs} {root : Pt} {hv : List Ino} {h mids : List Pt} (ht : IsTab bl root hv h mids) : (nodesOf root mids ++ (nz 0 h).map (·.2)).length = blkN hv := by
  have h1 := nodes_len ht.t
  rw [ht.cnt] at h1
  have h2 := nz_count (hv := hv) (bl := bl) h 0 (fun j q hq => by rw [Nat.zero_add]; exact ht.l j q hq)
  rw [ht.t.1, ← List.range_eq_range'] at h2
  rw [List.length_append, List.length_map, h1, h2]
  unfold blkN lfN
  by_cases e : gpN hv = 0
  · rw [if_pos e, if_pos e, Nat.zero_add]
    rw [List.length_eq_zero_iff, List.filter_eq_nil_iff]
    intro off hoff
    have hoff := List.mem_range.1 hoff
    unfold gpN at e
    rw [List.length_eq_zero_iff, List.filter_eq_nil_iff] at e
    have h3 := e (off / 8) (List.mem_range.2 (by omega))
    intro hb
    apply h3
    unfold gpB
    rw [List.any_eq_true]
    exact ⟨off % 8, List.mem_range.2 (by omega), by rw [show 8 * (off / 8) + off % 8 = off by omega]; exact hb⟩
  · rw [if_neg e, if_neg e]
    omega
def tI : Ino := { zeroI with kind := 1, links := 1 }
def tl2 : List Itm := [(1, tI), (5, tI)]
def tF : List Ino := [zeroI, tI, zeroI, zeroI]
def tB : Bs := blkB tF
def tq0 : Pt := newP (tbTag 0) 1 tB
def tq1 : Pt := newP (tbTag 1) 2 tB
def tn1 : List Pt := (holes.set 0 tq0).set 1 tq1
def tB1 : Bs := nodeB tn1
def tq2 : Pt := newP (tagP 1 0 0) 3 tB1
def tn2 : List Pt := holes.set 0 tq2
def tB2 : Bs := nodeB tn2
def tqR : Pt := newP (tagP 2 0 0) 4 tB2
def tS : Sh := ⟨[tB, tB, tB1, tB2], [], [tq0, tq1, tq2, tqR], [], -1, []⟩
theorem tI_ok : tI.OK := ⟨by simp [tI], by simp [tI], by simp [tI, zeroI], zeroP_ok⟩
theorem tw1 : tsR sh0 zeroP tl2 = ⟨tqR, 0, tS⟩ := by kernel_rfl
theorem tw2 : setT tl2 = true := by kernel_rfl
theorem tl2_ok : ∀ x ∈ tl2, Itm.OK x := fun x hx => by
  simp only [tl2, List.mem_cons, List.not_mem_nil, or_false] at hx
  rcases hx with rfl | rfl
  · exact ⟨by simp, tI_ok⟩
  · exact ⟨by simp, tI_ok⟩
def tV : List Ino := setV (List.replicate 256 zeroI) tl2
theorem tw3 : ∃ h mids, IsTab tS.blocks tqR tV h mids := by
  have := (set_tab (s := sh0) (l := tl2) (tab_zero sh0.blocks) tl2_ok tw2 rfl rfl (by simp [sh0])).tab
  rw [tw1] at this
  exact this
theorem tw4 : tV[5]? = some tI := by kernel_rfl
theorem tw5 : tV[2]? = some zeroI := by kernel_rfl
theorem tw6 : itemsH tV = tl2 := by kernel_rfl
theorem tw7 : blkN tV = 4 := by kernel_rfl
theorem tqR_ok : tqR.OK := newP_ok (tagP_ok (by omega) (by omega) (by omega)) (by omega) _
end Go.Proofs.YtjgjohdeeeoeoaaGreatDoor
namespace Go.Proofs.YtjgjohdeeeoeoaaGreatDoor
open Go.RowKit
attribute [local go_sem] Oper.semAt_some
theorem fieldsTm : (Tryz.prog.fieldsOf 76).toList.map (fun f => (f.type, f.offset)) = [(23, 0), (68, 1)] := by kernel_rfl
theorem namesTm : ((Tryz.prog.fieldsOf 76).toList.all fun f => f.name != "_") = true := by kernel_rfl
theorem ext_item {x : Itm} (h : x.2.OK) : (tcI x).toArray.extract 1 (1 + 44) = (icells x.2).toArray := by
  have := icells_length h
  simp [tcI, List.extract_toArray, List.extract, this]
  exact List.take_of_length_le (by omega)
def eqAtT (x y : Itm) (f : TypeId × Nat) : Bool := match f.2 with | 0 => decide (x.1 = y.1) | _ => eqI x.2 y.2
theorem run_eqTm (d : Nat) {x y : Itm} (hx : x.2.OK) (hy : y.2.OK) (W : World) : (Op.equalIn (d + 5) 76 (.agg (tcI x).toArray) (.agg (tcI y).toArray)).run Tryz.prog W = .ok (decide (x.1 = y.1) && eqI x.2 y.2) W := by
  rw [run_equalIn_struct W (d + 4) 76 _ _ (by kernel_rfl) (by kernel_rfl)]
  have e : (decide (x.1 = y.1) && eqI x.2 y.2) = (((Tryz.prog.fieldsOf 76).toList.map fun f => (f.type, f.offset)).all (eqAtT x y)) := by
    rw [fieldsTm]
    simp [eqAtT]
  rw [e]
  refine eqFields_dec _ _ _ W _ _ (fun f hm => ⟨?_, ?_⟩)
  · have := List.all_eq_true.1 namesTm f hm
    simpa using this
  have h1 : (f.type, f.offset) ∈ (Tryz.prog.fieldsOf 76).toList.map (fun f => (f.type, f.offset)) := List.mem_map.2 ⟨f, hm, rfl⟩
  rw [fieldsTm] at h1
  simp only [List.mem_cons, Prod.mk.injEq, List.not_mem_nil, or_false] at h1
  rcases h1 with ⟨e1, e2⟩ | ⟨e1, e2⟩ <;> rw [e1, e2]
  · refine ⟨_, _, part_one Tryz.underlying23 (v := .int .u16 (x.1 : Int)) rfl W, part_one Tryz.underlying23 (v := .int .u16 (y.1 : Int)) rfl W, ?_⟩
    rw [run_equalIn_int W (d + 3) 23 .u16 .u16 _ _ Tryz.underlying23]
    refine congrArg (fun b => Result.ok b W) ?_
    show _ = decide (x.1 = y.1)
    rw [Bool.eq_iff_iff]
    simp
    omega
  · refine ⟨_, _, part_In _ _ W, part_In _ _ W, ?_⟩
    rw [ext_item hx, ext_item hy]
    exact run_eqId d hx hy W
theorem ex_eqTm {ρ : Operand → Value} {o : Oper} {a b : Operand} {w : World} {x y : Itm} (hx : x.2.OK) (hy : y.2.OK) (ho : o.op = .binOp .eql 76 a b 76) (ha : ρ a = .agg (tcI x).toArray) (hb : ρ b = .agg (tcI y).toArray) :
    (execOp ρ o).run Tryz.prog w = .ok (.value (.bool (decide (x.1 = y.1) && eqI x.2 y.2))) w := by
  have h' : (Op.equal 76 (.agg (tcI x).toArray) (.agg (tcI y).toArray)).run Tryz.prog w = .ok (decide (x.1 = y.1) && eqI x.2 y.2) w := run_eqTm 9995 hx hy w
  have hb' : (binOp .eql 76 (.agg (tcI x).toArray) (.agg (tcI y).toArray)).run Tryz.prog w = .ok (.bool (decide (x.1 = y.1) && eqI x.2 y.2)) w := by
    show ((do pure (.bool ((← Op.equal 76 (.agg (tcI x).toArray) (.agg (tcI y).toArray)))) : Sem Value)).run Tryz.prog w = _
    simp only [Sem.run_bind, h', Result.andThen_ok, Sem.run_pure]
  have hg : (eqGuard .eql 76 a b (.agg (tcI x).toArray) (.agg (tcI y).toArray)).run Tryz.prog w = .ok () w := by
    unfold eqGuard
    go_simp
  unfold execOp
  simp only [ho, ha, hb, Sem.run_bind, hg, hb', Result.andThen_ok, Sem.run_pure]
theorem ex_bldKI {ρ : Operand → Value} {o : Oper} {x y : Operand} {w : World} (ho : o.op = .build 68 #[(0, x), (1, y)]) (hx : ρ x = .int .u8 1) (hy : ρ y = .int .u16 1) : (execOp ρ o).run Tryz.prog w = .ok (.value (.agg (icells tI).toArray)) w := by
  have hr : (Instr.build 68 #[(0, .int .u8 1), (1, .int .u16 1)]).run Tryz.prog w = .ok (.agg (icells tI).toArray) w := run_build w 68 _ _ (by kernel_rfl)
  unfold execOp
  simp only [ho]
  rw [show (Array.map (fun x : Nat × Operand => (x.1, ρ x.2)) #[(0, x), (1, y)]) = #[(0, .int .u8 1), (1, .int .u16 1)] by simp [hx, hy]]
  simp only [Sem.run_bind, hr, Result.andThen_ok, Sem.run_pure]
theorem infoTmZ : (Tryz.prog.info? 76).map (fun i => (i.zero, i.size, i.bytes)) = some (some (.agg (tcI (0, zeroI)).toArray), 45, 72) := by kernel_rfl
theorem fillTm2 : Instr.fill (fun i => some (i * 45, 45)) ((Array.range (2 * 45)).map ((Value.agg (tcI (0, zeroI)).toArray).cells[· % (Value.agg (tcI (0, zeroI)).toArray).cells.size]!)) [(0, .agg (tcI (1, tI)).toArray), (1, .agg (tcI (5, tI)).toArray)] = some (trI tl2).toArray := by kernel_rfl
theorem ex_twoTm {ρ : Operand → Value} {o : Oper} {x y : Operand} {w : World} (ho : o.op = .buildSlice 55 2 #[(0, x), (1, y)]) (hx : ρ x = .agg (tcI (1, tI)).toArray) (hy : ρ y = .agg (tcI (5, tI)).toArray) :
    (execOp ρ o).run Tryz.prog w = .ok (.value (.slice (some ⟨w.heap.size, 0, none⟩) 2 2)) (w.alloc (.cells (trI tl2).toArray 76)) := by
  have hr : (Instr.buildSlice 55 2 #[(0, .agg (tcI (1, tI)).toArray), (1, .agg (tcI (5, tI)).toArray)]).run Tryz.prog w = .ok (.slice (some ⟨w.heap.size, 0, none⟩) 2 2) (w.alloc (.cells (trI tl2).toArray 76)) := by
    obtain ⟨i, hi, h2⟩ := Option.map_eq_some_iff.1 infoTmZ
    simp only [Prod.mk.injEq] at h2
    obtain ⟨hz, his, _⟩ := h2
    exact run_buildSlice (P := Tryz.prog) w 55 76 2 _ (trI tl2).toArray i _ Tryz.underlying55 hi hz (by rw [his]; omega) (by rw [his]; omega) (by rw [his]; exact fillTm2)
  unfold execOp
  simp only [ho]
  rw [show (Array.map (fun x : Nat × Operand => (x.1, ρ x.2)) #[(0, x), (1, y)]) = #[(0, .agg (tcI (1, tI)).toArray), (1, .agg (tcI (5, tI)).toArray)] by simp [hx, hy]]
  simp only [Sem.run_bind, hr, Result.andThen_ok]
  rfl
theorem limT : Lim 3715 tS := ⟨by simp [tS], by simp [tS], by simp [tS], by omega, by simp [tS], by simp [tS], by simp [tS]⟩
theorem bokT : BlkOK tS := by
  have := tsR_bo (s := sh0) (p := zeroP) tl2_ok (fun b hb => by simp [sh0] at hb) zeroP_ok
  rw [tw1] at this
  exact this
set_option maxRecDepth 100000 in
set_option maxHeartbeats 16000000 in
theorem ulwakes_any (w : World) (hT : RTab w) : Calls Tryz.prog 6 #[] w fun e w' => e = .returned (.bool true) ∧ Below w.heap.size w w' := by
  have HX0 := Lib.hid (fr_new w hT)
  generalize hPost : (fun e w' => e = Ending.returned (.bool true) ∧ Below w.heap.size w w') = Post
  have HP : Hid (∀ w', Below w.heap.size w w' → Post (.returned (.bool true)) w') := Lib.hid fun w' h => by rw [← hPost]; exact ⟨rfl, h⟩
  obtain ⟨th, tm, htab⟩ := tw3
  have HTAB := Lib.hid htab
  have HSI := Lib.hid (size_icI tI_ok)
  have HSZ := Lib.hid (size_icI zeroI_ok)
  have HSR := Lib.hid (size_pc tqR_ok)
  have HLI : Hid ((icells tI).toArray.size = 44) := Lib.hid (by rw [List.size_toArray, icells_length tI_ok])
  have HLZ : Hid ((icells zeroI).toArray.size = 44) := Lib.hid (by rw [List.size_toArray, icells_length zeroI_ok])
  have HLR : Hid ((pcells tqR).toArray.size = 41) := Lib.hid (by rw [List.size_toArray, pcells_length tqR_ok])
  clear hT hPost htab
  go_enter Tryz.func6, Tryz.ntmps6
  go_upto_region 2 with fail
  refine (fun (k : ∀ W, Fr w w.heap.size sh0 [] W → Code.wp _ _ _ _ W) => k _ HX0.out) ?_
  intro W1 hW1
  obtain ⟨D, hD⟩ : ∃ d, w.heap.size = d := ⟨_, rfl⟩
  rw [hD] at hW1 ⊢
  have HF1 := Lib.hid hW1
  clear hW1 HX0 hD
  go_upto_region 3 with (first | (refine wpL_val rfl (ex_bldKI rfl rfl rfl) ?_) | (refine wpList_store_row rfl 68 (.tmp 2) (.tmp 14) rfl W1.heap.size (icells tI).toArray rfl rfl 68 _ (heap_alloc_new W1 _) HSI.out (by rw [HLI.out]; rfl) (one_ic tI) ?_) | fail)
  refine (fun (k : ∀ W, Fr w D sh0 [(W1.heap.size, icells tI, 68)] W → Code.wp _ _ _ _ W) => k _ (HF1.out.add (blk_row1 W1 _ (icells tI) 68).2 (Nat.le_refl _) (blk_row1 W1 _ (icells tI) 68).1)) ?_
  intro W2 hW2
  obtain ⟨g2, hg2⟩ : ∃ g, W1.heap.size = g := ⟨_, rfl⟩
  rw [hg2] at hW2 ⊢
  have HB2 := Lib.hid (hW2.at (g := g2) (cs := icells tI) (t := 68) (by simp))
  have HW3 := Lib.hid (hW2.add ((Below.refl _ _).alloc (Nat.le_refl _) (.cells (trI tl2).toArray 76)) (Nat.le_refl _) (Blk.new W2 (trI tl2) 76))
  have hset := fr_tset HW3.out zeroP zeroP_ok tl2 tl2_ok (v := .slice (some ⟨W2.heap.size, 0, none⟩) 2 2) (lb := [(W2.heap.size, trI tl2, 76)]) (by simp [tl2]) ⟨by kernel_rfl, .inr ⟨W2.heap.size, 2, trI tl2, rfl, rfl, by simp [tl2], by unfold maxLen; simp, by kernel_rfl, by kernel_rfl⟩⟩ (fun y hy => by simp at hy; subst hy; simp) lim0 (by omega) (fun b hb => by simp [sh0] at hb)
  rw [tw1] at hset
  have HSET := Lib.hid hset
  clear hW2 hg2 HF1 hset HW3
  go_wp2_with (first | (refine wpL_val rfl (ex_bld0 rfl) ?_) | (refine wpL_val rfl (ex_ldIn tI_ok HB2.out rfl rfl) ?_) | (refine wpL_val rfl (ex_bldTm (f := 1) tI_ok rfl rfl rfl) ?_) | (refine wpL_val rfl (ex_bldTm (f := 5) tI_ok rfl rfl rfl) ?_) | (refine wpL_val rfl (ex_twoTm rfl rfl rfl) ?_) | fail)
  refine HSET.out.mono ?_
  rintro e W4 ⟨rfl, hf4, -, -⟩
  have HF4 := Lib.hid hf4
  obtain ⟨gs, hgs⟩ : ∃ g, W2.heap.size = g := ⟨_, rfl⟩
  rw [hgs] at HF4 ⊢
  clear hf4 HSET HB2 hgs
  go_upto_region 4 with (first | (refine wpList_store_row rfl 28 (.tmp 3) (.tmp 25) rfl W4.heap.size (pcells tqR).toArray rfl rfl 28 _ (heap_alloc_new W4 _) HSR.out (by rw [HLR.out]; rfl) (one_pc tqR) ?_) | fail)
  refine (fun (k : ∀ W, Fr w D tS [(W4.heap.size, pcells tqR, 28), (gs, trI tl2, 76), (g2, icells tI, 68)] W → Code.wp _ _ _ _ W) => k _ (HF4.out.add (blk_row1 W4 _ (pcells tqR) 28).2 (Nat.le_refl _) (blk_row1 W4 _ (pcells tqR) 28).1)) ?_
  intro W5 hW5
  obtain ⟨g3, hg3⟩ : ∃ g, W4.heap.size = g := ⟨_, rfl⟩
  rw [hg3] at hW5 ⊢
  have HF5 := Lib.hid hW5.drew
  clear hg3 HF4
  obtain ⟨L5, v5, h5, -⟩ := HF5.out.call
  obtain ⟨gm, capm, em, hcm, hrm⟩ := own_rng h5.md.1 h5.okm (by show 0 < 4; omega)
  have c2 := h5.blk.cell (j := 2) rfl
  rw [em] at c2
  have HR0 := Lib.hid (hrm 0 tq0 rfl)
  have HR3 := Lib.hid (hrm 3 tqR rfl)
  have HB3 := Lib.hid (HF5.out.at (g := g3) (cs := pcells tqR) (t := 28) (by simp))
  have HC2 : Hid (W5.drew.cell? ⟨D, 2, none⟩ = some (.slice (some ⟨gm, 0, none⟩) 4 capm)) := Lib.hid c2
  have HCM : Hid (4 ≤ capm) := Lib.hid hcm
  clear h5 em hcm hrm c2 hW5
  refine gS (.take 0 (.take 1 (.take 2 (.take 3 (.take 4 (.take 5 (.take 6 (.take 7 (.take 8 (.take 9 (.take 10 (.take 11 (.take 12 (.take 13 (.take 14 (.take 15 (.take 16 (.take 17 (.take 18 (.take 19 (.take 20 (.take 21 (.take 22 (.take 23 (.take 24 (.take 25 (.take 26 (.take 27 (.take 28 (.take 29 (.nil))))))))))))))))))))))))))))))) (fun X => X = W5.drew) (rfl) ?_
  refine gT (.int .i64 0) ?_; try simp only [pS]
  refine gT (.bool false) ?_; try simp only [pS]
  refine gT (.bool false) ?_; try simp only [pS]
  refine gT (.pointer (some ⟨D, 0, none⟩)) ?_; try simp only [pS]
  refine gT (.pointer (some ⟨D, 0, none⟩)) ?_; try simp only [pS]
  refine gT (.pointer (some ⟨D, 2, none⟩)) ?_; try simp only [pS]
  refine wpG_take _ (.slice (some ⟨gm, 0, none⟩) 4 capm) rfl (by rfl) (fun X hX => by subst hX; exact ex_ldPs rfl rfl HC2.out) ?_; try simp only [pS]
  refine gT (.int .i64 4) ?_; try simp only [pS]
  refine gT (.bool false) ?_; try simp only [pS]
  refine gT (.bool false) ?_; try simp only [pS]
  refine gT (.bool false) ?_; try simp only [pS]
  refine gT (.pointer (some ⟨D, 0, none⟩)) ?_; try simp only [pS]
  refine gT (.pointer (some ⟨D, 0, none⟩)) ?_; try simp only [pS]
  refine gT (.pointer (some ⟨D, 2, none⟩)) ?_; try simp only [pS]
  refine wpG_take _ (.slice (some ⟨gm, 0, none⟩) 4 capm) rfl (by rfl) (fun X hX => by subst hX; exact ex_ldPs rfl rfl HC2.out) ?_; try simp only [pS]
  refine wpG_take _ (.pointer (some ⟨gm, 0, none⟩)) rfl (by rfl) (fun X hX => q_iaP (k := 0) rfl rfl rfl ⟨by omega, HCM.out⟩) ?_; try simp only [pS]
  refine gT (.pointer (some ⟨gm, 0, none⟩)) ?_; try simp only [pS]
  refine wpG_take _ (.int .u8 4) rfl (by rfl) (fun X hX => by subst hX; exact ex_ld1 Tryz.underlying5 rfl rfl (HR0.out 0 _ rfl)) ?_; try simp only [pS]
  refine gT (.bool false) ?_; try simp only [pS]
  refine gT (.bool false) ?_; try simp only [pS]
  refine gT (.bool false) ?_; try simp only [pS]
  refine gT (.pointer (some ⟨D, 0, none⟩)) ?_; try simp only [pS]
  refine gT (.pointer (some ⟨D, 0, none⟩)) ?_; try simp only [pS]
  refine gT (.pointer (some ⟨D, 2, none⟩)) ?_; try simp only [pS]
  refine wpG_take _ (.slice (some ⟨gm, 0, none⟩) 4 capm) rfl (by rfl) (fun X hX => by subst hX; exact ex_ldPs rfl rfl HC2.out) ?_; try simp only [pS]
  refine wpG_take _ (.pointer (some ⟨gm, 123, none⟩)) rfl (by rfl) (fun X hX => q_iaP (k := 3) rfl rfl rfl ⟨by omega, HCM.out⟩) ?_; try simp only [pS]
  refine wpG_take _ (.agg (pcells tqR).toArray) rfl (by rfl) (fun X hX => by subst hX; exact ex_ld (ty := 28) (cs := pcells tqR) rfl rfl HR3.out Tryz.underlying28 rfl (by rw [sizeP, pcells_length tqR_ok])) ?_; try simp only [pS]
  refine wpG_take _ (.agg (pcells tqR).toArray) rfl (by rfl) (fun X hX => by subst hX; exact ex_ldP tqR_ok HB3.out rfl rfl) ?_; try simp only [pS]
  refine wpG_take _ (.bool false) rfl (by rfl) (fun X hX => (ex_neP (w := X) rfl rfl rfl tqR_ok tqR_ok).trans (by rw [eqP_same]; rfl)) ?_; try simp only [pS]
  refine gT (.bool false) ?_; try simp only [pS]
  refine wpG_nil ?_
  clear HR0 HR3 HB3 HC2 HCM
  obtain ⟨W6, hW6⟩ : ∃ W, W5.drew = W := ⟨_, rfl⟩
  rw [hW6] at HF5 ⊢
  clear hW6
  have HB3 := Lib.hid (HF5.out.at (g := g3) (cs := pcells tqR) (t := 28) (by simp))
  obtain ⟨hg1, rs1, hm1⟩ := HTAB.out.get (num := 5) rfl
  have hget := fr_tget HF5.out tqR tqR_ok 5 (by omega) limT (by omega) bokT
  obtain ⟨a1, a2⟩ : gtE tS tqR 5 = 0 ∧ gtN tS tqR 5 = tI := by
    rcases hg1 with ⟨b1, b2⟩ | ⟨_, _, b3⟩
    · rw [tw4] at b2
      exact ⟨b1, by injection b2⟩
    · exact absurd rfl b3
  rw [a1, a2] at hget
  obtain ⟨s7, hs7⟩ : ∃ s7, gtS tS tqR 5 = s7 := ⟨_, rfl⟩
  rw [hs7] at hget hm1
  have HM7 := Lib.hid hm1.bl
  have HGET := Lib.hid hget
  clear hget a1 a2 hg1 hm1 hs7
  go_wp2_with (first | (refine wpL_val rfl (ex_ldP tqR_ok HB3.out rfl rfl) ?_) | fail)
  refine HGET.out.mono ?_
  rintro e W7 ⟨rfl, hf7, hl7⟩
  have HF7 := Lib.hid hf7; have HL7 := Lib.hid hl7
  clear hf7 hl7 HGET HF5 HB3
  go_upto_region 7 with (first | (refine wpList_store_row rfl 68 (.tmp 5) (.tmp 62) rfl W7.heap.size (icells tI).toArray rfl rfl 68 _ (heap_alloc_new W7 _) HSI.out (by rw [HLI.out]; rfl) (one_ic tI) ?_) | fail)
  refine (fun (k : ∀ W, Fr w D s7 [(W7.heap.size, icells tI, 68), (g3, pcells tqR, 28), (gs, trI tl2, 76), (g2, icells tI, 68)] W → Code.wp _ _ _ _ W) => k _ (HF7.out.add (blk_row1 W7 _ (icells tI) 68).2 (Nat.le_refl _) (blk_row1 W7 _ (icells tI) 68).1)) ?_
  intro W8 hW8
  obtain ⟨g5, hg5⟩ : ∃ g, W7.heap.size = g := ⟨_, rfl⟩
  rw [hg5] at hW8 ⊢
  have HF8 := Lib.hid hW8
  have HB3 := Lib.hid (hW8.at (g := g3) (cs := pcells tqR) (t := 28) (by simp))
  have HT7 : Hid (IsTab s7.blocks tqR tV th tm) := Lib.hid (by rw [HM7.out.1]; exact HTAB.out)
  have HBK7 : Hid (BlkOK s7) := Lib.hid (bokT.same HM7.out)
  obtain ⟨hg1, rs1, hm1⟩ := HT7.out.get (num := 2) rfl
  have hget := fr_tget hW8 tqR tqR_ok 2 (by omega) HL7.out (by omega) HBK7.out
  obtain ⟨a1, a2⟩ : gtE s7 tqR 2 = 0 ∧ gtN s7 tqR 2 = zeroI := by
    rcases hg1 with ⟨b1, b2⟩ | ⟨_, _, b3⟩
    · rw [tw5] at b2
      exact ⟨b1, by injection b2⟩
    · exact absurd HM7.out.2 b3
  rw [a1, a2] at hget
  obtain ⟨s9, hs9⟩ : ∃ s9, gtS s7 tqR 2 = s9 := ⟨_, rfl⟩
  rw [hs9] at hget hm1
  have HM9 := Lib.hid hm1.bl
  have HGET := Lib.hid hget
  clear hg5 hW8 HF7 HL7 hget a1 a2 hg1 hm1 hs9
  go_wp2_with (first | (refine wpL_val rfl (ex_ldP tqR_ok HB3.out rfl rfl) ?_) | fail)
  refine HGET.out.mono ?_
  rintro e W9 ⟨rfl, hf9, hl9⟩
  have HF9 := Lib.hid hf9; have HL9 := Lib.hid hl9
  clear hf9 hl9 HGET HF8 HB3
  go_upto_region 8 with (first | (refine wpList_store_row rfl 68 (.tmp 7) (.tmp 69) rfl W9.heap.size (icells zeroI).toArray rfl rfl 68 _ (heap_alloc_new W9 _) HSZ.out (by rw [HLZ.out]; rfl) (one_ic zeroI) ?_) | fail)
  refine (fun (k : ∀ W, Fr w D s9 [(W9.heap.size, icells zeroI, 68), (g5, icells tI, 68), (g3, pcells tqR, 28), (gs, trI tl2, 76), (g2, icells tI, 68)] W → Code.wp _ _ _ _ W) => k _ (HF9.out.add (blk_row1 W9 _ (icells zeroI) 68).2 (Nat.le_refl _) (blk_row1 W9 _ (icells zeroI) 68).1)) ?_
  intro WA hWA
  obtain ⟨g7, hg7⟩ : ∃ g, W9.heap.size = g := ⟨_, rfl⟩
  rw [hg7] at hWA ⊢
  have HB3 := Lib.hid (hWA.at (g := g3) (cs := pcells tqR) (t := 28) (by simp))
  have HT9 : Hid (IsTab s9.blocks tqR tV th tm) := Lib.hid (by rw [HM9.out.1]; exact HT7.out)
  have hall := fr_tall hWA HT9.out (HM9.out.2.trans HM7.out.2) HL9.out (by omega) (HBK7.out.same HM9.out)
  rw [tw6, HT9.out.blocks, tw7] at hall
  have HALL := Lib.hid hall
  clear hg7 hWA HF9 HL9 hall
  go_wp2_with (first | (refine wpL_val rfl (ex_ldP tqR_ok HB3.out rfl rfl) ?_) | fail)
  refine HALL.out.mono ?_
  rintro e WB ⟨ov, nv, ob, nb, rs, sB, rfl, -, hfB, -, hrO, hrN, -⟩
  obtain ⟨spn, capn, hnv⟩ : ∃ sp cap, nv = .slice sp 4 cap := by
    rcases hrN.2 with ⟨_, e, _⟩ | ⟨g, cap, cs, e, _⟩
    · omega
    · exact ⟨_, _, e⟩
  obtain ⟨go, capo, e1, hco, hat⟩ := OwnT.at (l := tl2) (hfB.row hrO (fun y hy => List.mem_append.2 (.inl hy))) tl2_ok (by simp [tl2])
  have e1 : ov = .slice (some ⟨go, 0, none⟩) 2 capo := e1
  subst hnv e1
  have HIT := Lib.hid (hat 1 (5, tI) rfl)
  have HCO : Hid (2 ≤ capo) := Lib.hid hco
  have HFB := Lib.hid hfB
  clear HALL HB3 hrO hrN hco hat hfB
  go_upto_region 9 with fail
  obtain ⟨WE, hWE⟩ : ∃ W, WB = W := ⟨_, rfl⟩
  rw [hWE] at HIT HFB ⊢
  have HB2 : Hid (Blk WE.drew g2 (icells tI) 68) := Lib.hid (HFB.out.drew.at (by simp))
  have HB5 : Hid (Blk WE.drew g5 (icells tI) 68) := Lib.hid (HFB.out.drew.at (by simp))
  have HB7 : Hid (Blk WE.drew g7 (icells zeroI) 68) := Lib.hid (HFB.out.drew.at (by simp))
  have HE := Lib.hid (HP.out _ HFB.out.drew.bel)
  clear hWE HP
  refine gS (.take 0 (.take 1 (.take 2 (.take 3 (.take 4 (.take 5 (.take 6 (.take 7 (.take 8 (.take 9 (.take 10 (.take 11 (.take 12 (.take 13 (.take 14 (.take 15 (.take 16 (.take 17 (.take 18 (.take 19 (.take 20 (.take 21 (.take 22 (.take 23 (.take 24 (.take 25 (.take 26 (.take 27 (.take 28 (.take 29 (.take 30 (.take 31 (.take 32 (.take 33 (.take 34 (.take 35 (.take 36 (.take 37 (.take 38 (.nil)))))))))))))))))))))))))))))))))))))))) (fun X => X = WE.drew) (rfl) ?_
  refine gT (.int .i64 0) ?_; try simp only [pS]
  refine gT (.bool true) ?_; try simp only [pS]
  refine gT (.bool true) ?_; try simp only [pS]
  refine wpG_take _ (.agg (icells tI).toArray) rfl (by rfl) (fun X hX => by subst hX; exact ex_ldIn tI_ok HB5.out rfl rfl) ?_; try simp only [pS]
  refine wpG_take _ (.agg (icells tI).toArray) rfl (by rfl) (fun X hX => by subst hX; exact ex_ldIn tI_ok HB2.out rfl rfl) ?_; try simp only [pS]
  refine wpG_take _ (.bool true) rfl (by rfl) (fun X hX => (ex_eqIn (w := X) tI_ok tI_ok rfl rfl rfl).trans (by rw [eqI_same])) ?_; try simp only [pS]
  refine gT (.bool true) ?_; try simp only [pS]
  refine gT (.bool true) ?_; try simp only [pS]
  refine gT (.int .i64 0) ?_; try simp only [pS]
  refine gT (.bool true) ?_; try simp only [pS]
  refine gT (.bool true) ?_; try simp only [pS]
  refine gT (.bool true) ?_; try simp only [pS]
  refine wpG_take _ (.agg (icells zeroI).toArray) rfl (by rfl) (fun X hX => by subst hX; exact ex_ldIn zeroI_ok HB7.out rfl rfl) ?_; try simp only [pS]
  refine wpG_take _ (.agg (icells zeroI).toArray) rfl (by rfl) (fun X hX => ex_bldI0 rfl) ?_; try simp only [pS]
  refine wpG_take _ (.bool true) rfl (by rfl) (fun X hX => (ex_eqIn (w := X) zeroI_ok zeroI_ok rfl rfl rfl).trans (by rw [eqI_same])) ?_; try simp only [pS]
  refine gT (.bool true) ?_; try simp only [pS]
  refine gT (.bool true) ?_; try simp only [pS]
  refine gT (.int .i64 0) ?_; try simp only [pS]
  refine gT (.bool true) ?_; try simp only [pS]
  refine gT (.bool true) ?_; try simp only [pS]
  refine gT (.bool true) ?_; try simp only [pS]
  refine gT (.slice (some ⟨go, 0, none⟩) 2 capo) ?_; try simp only [pS]
  refine gT (.int .i64 2) ?_; try simp only [pS]
  refine gT (.bool true) ?_; try simp only [pS]
  refine gT (.bool true) ?_; try simp only [pS]
  refine gT (.bool true) ?_; try simp only [pS]
  refine gT (.slice (some ⟨go, 0, none⟩) 2 capo) ?_; try simp only [pS]
  refine wpG_take _ (.pointer (some ⟨go, 45, none⟩)) rfl (by rfl) (fun X hX => ex_iaTm (k := 1) rfl rfl rfl ⟨by omega, HCO.out⟩) ?_; try simp only [pS]
  refine wpG_take _ (.agg (tcI (5, tI)).toArray) rfl (by rfl) (fun X hX => by subst hX; exact ex_ld (ty := 76) (cs := tcI (5, tI)) rfl rfl HIT.out Tryz.underlying76 rfl (by rw [sizeTm, tcI_length tI_ok])) ?_; try simp only [pS]
  refine wpG_take _ (.agg (icells tI).toArray) rfl (by rfl) (fun X hX => by subst hX; exact ex_ldIn tI_ok HB2.out rfl rfl) ?_; try simp only [pS]
  refine wpG_take _ (.agg (tcI (5, tI)).toArray) rfl (by rfl) (fun X hX => ex_bldTm (f := 5) tI_ok rfl rfl rfl) ?_; try simp only [pS]
  refine wpG_take _ (.bool true) rfl (by rfl) (fun X hX => (ex_eqTm (w := X) (x := (5, tI)) (y := (5, tI)) tI_ok tI_ok rfl rfl rfl).trans (by rw [eqI_same]; rfl)) ?_; try simp only [pS]
  refine gT (.bool true) ?_; try simp only [pS]
  refine gT (.bool true) ?_; try simp only [pS]
  refine gT (.slice spn 4 capn) ?_; try simp only [pS]
  refine gT (.int .i64 4) ?_; try simp only [pS]
  refine gT (.bool true) ?_; try simp only [pS]
  refine gT (.bool true) ?_; try simp only [pS]
  refine gT (.bool true) ?_; try simp only [pS]
  refine wpG_nil ?_
  go_wp2_with fail
  first | exact HE.out | (go_ret; exact HE.out)
end Go.Proofs.YtjgjohdeeeoeoaaGreatDoor
