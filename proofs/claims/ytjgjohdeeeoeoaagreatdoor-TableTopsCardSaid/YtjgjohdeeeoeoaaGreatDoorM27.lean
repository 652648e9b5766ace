/- The document's own reader: noughts, the end. -/
import Derived.Test.YtjgjohdeeeoeoaaGreatDoorM24
import Derived.RegionTactic
import Derived.Test.YtjgjohdeeeoeoaaGreatDoorM20
import Derived.Test.YtjgjohdeeeoeoaaGreatDoorM03
import Derived.Test.YtjgjohdeeeoeoaaGreatDoorM11
import Derived.Test.YtjgjohdeeeoeoaaGreatDoorM26
import Derived.Test.YtjgjohdeeeoeoaaGreatDoorM06
import Derived.Test.YtjgjohdeeeoeoaaGreatDoorM05
import Derived.ChangeKeysEq
namespace Go.Proofs.YtjgjohdeeeoeoaaGreatDoor
open Go.RowKit
theorem takeE_fine {l : Bs} (h : 64 ≤ l.length) : takeE l 0 = if quietP (l.take 64) && fineP (pt l) then 0 else 5 := by
  unfold takeE fineP
  rw [if_neg (by omega), if_neg (by omega)]
theorem piece_at : ∀ {ns : List Pt}, (∀ p ∈ ns, p.OK) → ∀ {j : Nat} {p : Pt}, ns[j]? = some p → ((nodeB ns).drop (64 * j)).take 64 = padB p
  | [], _, j, p, h => by simp at h
  | q :: ns, hok, j, p, h => by
    have hq := padB_length (hok q (by simp))
    have e : nodeB (q :: ns) = padB q ++ nodeB ns := by simp [nodeB]
    match j, h with
    | 0, h =>
      simp only [List.getElem?_cons_zero, Option.some.injEq] at h
      subst h
      rw [e, Nat.mul_zero, List.drop_zero, List.take_left' hq]
    | j + 1, h =>
      simp only [List.getElem?_cons_succ] at h
      rw [e, show 64 * (j + 1) = 64 + 64 * j by omega, ← List.drop_drop, List.drop_left' hq]
      exact piece_at (ns := ns) (fun p hp => hok p (by simp [hp])) h
theorem put_back {ns : List Pt} (h : NOK ns) (hp : putOk ns = true) : nodeE (nodeB ns) = 0 ∧ nodeT (nodeB ns) = ns := by
  have hl : (nodeB ns).length = 512 := by rw [nodeB_length h.ok, h.len]
  have hpt : ∀ {j p}, ns[j]? = some p → pt ((nodeB ns).drop (64 * j)) = p := fun {j p} hj => by
    rw [← pt_take, piece_at h.ok hj]
    exact (pt_padB (h.at hj)).1
  have hs : ∀ k, k ≤ 8 → stE (nodeB ns) k = 0 := by
    intro k
    induction k with
    | zero => intro _; rfl
    | succ k ih =>
      intro hk
      obtain ⟨p, hp'⟩ := h.get (show k < 8 by omega)
      show takeE _ _ = 0
      rw [ih (by omega), takeE_fine (by rw [List.length_drop, hl]; omega), hpt hp', piece_at h.ok hp', (pt_padB (h.at hp')).2, List.all_eq_true.1 hp p (List.mem_of_getElem? hp')]
      rfl
  have h0 : nodeE (nodeB ns) = 0 := by unfold nodeE; rw [if_pos hl]; exact hs 8 (Nat.le_refl _)
  refine ⟨h0, ?_⟩
  unfold nodeT
  rw [if_pos h0]
  apply List.ext_getElem?
  intro j
  by_cases hj : j < 8
  · obtain ⟨p, hp'⟩ := h.get hj
    rw [hp']
    simp [nodeP, hj, hpt hp']
  · rw [List.getElem?_eq_none (by simp [nodeP]; omega), List.getElem?_eq_none (by rw [h.len]; omega)]
theorem rn_of {s : Sh} {q : Pt} {ns : List Pt} (hz : eqP q zeroP = false) (hb : s.bad.any (fun x => x == at0 q) = false) {k : Nat} (hk : at0 q = k + 1) (hg : s.blocks[k]? = some (nodeB ns)) (hn : NOK ns) (hp : putOk ns = true) : rnE s q = 0 ∧ rnN s q = ns ∧ rnS s q = rdS s q := by
  have hlt := (List.getElem?_eq_some_iff.1 hg).1
  have hE : rdE s q = 0 := by unfold rdE; rw [if_neg (by rw [hb]; decide), if_neg (by omega)]
  have hB : rdB s q = nodeB ns := by
    unfold rdB
    rw [if_neg (by rw [hb]; decide), if_neg (by omega), hk, Nat.add_sub_cancel, List.getD_eq_getElem?_getD, hg]
    rfl
  obtain ⟨e1, e2⟩ := put_back hn hp
  refine ⟨?_, ?_, ?_⟩
  · unfold rnE; rw [if_neg (by rw [hz]; decide), hE, hB, e1, if_neg (by simp), if_neg (by simp)]
  · unfold rnN; rw [if_neg (by rw [hz]; decide), hE, if_neg (by simp), hB, e2]
  · unfold rnS; rw [if_neg (by rw [hz]; decide)]
def kp9 : Pt := leafP 1 9
def kn1 : List Pt := holes.set 1 kp9
def kB1 : Bs := nodeB kn1
def kq1 : Pt := newP (tagP 1 9 1) 1 kB1
def kn2 : List Pt := holes.set 1 kq1
def kB2 : Bs := nodeB kn2
def kq2 : Pt := newP (tagP 2 9 0) 2 kB2
def ks (gone read0 : List Pt) : Sh := ⟨[kB1, kB2], [], [kq1, kq2], gone, -1, read0⟩
theorem kp9_ok : kp9.OK := leafP_ok (by omega) (by omega)
theorem kn1_ok : NOK kn1 := holes_ok.set 1 kp9_ok
theorem kq1_ok : kq1.OK := newP_ok (tagP_ok (by omega) (by omega) (by omega)) (by omega) _
theorem kn2_ok : NOK kn2 := holes_ok.set 1 kq1_ok
theorem kput1 : putOk kn1 = true := by kernel_rfl
theorem kput2 : putOk kn2 = true := by kernel_rfl
theorem kz1 : eqP kq1 zeroP = false := by kernel_rfl
theorem kz2 : eqP kq2 zeroP = false := by kernel_rfl
theorem wk1 : setR sh0 zeroP 9 [(9, kp9)] = ⟨kq2, 0, ks [] []⟩ := by kernel_rfl
theorem krn2 (gone rd : List Pt) : rnE (ks gone rd) kq2 = 0 ∧ rnN (ks gone rd) kq2 = kn2 ∧ rnS (ks gone rd) kq2 = ks gone (rd ++ [kq2]) := rn_of kz2 rfl (k := 1) rfl rfl kn2_ok kput2
theorem krn1 (gone rd : List Pt) : rnE (ks gone rd) kq1 = 0 ∧ rnN (ks gone rd) kq1 = kn1 ∧ rnS (ks gone rd) kq1 = ks gone (rd ++ [kq1]) := rn_of kz1 rfl (k := 0) rfl rfl kn1_ok kput1
theorem kref2 : refE kq2 = 0 := by kernel_rfl
theorem kb1 (fr tt : Nat) (gone rd ns : List Pt) (ls : List Lf) (first : Nat) : belowP fr tt 1 (ks gone rd) ns ls kq1 first = goB (belowP fr tt 0) 1 first fr tt kn1 0 (ks gone (rd ++ [kq1])) (ns ++ [kq1]) ls := by
  obtain ⟨e1, e2, e3⟩ := krn1 gone rd
  rw [belowP_succ, if_neg (by rw [kz1]; decide), if_neg (by rw [e1]; simp), e2, e3]
theorem kgo (fr tt : Nat) (f : Sh → List Pt → List Lf → Pt → Nat → Bw) (h0 : ∀ s ns ls at_, f s ns ls zeroP at_ = ⟨0, s, ns, ls⟩) (wide first : Nat) (q : Pt) (s : Sh) (ns : List Pt) (ls : List Lf) : goB f wide first fr tt (holes.set 1 q) 0 s ns ls = if first + 1 * wide + wide ≤ fr ∨ tt ≤ first + 1 * wide then ⟨0, s, ns, ls⟩ else f s ns ls q (first + 1 * wide) := by
  have hz : ∀ n i s ns ls, goB f wide first fr tt (List.replicate n zeroP) i s ns ls = ⟨0, s, ns, ls⟩ := by
    intro n
    induction n with
    | zero => intro i s ns ls; rfl
    | succ n ih =>
      intro i s ns ls
      rw [List.replicate_succ]
      by_cases hc : first + i * wide + wide ≤ fr ∨ tt ≤ first + i * wide
      · rw [goB_skip hc, ih]
      · rw [goB_ok hc (by rw [h0]), h0, ih]
  have e : holes.set 1 q = zeroP :: q :: List.replicate 6 zeroP := rfl
  rw [e]
  have first0 : ∀ l, goB f wide first fr tt (zeroP :: l) 0 s ns ls = goB f wide first fr tt l 1 s ns ls := fun l => by
    by_cases hc : first + 0 * wide + wide ≤ fr ∨ tt ≤ first + 0 * wide
    · rw [goB_skip hc]
    · rw [goB_ok hc (by rw [h0]), h0]
  rw [first0]
  by_cases hc : first + 1 * wide + wide ≤ fr ∨ tt ≤ first + 1 * wide
  · rw [goB_skip hc, if_pos hc, hz]
  · rw [if_neg hc]
    by_cases he : (f s ns ls q (first + 1 * wide)).e = 0
    · rw [goB_ok hc he, hz]
      cases hq : f s ns ls q (first + 1 * wide) with
      | mk e s ns ls => rw [hq] at he; simp at he; subst he; rfl
    · rw [goB_err hc he]
theorem bz (fr tt n : Nat) (s : Sh) (ns : List Pt) (ls : List Lf) (at_ : Nat) : belowP fr tt n s ns ls zeroP at_ = ⟨0, s, ns, ls⟩ := by
  cases n with
  | zero => unfold belowP; rw [if_pos (by kernel_rfl)]
  | succ n => rw [belowP_succ, if_pos (by kernel_rfl)]
theorem kget (off : Nat) (gone rd : List Pt) : getR (ks gone rd) kq2 off = if 16 ≤ off ∨ off + 1 ≤ 8 then ⟨0, ks gone (rd ++ [kq2]), [kq2], []⟩ else if 10 ≤ off ∨ off + 1 ≤ 9 then ⟨0, ks gone (rd ++ [kq2] ++ [kq1]), [kq2, kq1], []⟩ else ⟨0, ks gone (rd ++ [kq2] ++ [kq1]), [kq2, kq1], [(9, kp9)]⟩ := by
  obtain ⟨e1, e2, e3⟩ := krn2 gone rd
  unfold getR
  rw [belowP_succ, if_neg (by rw [kz2]; decide), if_neg (by rw [e1]; simp), e2, e3]
  unfold kn2
  rw [kgo _ _ _ (bz off (off + 1) 1)]
  show (if 16 ≤ off ∨ off + 1 ≤ 8 then _ else _) = _
  by_cases h1 : 16 ≤ off ∨ off + 1 ≤ 8
  · rw [if_pos h1, if_pos h1]; rfl
  · rw [if_neg h1, if_neg h1, kb1]
    unfold kn1
    rw [kgo _ _ _ (bz off (off + 1) 0)]
    show (if 10 ≤ off ∨ off + 1 ≤ 9 then _ else _) = _
    by_cases h2 : 10 ≤ off ∨ off + 1 ≤ 9
    · rw [if_pos h2, if_pos h2]; rfl
    · rw [if_neg h2, if_neg h2]; rfl
theorem wk2 (gone rd : List Pt) : getE (ks gone rd) kq2 9 = 0 ∧ getP (ks gone rd) kq2 9 = kp9 ∧ getS (ks gone rd) kq2 9 = ks gone (rd ++ [kq2] ++ [kq1]) := by
  have h := kget 9 gone rd
  rw [if_neg (by omega), if_neg (by omega)] at h
  refine ⟨?_, ?_, ?_⟩
  · unfold getE; rw [kref2, if_neg (by simp), if_neg (by omega), h]
  · unfold getP; rw [kref2, h, if_neg (by simp)]; rfl
  · unfold getS; rw [kref2, h, if_neg (by simp)]
end Go.Proofs.YtjgjohdeeeoeoaaGreatDoor
namespace Go.Proofs.YtjgjohdeeeoeoaaGreatDoor
open Go.RowKit
attribute [local go_sem] Oper.semAt_some
theorem lim0 : Lim 0 sh0 := ⟨Nat.le_refl _, Nat.le_refl _, Nat.le_refl _, by omega, by simp [sh0], by simp [sh0], by simp [sh0]⟩
theorem own_rng {X : World} {v : Value} {l : List Pt} (h : OwnM X 0 v l) (hok : ∀ q ∈ l, q.OK) (h0 : 0 < l.length) : ∃ g cap, v = .slice (some ⟨g, 0, none⟩) l.length cap ∧ l.length ≤ cap ∧ ∀ i q, l[i]? = some q → X.rangeAt g (i * 41) (pcells q) := by
  obtain ⟨sp, cap, e, h1, _, _, h3⟩ := h.src hok
  obtain ⟨g, e2, _, h4⟩ := h3 h0
  exact ⟨g, cap, by rw [e, e2], h1, h4⟩
end Go.Proofs.YtjgjohdeeeoeoaaGreatDoor
namespace Go.Proofs.YtjgjohdeeeoeoaaGreatDoor
open Go.RowKit
structure Ino where
  kind : Nat
  links : Nat
  size : Nat
  root : Pt
structure Ino.OK (n : Ino) : Prop where
  kind : n.kind < 256
  links : n.links < 65536
  size : n.size < 4294967296
  root : n.root.OK
def inums (n : Ino) : List Value := [.int .u8 (n.kind : Int), .int .u16 (n.links : Int), .int .u32 (n.size : Int)]
def icells (n : Ino) : List Value := inums n ++ pcells n.root
theorem icells_length {n : Ino} (h : n.OK) : (icells n).length = 44 := by simp [icells, inums, pcells_length h.root]
def zeroI : Ino := ⟨0, 0, 0, zeroP⟩
theorem zeroI_ok : zeroI.OK := ⟨by simp [zeroI], by simp [zeroI], by simp [zeroI], zeroP_ok⟩
def eqI (a b : Ino) : Bool := decide (a.kind = b.kind) && decide (a.links = b.links) && decide (a.size = b.size) && eqP a.root b.root
theorem eqI_iff {a b : Ino} : eqI a b = true ↔ a = b := by
  obtain ⟨k, l, s, r⟩ := a
  obtain ⟨k', l', s', r'⟩ := b
  simp only [eqI, Bool.and_eq_true, decide_eq_true_eq, eqP_iff, Ino.mk.injEq, and_assoc]
theorem eqI_same (a : Ino) : eqI a a = true := eqI_iff.2 rfl
instance decIno : DecidableEq Ino := fun _ _ => decidable_of_iff _ eqI_iff
def rootI (p : Pt) : Bool := eqP p zeroP || (decide (p.kind = 3) && decide (p.level = 2) && mayP p)
def mayI (n : Ino) : Bool := eqI n zeroI || (decide (1 ≤ n.kind ∧ n.kind ≤ 3) && decide (n.size ≤ 32768) && decide (n.kind = 3 → 1 ≤ n.size ∧ n.size ≤ 128) && rootI n.root)
theorem mayI_zero : mayI zeroI = true := by unfold mayI; rw [eqI_same]; rfl
def inoB (n : Ino) : Bs := leb n.kind 1 ++ ([0#8] ++ (leb n.links 2 ++ (leb n.size 4 ++ (padB n.root ++ List.replicate 56 0#8))))
theorem inoB_length {n : Ino} (h : n.OK) : (inoB n).length = 128 := by simp [inoB, leb_length, padB_length h.root]
def ino (l : Bs) : Ino := ⟨val (l.take 1), val ((l.drop 2).take 2), val ((l.drop 4).take 4), pt (l.drop 8)⟩
theorem ino_ok {l : Bs} (h : 72 ≤ l.length) : (ino l).OK := ⟨val_take_lt _ 1, val_take_lt _ 2, val_take_lt _ 4, pt_ok (by rw [List.length_drop]; omega)⟩
def quietI (l : Bs) : Bool := ((l.drop 1).take 1).all (· == 0#8) && quietP ((l.drop 8).take 64) && ((l.drop 72).take 56).all (· == 0#8)
theorem ino_back {n : Ino} (h : n.OK) (r : Bs) : ino (inoB n ++ r) = n ∧ quietI (inoB n ++ r) = true := by
  have e : inoB n ++ r = leb n.kind 1 ++ ([0#8] ++ (leb n.links 2 ++ (leb n.size 4 ++ (padB n.root ++ (List.replicate 56 0#8 ++ r))))) := by simp [inoB]
  have v : ∀ n m, n < 2 ^ (8 * m) → val (leb n m) = n := fun n m hn => by rw [val_leb]; exact Nat.mod_eq_of_lt hn
  have L : ∀ n m, (leb n m).length = m := leb_length
  have LP := padB_length h.root
  have d1 : (inoB n ++ r).drop 1 = [0#8] ++ (leb n.links 2 ++ (leb n.size 4 ++ (padB n.root ++ (List.replicate 56 0#8 ++ r)))) := by rw [e, List.drop_left' (L _ _)]
  have d2 : (inoB n ++ r).drop 2 = leb n.links 2 ++ (leb n.size 4 ++ (padB n.root ++ (List.replicate 56 0#8 ++ r))) := drop_step (n := 1) (m := 1) d1 rfl
  have d4 : (inoB n ++ r).drop 4 = leb n.size 4 ++ (padB n.root ++ (List.replicate 56 0#8 ++ r)) := drop_step (n := 2) (m := 2) d2 (L _ _)
  have d8 : (inoB n ++ r).drop 8 = padB n.root ++ (List.replicate 56 0#8 ++ r) := drop_step (n := 4) (m := 4) d4 (L _ _)
  have d72 : (inoB n ++ r).drop 72 = List.replicate 56 0#8 ++ r := drop_step (n := 8) (m := 64) d8 LP
  constructor
  · unfold ino
    rw [d2, d4, ← pt_takeQ ((inoB n ++ r).drop 8), d8, e]
    simp only [List.take_left' (L _ _), List.take_left' LP]
    rw [v _ 1 h.kind, v _ 2 h.links, v _ 4 h.size, (pt_padB h.root).1]
  · unfold quietI
    rw [d1, d8, d72, List.take_left' LP, (pt_padB h.root).2, List.take_left' (by simp), List.take_left' (by simp)]
    rfl
def bcells (ns : List Ino) : List Value := ns.flatMap icells
structure BOK (ns : List Ino) : Prop where
  len : ns.length = 4
  ok : ∀ n ∈ ns, n.OK
theorem bcells_length : ∀ {ns : List Ino}, (∀ n ∈ ns, n.OK) → (bcells ns).length = 44 * ns.length
  | [], _ => rfl
  | p :: ns, h => by
    have ih := bcells_length (ns := ns) (fun q hq => h q (by simp [hq]))
    have h1 := icells_length (h p (by simp))
    simp only [bcells, List.flatMap_cons, List.length_append, List.length_cons] at *
    omega
theorem BOK.cells {ns : List Ino} (h : BOK ns) : (bcells ns).length = 176 := by rw [bcells_length h.ok, h.len]
theorem BOK.size {ns : List Ino} (h : BOK ns) : (bcells ns).toArray.size = 176 := by rw [List.size_toArray, h.cells]
theorem BOK.at {ns : List Ino} (h : BOK ns) {k : Nat} {n : Ino} (hk : ns[k]? = some n) : n.OK := h.ok n (List.mem_of_getElem? hk)
theorem BOK.get {ns : List Ino} (h : BOK ns) {k : Nat} (hk : k < 4) : ∃ n, ns[k]? = some n := ⟨_, List.getElem?_eq_getElem (by rw [h.len]; exact hk)⟩
theorem bcells_append (a b : List Ino) : bcells (a ++ b) = bcells a ++ bcells b := by simp [bcells]
theorem bcells_cons (n : Ino) (b : List Ino) : bcells (n :: b) = icells n ++ bcells b := by simp [bcells]
theorem isplit_at {α : Type} {l : List α} {k : Nat} {x : α} (h : l[k]? = some x) : l = l.take k ++ (x :: l.drop (k + 1)) := by
  obtain ⟨hk, e⟩ := List.getElem?_eq_some_iff.1 h
  rw [← e, ← List.drop_eq_getElem_cons hk, List.take_append_drop]
theorem bcells_split {ns : List Ino} (h : ∀ n ∈ ns, n.OK) {k : Nat} {n : Ino} (hk : ns[k]? = some n) : bcells ns = bcells (ns.take k) ++ (icells n ++ bcells (ns.drop (k + 1))) ∧ (bcells (ns.take k)).length = 44 * k := by
  obtain ⟨hl, _⟩ := List.getElem?_eq_some_iff.1 hk
  constructor
  · conv => lhs; rw [isplit_at hk]
    rw [bcells_append, bcells_cons]
  · rw [bcells_length (fun q hq => h q (List.mem_of_mem_take hq)), List.length_take, Nat.min_eq_left (Nat.le_of_lt hl)]
theorem iset_at {α : Type} {l : List α} {k : Nat} (h : k < l.length) (x : α) : l.set k x = l.take k ++ (x :: l.drop (k + 1)) := by
  rw [List.set_eq_take_append_cons_drop, if_pos h]
theorem bcells_set {ns : List Ino} (h : ∀ n ∈ ns, n.OK) {k : Nat} (hk : k < ns.length) {q : Ino} (hq : q.OK) : splice (bcells ns) (44 * k) (icells q) = bcells (ns.set k q) := by
  obtain ⟨p, hp⟩ : ∃ p, ns[k]? = some p := ⟨_, List.getElem?_eq_getElem hk⟩
  obtain ⟨e, hl⟩ := bcells_split h hp
  have hpo := h p (List.mem_of_getElem? hp)
  unfold splice
  rw [e, List.take_left' hl, ← List.drop_drop, List.drop_left' hl, List.drop_left' (by rw [icells_length hq, icells_length hpo]), iset_at hk, bcells_append, bcells_cons]
theorem BOK.set {ns : List Ino} (h : BOK ns) (k : Nat) {q : Ino} (hq : q.OK) : BOK (ns.set k q) :=
  ⟨by rw [List.length_set, h.len], fun p hp => by
    rcases List.mem_or_eq_of_mem_set hp with h1 | h1
    · exact h.ok p h1
    · rw [h1]; exact hq⟩
def zeros4 : List Ino := List.replicate 4 zeroI
theorem zeros4_ok : BOK zeros4 := ⟨rfl, fun p hp => by rw [List.eq_of_mem_replicate hp]; exact zeroI_ok⟩
theorem one_ic (n : Ino) : (icells n).toArray.all (·.oneCell') = true := by
  rw [Array.all_eq_true_iff_forall_mem]
  intro v hv
  simp only [List.mem_toArray, icells, inums, List.mem_append, List.mem_cons, List.not_mem_nil, or_false] at hv
  rcases hv with (rfl | rfl | rfl) | hp
  · rfl
  · rfl
  · rfl
  · exact Array.all_eq_true_iff_forall_mem.1 (one_pc n.root) v (by simpa using hp)
theorem bcells_one (ns : List Ino) : (bcells ns).toArray.all (·.oneCell') = true := by
  rw [Array.all_eq_true_iff_forall_mem]
  intro v hv
  simp only [List.mem_toArray, bcells, List.mem_flatMap] at hv
  obtain ⟨p, _, hp⟩ := hv
  exact Array.all_eq_true_iff_forall_mem.1 (one_ic p) v (by simpa using hp)
def blkB (ns : List Ino) : Bs := ns.flatMap inoB
theorem blkB_length : ∀ {ns : List Ino}, (∀ n ∈ ns, n.OK) → (blkB ns).length = 128 * ns.length
  | [], _ => rfl
  | p :: ns, h => by
    have ih := blkB_length (ns := ns) (fun q hq => h q (by simp [hq]))
    have h1 := inoB_length (h p (by simp))
    simp only [blkB, List.flatMap_cons, List.length_append, List.length_cons] at *
    omega
theorem itake_snoc {α : Type} {l : List α} {k : Nat} {x : α} (h : l[k]? = some x) : l.take (k + 1) = l.take k ++ [x] := by
  obtain ⟨hk, e⟩ := List.getElem?_eq_some_iff.1 h
  rw [List.take_succ_eq_append_getElem hk, e]
theorem blkB_take {ns : List Ino} {k : Nat} {n : Ino} (h : ns[k]? = some n) : blkB (ns.take (k + 1)) = blkB (ns.take k) ++ inoB n := by
  rw [itake_snoc h]; simp [blkB]
theorem len_blkB {ns : List Ino} (h : BOK ns) {k : Nat} (hk : k ≤ 4) : (blkB (ns.take k)).length = 128 * k := by
  rw [blkB_length (fun p hp => h.ok p (List.mem_of_mem_take hp)), List.length_take, h.len, Nat.min_eq_left hk]
def allowI (n : Ino) : Ino := if mayI n then n else zeroI
def allow (ns : List Ino) : List Ino := ns.map allowI
theorem allowI_ok {n : Ino} (h : n.OK) : (allowI n).OK := by
  unfold allowI
  split
  · exact h
  · exact zeroI_ok
theorem allow_ok {ns : List Ino} (h : BOK ns) : BOK (allow ns) := ⟨by simp [allow, h.len], fun p hp => by
  simp only [allow, List.mem_map] at hp
  obtain ⟨q, hq, rfl⟩ := hp
  exact allowI_ok (h.ok q hq)⟩
def allMay (ns : List Ino) : Bool := ns.all mayI
theorem allow_eq : ∀ ns : List Ino, ns = allow ns ↔ allMay ns = true
  | [] => by simp [allow, allMay]
  | n :: ns => by
    have ih := allow_eq ns
    simp only [allow, allMay, List.map_cons, List.all_cons, Bool.and_eq_true, List.cons.injEq] at ih ⊢
    rw [ih]
    have e : n = allowI n ↔ mayI n = true := by
      unfold allowI
      cases h : mayI n
      · simp only [Bool.false_eq_true, if_false, iff_false]
        intro e
        rw [e, mayI_zero] at h
        cases h
      · simp
    rw [e]
def fineI (l : Bs) : Bool := quietI l && mayI (ino l)
def inoOk (l : Bs) : Bool := decide (l.length = 512) && (List.range 4).all fun j => fineI (l.drop (128 * j))
def inoL (l : Bs) : List Ino := (List.range 4).map fun j => ino (l.drop (128 * j))
def inoT (l : Bs) : List Ino := if inoOk l then inoL l else zeros4
def inoE (l : Bs) : Nat := if inoOk l then 0 else 5
theorem inoOk_long {l : Bs} (h : inoOk l = true) : l.length = 512 := by
  unfold inoOk at h
  simp only [Bool.and_eq_true, decide_eq_true_eq] at h
  exact h.1
theorem inoL_ok {l : Bs} (h : l.length = 512) : BOK (inoL l) := ⟨by simp [inoL], fun p hp => by
  simp only [inoL, List.mem_map, List.mem_range] at hp
  obtain ⟨j, hj, rfl⟩ := hp
  exact ino_ok (by rw [List.length_drop, h]; omega)⟩
theorem inoT_ok (l : Bs) : BOK (inoT l) := by
  unfold inoT
  split
  · rename_i h; exact inoL_ok (inoOk_long h)
  · exact zeros4_ok
theorem ipiece_at : ∀ {ns : List Ino}, (∀ n ∈ ns, n.OK) → ∀ {j : Nat} {n : Ino}, ns[j]? = some n → ∃ r, (blkB ns).drop (128 * j) = inoB n ++ r
  | [], _, j, p, h => by simp at h
  | q :: ns, hok, j, p, h => by
    have hq := inoB_length (hok q (by simp))
    have e : blkB (q :: ns) = inoB q ++ blkB ns := by simp [blkB]
    match j, h with
    | 0, h =>
      simp only [List.getElem?_cons_zero, Option.some.injEq] at h
      subst h
      exact ⟨blkB ns, by rw [e, Nat.mul_zero, List.drop_zero]⟩
    | j + 1, h =>
      simp only [List.getElem?_cons_succ] at h
      rw [e, show 128 * (j + 1) = 128 + 128 * j by omega, ← List.drop_drop, List.drop_left' hq]
      exact ipiece_at (ns := ns) (fun p hp => hok p (by simp [hp])) h
theorem iput_back {ns : List Ino} (h : BOK ns) (hp : allMay ns = true) : inoOk (blkB ns) = true ∧ inoT (blkB ns) = ns := by
  have hl : (blkB ns).length = 512 := by rw [blkB_length h.ok, h.len]
  have hat : ∀ {j n}, ns[j]? = some n → ino ((blkB ns).drop (128 * j)) = n ∧ quietI ((blkB ns).drop (128 * j)) = true := fun {j n} hj => by
    obtain ⟨r, hr⟩ := ipiece_at h.ok hj
    rw [hr]
    exact ino_back (h.at hj) r
  have h0 : inoOk (blkB ns) = true := by
    unfold inoOk
    simp only [Bool.and_eq_true, decide_eq_true_eq, List.all_eq_true, List.mem_range]
    refine ⟨hl, fun j hj => ?_⟩
    obtain ⟨n, hn⟩ := h.get hj
    obtain ⟨h1, h2⟩ := hat hn
    unfold fineI
    rw [h1, h2, List.all_eq_true.1 hp n (List.mem_of_getElem? hn)]
    rfl
  refine ⟨h0, ?_⟩
  unfold inoT
  rw [if_pos h0]
  apply List.ext_getElem?
  intro j
  by_cases hj : j < 4
  · obtain ⟨n, hn⟩ := h.get hj
    rw [hn]
    simp [inoL, hj, (hat hn).1]
  · rw [List.getElem?_eq_none (by simp [inoL]; omega), List.getElem?_eq_none (by rw [h.len]; omega)]
theorem part_ptrI (xs : Array Value) (off : Nat) (W : World) : (Go.part 28 xs off).run Tryz.prog W = .ok (.agg (xs.extract off (off + 41))) W := by
  obtain ⟨i, h1, h2⟩ := Option.map_eq_some_iff.1 sizeP
  have hsz : (sizeOf 28).run Tryz.prog W = .ok 41 W := by simp [sizeOf, typeInfo, h1, h2]
  have hag : (isAgg 28).run Tryz.prog W = .ok true W := by
    unfold isAgg
    rw [Sem.run_bind, run_underlying Tryz.underlying28 W]; rfl
  unfold Go.part
  simp only [Sem.run_bind, hag, Result.andThen_ok, hsz, if_true]
  rfl
theorem run_eqPi (d : Nat) {p q : Pt} (hp : p.OK) (hq : q.OK) (W : World) : (Op.equalIn (d + 3) 28 (.agg (pcells p).toArray) (.agg (pcells q).toArray)).run Tryz.prog W = .ok (eqP p q) W := by
  rw [run_equalIn_struct W (d + 2) 28 _ _ (by kernel_rfl) (by kernel_rfl)]
  have e : eqP p q = (((Tryz.prog.fieldsOf 28).toList.map fun f => (f.type, f.offset)).all (eqAt p q)) := by
    rw [fieldsP]
    simp [eqAt, eqP, Bool.and_assoc]
  rw [e]
  refine eqFields_dec _ _ _ W _ _ (fun f hm => ⟨?_, ?_⟩)
  · have := List.all_eq_true.1 namesP f hm
    simpa using this
  have h1 : (f.type, f.offset) ∈ (Tryz.prog.fieldsOf 28).toList.map (fun f => (f.type, f.offset)) := List.mem_map.2 ⟨f, hm, rfl⟩
  rw [fieldsP] at h1
  simp only [List.mem_cons, Prod.mk.injEq, List.not_mem_nil, or_false] at h1
  have hi : ∀ (t : TypeId) (k : IntKind) (a b : Nat), Tryz.prog.underlying t = some (.int k) → (Op.equalIn (d + 2) t (.int k (a : Int)) (.int k (b : Int))).run Tryz.prog W = .ok (decide (a = b)) W := fun t k a b ht => by
    rw [run_equalIn_int W (d + 1) t k k _ _ ht]
    refine congrArg (fun b => Result.ok b W) ?_
    rw [Bool.eq_iff_iff]
    simp
    omega
  rcases h1 with ⟨e1, e2⟩ | ⟨e1, e2⟩ | ⟨e1, e2⟩ | ⟨e1, e2⟩ | ⟨e1, e2⟩ | ⟨e1, e2⟩ | ⟨e1, e2⟩ <;> rw [e1, e2]
  · exact ⟨_, _, part_one Tryz.underlying5 (v := .int .u8 (p.kind : Int)) rfl W, part_one Tryz.underlying5 (v := .int .u8 (q.kind : Int)) rfl W, hi _ _ _ _ Tryz.underlying5⟩
  · exact ⟨_, _, part_one Tryz.underlying5 (v := .int .u8 (p.level : Int)) rfl W, part_one Tryz.underlying5 (v := .int .u8 (q.level : Int)) rfl W, hi _ _ _ _ Tryz.underlying5⟩
  · exact ⟨_, _, part_one Tryz.underlying23 (v := .int .u16 (p.obj : Int)) rfl W, part_one Tryz.underlying23 (v := .int .u16 (q.obj : Int)) rfl W, hi _ _ _ _ Tryz.underlying23⟩
  · exact ⟨_, _, part_one Tryz.underlying24 (v := .int .u32 (p.off : Int)) rfl W, part_one Tryz.underlying24 (v := .int .u32 (q.off : Int)) rfl W, hi _ _ _ _ Tryz.underlying24⟩
  · exact ⟨_, _, part_one Tryz.underlying22 (v := .int .u64 (p.birth : Int)) rfl W, part_one Tryz.underlying22 (v := .int .u64 (q.birth : Int)) rfl W, hi _ _ _ _ Tryz.underlying22⟩
  · refine ⟨_, _, part_arr Tryz.underlying25 sizeA32 _ _ W, part_arr Tryz.underlying25 sizeA32 _ _ W, ?_⟩
    rw [ext_hash hp, ext_hash hq]
    exact eq_hash hp.hash hq.hash d W
  · refine ⟨_, _, part_arr Tryz.underlying26 sizeAts _ _ W, part_arr Tryz.underlying26 sizeAts _ _ W, ?_⟩
    rw [ext_ats hp, ext_ats hq]
    exact eq_ats hp.len hq.len d W
theorem ext_root {n : Ino} (h : n.OK) : (icells n).toArray.extract 3 (3 + 41) = (pcells n.root).toArray := by
  apply Array.toList_inj.1
  rw [Array.toList_extract, List.extract_eq_take_drop]
  show ((inums n ++ pcells n.root).drop 3).take (3 + 41 - 3) = pcells n.root
  rw [List.drop_left' (by rfl), List.take_of_length_le (by rw [pcells_length h.root]; omega)]
def eqAtI (a b : Ino) (f : TypeId × Nat) : Bool :=
  if f.2 = 0 then decide (a.kind = b.kind) else if f.2 = 1 then decide (a.links = b.links) else if f.2 = 2 then decide (a.size = b.size) else eqP a.root b.root
theorem ext_elI {ns : List Ino} (h : ∀ p ∈ ns, p.OK) {k : Nat} {p : Ino} (hk : ns[k]? = some p) : (bcells ns).toArray.extract (k * 44) (k * 44 + 44) = (icells p).toArray := by
  obtain ⟨e, hl⟩ := bcells_split h hk
  apply Array.toList_inj.1
  rw [Array.toList_extract, List.extract_eq_take_drop]
  simp only
  rw [e, show k * 44 = 44 * k by omega, List.drop_left' hl, show 44 * k + 44 - 44 * k = 44 by omega, List.take_left' (icells_length (h p (List.mem_of_getElem? hk)))]
theorem itemsI {ns ms : List Ino} (h : ns.length = 4) (h' : ms.length = 4) : ((List.range 4).all fun j => eqI (ns.getD j zeroI) (ms.getD j zeroI)) = decide (ns = ms) := by
  rw [Bool.eq_iff_iff, List.all_eq_true, decide_eq_true_iff]
  constructor
  · intro H
    apply List.ext_getElem (by rw [h, h'])
    intro j h1 h2
    have := eqI_iff.1 (H j (List.mem_range.2 (by omega)))
    simpa [List.getD_eq_getElem?_getD, h1, h2] using this
  · rintro rfl j _
    exact eqI_same _
theorem sizeIn : (Tryz.prog.info? 68).map (·.size) = some 44 := by kernel_rfl
theorem size_icI {n : Ino} (h : n.OK) : (Tryz.prog.info? 68).map (·.size) = some (icells n).toArray.size := by rw [List.size_toArray, icells_length h]; exact sizeIn
theorem size_icIl {n : Ino} (h : n.OK) : (Tryz.prog.info? 68).map (·.size) = some (icells n).length := by rw [icells_length h]; exact sizeIn
theorem fieldsIn : (Tryz.prog.fieldsOf 68).toList.map (fun f => (f.type, f.offset)) = [(5, 0), (23, 1), (24, 2), (28, 3)] := by kernel_rfl
theorem namesIn : ((Tryz.prog.fieldsOf 68).toList.all fun f => f.name != "_") = true := by kernel_rfl
theorem run_eqId (d : Nat) {p q : Ino} (hp : p.OK) (hq : q.OK) (W : World) : (Op.equalIn (d + 4) 68 (.agg (icells p).toArray) (.agg (icells q).toArray)).run Tryz.prog W = .ok (eqI p q) W := by
  rw [run_equalIn_struct W (d + 3) 68 _ _ (by kernel_rfl) (by kernel_rfl)]
  have e : eqI p q = (((Tryz.prog.fieldsOf 68).toList.map fun f => (f.type, f.offset)).all (eqAtI p q)) := by
    rw [fieldsIn]
    simp [eqAtI, eqI, Bool.and_assoc]
  rw [e]
  refine eqFields_dec _ _ _ W _ _ (fun f hm => ⟨?_, ?_⟩)
  · have := List.all_eq_true.1 namesIn f hm
    simpa using this
  have h1 : (f.type, f.offset) ∈ (Tryz.prog.fieldsOf 68).toList.map (fun f => (f.type, f.offset)) := List.mem_map.2 ⟨f, hm, rfl⟩
  rw [fieldsIn] at h1
  simp only [List.mem_cons, Prod.mk.injEq, List.not_mem_nil, or_false] at h1
  have hi : ∀ (t : TypeId) (k : IntKind) (a b : Nat), Tryz.prog.underlying t = some (.int k) → (Op.equalIn (d + 3) t (.int k (a : Int)) (.int k (b : Int))).run Tryz.prog W = .ok (decide (a = b)) W := fun t k a b ht => by
    rw [run_equalIn_int W (d + 2) t k k _ _ ht]
    refine congrArg (fun b => Result.ok b W) ?_
    rw [Bool.eq_iff_iff]
    simp
    omega
  rcases h1 with ⟨e1, e2⟩ | ⟨e1, e2⟩ | ⟨e1, e2⟩ | ⟨e1, e2⟩ <;> rw [e1, e2]
  · exact ⟨_, _, part_one Tryz.underlying5 (v := .int .u8 (p.kind : Int)) rfl W, part_one Tryz.underlying5 (v := .int .u8 (q.kind : Int)) rfl W, hi _ _ _ _ Tryz.underlying5⟩
  · exact ⟨_, _, part_one Tryz.underlying23 (v := .int .u16 (p.links : Int)) rfl W, part_one Tryz.underlying23 (v := .int .u16 (q.links : Int)) rfl W, hi _ _ _ _ Tryz.underlying23⟩
  · exact ⟨_, _, part_one Tryz.underlying24 (v := .int .u32 (p.size : Int)) rfl W, part_one Tryz.underlying24 (v := .int .u32 (q.size : Int)) rfl W, hi _ _ _ _ Tryz.underlying24⟩
  · refine ⟨_, _, part_ptrI _ _ W, part_ptrI _ _ W, ?_⟩
    rw [ext_root hp, ext_root hq]
    exact run_eqPi d hp.root hq.root W
theorem part_In (xs : Array Value) (off : Nat) (W : World) : (Go.part 68 xs off).run Tryz.prog W = .ok (.agg (xs.extract off (off + 44))) W := by
  obtain ⟨i, h1, h2⟩ := Option.map_eq_some_iff.1 sizeIn
  have hsz : (sizeOf 68).run Tryz.prog W = .ok 44 W := by simp [sizeOf, typeInfo, h1, h2]
  have hag : (isAgg 68).run Tryz.prog W = .ok true W := by
    unfold isAgg
    rw [Sem.run_bind, run_underlying Tryz.underlying68 W]; rfl
  unfold Go.part
  simp only [Sem.run_bind, hag, Result.andThen_ok, hsz, if_true]
  rfl
theorem cellsIn : Tryz.prog.cellsOf 68 = 44 := by kernel_rfl
theorem run_ixI {t : TypeId} (hu : Tryz.prog.underlying t = some (.array 4 68)) {ns : List Ino} (h : BOK ns) {k : Nat} {p : Ino} (hk : ns[k]? = some p) (W : World) : (Instr.index t (.agg (bcells ns).toArray) (.int .i64 (k : Int))).run Tryz.prog W = .ok (.agg (icells p).toArray) W := by
  obtain ⟨i, h1, h2⟩ := Option.map_eq_some_iff.1 sizeIn
  have hsz : (sizeOf 68).run Tryz.prog W = .ok 44 W := by simp [sizeOf, typeInfo, h1, h2]
  obtain ⟨hl, _⟩ := List.getElem?_eq_some_iff.1 hk
  rw [h.len] at hl
  have h0 : (0 : Int) ≤ k := by omega
  have hi' : (k : Int) < (4 : Nat) := by omega
  have hx := ext_elI h.ok hk
  unfold Instr.index
  simp only [asIntOf, Sem.run_bind, Sem.run_pure, Result.andThen_ok, run_underlying hu W]
  rw [if_pos ⟨h0, hi'⟩]
  simp only [Sem.run_bind, hsz, Result.andThen_ok, part_In, Int.toNat_natCast, hx]
theorem run_eqBI {t : TypeId} (hu : Tryz.prog.underlying t = some (.array 4 68)) {ns ms : List Ino} (h : BOK ns) (h' : BOK ms) (W : World) : (Op.equalIn 10000 t (.agg (bcells ns).toArray) (.agg (bcells ms).toArray)).run Tryz.prog W = .ok (decide (ns = ms)) W := by
  obtain ⟨i, h1, h2⟩ := Option.map_eq_some_iff.1 sizeIn
  rw [run_equalIn_array W 9999 _ _ hu h1, ← itemsI h.len h'.len]
  refine eqItems_dec _ _ _ _ _ W _ _ (fun j hj => ?_)
  have hj8 : j < 4 := List.mem_range.1 hj
  obtain ⟨p, hp⟩ := h.get hj8
  obtain ⟨q, hq⟩ := h'.get hj8
  refine ⟨.agg (icells p).toArray, .agg (icells q).toArray, ?_, ?_, ?_⟩
  · rw [part_In, cellsIn, ext_elI h.ok hp]
  · rw [part_In, cellsIn, ext_elI h'.ok hq]
  · rw [List.getD_eq_getElem?_getD, List.getD_eq_getElem?_getD, hp, hq]
    exact run_eqId 9995 (h.at hp) (h'.at hq) W
section
variable {ρ : Operand → Value} {o : Oper} {x y : Operand} {w : World}
theorem ex_ldIn {n : Ino} (hn : n.OK) {g : Nat} {t' : TypeId} (hB : Blk w g (icells n) t') (ho : o.op = .load 68 x) (hx : ρ x = .pointer (some ⟨g, 0, none⟩)) : (execOp ρ o).run Tryz.prog w = .ok (.value (.agg (icells n).toArray)) w :=
  ex_ld (ty := 68) (cs := icells n) ho hx (rng_all hB) Tryz.underlying68 rfl (by rw [sizeIn, icells_length hn])
theorem ex_ldEI {ns : List Ino} {g off : Nat} {t' : TypeId} (h : BOK ns) (hB : Blk w g (bcells ns) t') {k : Nat} {p : Ino} (hk : ns[k]? = some p) (hoff : off = 44 * k) (ho : o.op = .load 68 x) (hx : ρ x = .pointer (some ⟨g, off, none⟩)) : (execOp ρ o).run Tryz.prog w = .ok (.value (.agg (icells p).toArray)) w := by
  subst hoff
  obtain ⟨e, hl⟩ := bcells_split h.ok hk
  have hr := hB.rng _ _ _ e
  rw [hl] at hr
  exact ex_ld (ty := 68) (cs := icells p) ho hx hr Tryz.underlying68 rfl (by rw [sizeIn, icells_length (h.at hk)])
theorem ex_eqInV {a b : Array Value} {r : Bool} (h : (Op.equalIn 10000 68 (.agg a) (.agg b)).run Tryz.prog w = .ok r w) (ho : o.op = .binOp .eql 68 x y 68) (hx : ρ x = .agg a) (hy : ρ y = .agg b) : (execOp ρ o).run Tryz.prog w = .ok (.value (.bool (r))) w := by
  have h' : (Op.equal 68 (.agg a) (.agg b)).run Tryz.prog w = .ok r w := h
  have hb : (binOp .eql 68 (.agg a) (.agg b)).run Tryz.prog w = .ok (.bool (r)) w := by
    show ((do pure (.bool ((← Op.equal 68 (.agg a) (.agg b)))) : Sem Value)).run Tryz.prog w = _
    simp only [Sem.run_bind, h', Result.andThen_ok, Sem.run_pure]
  have hg : (eqGuard .eql 68 x y (.agg a) (.agg b)).run Tryz.prog w = .ok () w := by
    unfold eqGuard
    go_simp
  unfold execOp
  simp only [ho, hx, hy, Sem.run_bind, hg, hb, Result.andThen_ok, Sem.run_pure]
theorem ex_eqIn {n m : Ino} (h : n.OK) (h' : m.OK) (ho : o.op = .binOp .eql 68 x y 68) (hx : ρ x = .agg (icells n).toArray) (hy : ρ y = .agg (icells m).toArray) : (execOp ρ o).run Tryz.prog w = .ok (.value (.bool (eqI n m))) w := ex_eqInV (run_eqId 9996 h h' w) ho hx hy
theorem ex_neInV {a b : Array Value} {r : Bool} (h : (Op.equalIn 10000 68 (.agg a) (.agg b)).run Tryz.prog w = .ok r w) (ho : o.op = .binOp .neq 68 x y 68) (hx : ρ x = .agg a) (hy : ρ y = .agg b) : (execOp ρ o).run Tryz.prog w = .ok (.value (.bool (!r))) w := by
  have h' : (Op.equal 68 (.agg a) (.agg b)).run Tryz.prog w = .ok r w := h
  have hb : (binOp .neq 68 (.agg a) (.agg b)).run Tryz.prog w = .ok (.bool (!r)) w := by
    show ((do pure (.bool (!(← Op.equal 68 (.agg a) (.agg b)))) : Sem Value)).run Tryz.prog w = _
    simp only [Sem.run_bind, h', Result.andThen_ok, Sem.run_pure]
  have hg : (eqGuard .neq 68 x y (.agg a) (.agg b)).run Tryz.prog w = .ok () w := by
    unfold eqGuard
    go_simp
  unfold execOp
  simp only [ho, hx, hy, Sem.run_bind, hg, hb, Result.andThen_ok, Sem.run_pure]
theorem ex_neIn {n m : Ino} (h : n.OK) (h' : m.OK) (ho : o.op = .binOp .neq 68 x y 68) (hx : ρ x = .agg (icells n).toArray) (hy : ρ y = .agg (icells m).toArray) : (execOp ρ o).run Tryz.prog w = .ok (.value (.bool (!eqI n m))) w := ex_neInV (run_eqId 9996 h h' w) ho hx hy
theorem ex_bldI0 (ho : o.op = .build 68 #[]) : (execOp ρ o).run Tryz.prog w = .ok (.value (.agg (icells zeroI).toArray)) w := by
  have hr : (Instr.build 68 #[]).run Tryz.prog w = .ok (.agg (icells zeroI).toArray) w := run_build w 68 _ _ (by kernel_rfl)
  unfold execOp
  simp only [ho]
  simp only [List.map_toArray, List.map_nil, Sem.run_bind, hr, Result.andThen_ok, Sem.run_pure]
theorem ex_ldRtI {n : Ino} (hn : n.OK) {g : Nat} {t' : TypeId} (hB : Blk w g (icells n) t') (ho : o.op = .load 28 x) (hx : ρ x = .pointer (some ⟨g, 3, none⟩)) : (execOp ρ o).run Tryz.prog w = .ok (.value (.agg (pcells n.root).toArray)) w := by
  have hr := hB.rng (inums n) (pcells n.root) [] (by simp [icells])
  exact ex_ld (ty := 28) (cs := pcells n.root) ho hx hr Tryz.underlying28 rfl (by rw [sizeP, pcells_length hn.root])
end
section
variable {ρ : Operand → Value} {o : Oper} {x y : Operand} {w : World}
end
theorem sizeBn : (Tryz.prog.info? 104).map (·.size) = some 176 := by kernel_rfl
theorem size_bcB {ns : List Ino} (h : BOK ns) : (Tryz.prog.info? 104).map (·.size) = some (bcells ns).toArray.size := by rw [h.size]; exact sizeBn
theorem size_bcBl {ns : List Ino} (h : BOK ns) : (Tryz.prog.info? 104).map (·.size) = some (bcells ns).length := by rw [h.cells]; exact sizeBn
section
variable {ρ : Operand → Value} {o : Oper} {x y : Operand} {w : World}
theorem ex_ldBn {ns : List Ino} (h : BOK ns) {g : Nat} {t' : TypeId} (hB : Blk w g (bcells ns) t') (ho : o.op = .load 104 x) (hx : ρ x = .pointer (some ⟨g, 0, none⟩)) : (execOp ρ o).run Tryz.prog w = .ok (.value (.agg (bcells ns).toArray)) w :=
  ex_ld (ty := 104) (cs := bcells ns) ho hx (rng_all hB) Tryz.underlying104 rfl (by rw [sizeBn, h.cells])
theorem ex_iaBI {b k : Nat} (hk : k < 4) (ho : o.op = .indexAddr 104 x y) (hx : ρ x = .pointer (some ⟨b, 0, none⟩)) (hy : ρ y = .int .i64 (k : Int)) : (execOp ρ o).run Tryz.prog w = .ok (.value (.pointer (some ⟨b, k * 44, none⟩))) w := by
  have h1 : ¬ (4 : Int) ≤ (k : Int) := by omega
  have h2 : (k : Int) < 4 := by omega
  unfold execOp
  simp only [ho]
  go_simp
theorem ex_neBn {ns ms : List Ino} (h : BOK ns) (h' : BOK ms) (ho : o.op = .binOp .neq 104 x y 104) (hx : ρ x = .agg (bcells ns).toArray) (hy : ρ y = .agg (bcells ms).toArray) : (execOp ρ o).run Tryz.prog w = .ok (.value (.bool (!decide (ns = ms)))) w := by
  have h := run_eqBI Tryz.underlying104 h h' w
  unfold execOp
  simp only [ho]
  go_simp
theorem ex_eqBn {ns ms : List Ino} (h : BOK ns) (h' : BOK ms) (ho : o.op = .binOp .eql 104 x y 104) (hx : ρ x = .agg (bcells ns).toArray) (hy : ρ y = .agg (bcells ms).toArray) : (execOp ρ o).run Tryz.prog w = .ok (.value (.bool (decide (ns = ms)))) w := by
  have h := run_eqBI Tryz.underlying104 h h' w
  unfold execOp
  simp only [ho]
  go_simp
theorem ex_bldB0 (ho : o.op = .build 104 #[]) : (execOp ρ o).run Tryz.prog w = .ok (.value (.agg (bcells zeros4).toArray)) w := by
  have hr : (Instr.build 104 #[]).run Tryz.prog w = .ok (.agg (bcells zeros4).toArray) w := run_build w 104 _ _ (by kernel_rfl)
  unfold execOp
  simp only [ho]
  simp only [List.map_toArray, List.map_nil, Sem.run_bind, hr, Result.andThen_ok, Sem.run_pure]
end
section
variable {ρ : Operand → Value} {o : Oper} {x y : Operand} {w : World}
end
theorem below_setsI {B g : Nat} {w0 : World} : ∀ (vs : List Value) (o : Nat) (w : World), Below B w0 w → B ≤ g → Below B w0 (w.setCells g o vs)
  | [], _, _, h, _ => h
  | v :: vs, o, w, h, hg => below_setsI vs (o + 1) _ (h.trans ⟨rfl, rfl, rfl, by simp, fun k hk => heap_setCell_other w ⟨g, o, none⟩ k v (by simp; omega)⟩) hg
theorem blk_setI {w : World} {g : Nat} {t : TypeId} {ns : List Ino} (h : BOK ns) (hB : Blk w g (bcells ns) t) {k off : Nat} (hk : k < 4) (ho : off = 44 * k) {q : Ino} (hq : q.OK) : Blk (w.setCells g off (icells q)) g (bcells (ns.set k q)) t := by
  subst ho
  have h1 := blk_setCells g t (icells q) (44 * k) w _ hB (by rw [h.cells, icells_length hq]; omega)
  have h2 := bcells_set h.ok (k := k) (by rw [h.len]; exact hk) hq
  unfold splice at h2
  rw [List.append_assoc, h2] at h1
  exact h1
theorem results_ctI {fn : Func} {p u : Tmp} {ty e n : Nat} (h : fn.results = #[.cell p ty, .tmp u]) (tmps : Array Value) (w : World) (g t : Nat) (cs : List Value)
    (hp : tmps.getD p undef = .pointer (some ⟨g, 0, none⟩)) (hg : Blk w g cs t) (hu : Tryz.prog.underlying ty = some (.array n e)) (hi : (Tryz.prog.info? ty).map (·.size) = some cs.length) :
    (results fn tmps).run Tryz.prog w = .ok (.tuple #[.agg cs.toArray, tmps.getD u undef]) w := by
  rw [results_cell_tmp h, hp]
  simp only [asAddr, Sem.run_pure, Result.andThen_ok, run_loadVar_row w g t ty cs.toArray (0, 0) _ hg hu rfl (by simpa using hi)]
end Go.Proofs.YtjgjohdeeeoeoaaGreatDoor
