/- Inodes, plain: their cells, their bytes; the inode of bytes; whether one may be; four of them. -/
import Derived.Test.YtecngehkdjmjmaaDoorM08
import Derived.Test.YtecngehkdjmjmaaDoorM05
import Derived.Test.YtecngehkdjmjmaaDoorM07
import Derived.ChangeKeysEq
namespace Go.Proofs.YtecngehkdjmjmaaDoor
open Go.RowKit

structure Ino where
  kind : Nat
  links : Nat
  size : Nat
  root : Pt
structure Ino.OK (n : Ino) : Prop where
  kind : n.kind < 256
  links : n.links < 65536
  size : n.size < 4294967296
  root : n.root.OK
def inums (n : Ino) : List Value := [.int .u8 (n.kind : Int), .int .u16 (n.links : Int), .int .u32 (n.size : Int)]
def icells (n : Ino) : List Value := inums n ++ pcells n.root
theorem icells_length {n : Ino} (h : n.OK) : (icells n).length = 44 := by simp [icells, inums, pcells_length h.root]
def zeroI : Ino := ⟨0, 0, 0, zeroP⟩
theorem zeroI_ok : zeroI.OK := ⟨by simp [zeroI], by simp [zeroI], by simp [zeroI], zeroP_ok⟩
def eqI (a b : Ino) : Bool := decide (a.kind = b.kind) && decide (a.links = b.links) && decide (a.size = b.size) && eqP a.root b.root
theorem eqI_iff {a b : Ino} : eqI a b = true ↔ a = b := by
  obtain ⟨k, l, s, r⟩ := a
  obtain ⟨k', l', s', r'⟩ := b
  simp only [eqI, Bool.and_eq_true, decide_eq_true_eq, eqP_iff, Ino.mk.injEq, and_assoc]
theorem eqI_same (a : Ino) : eqI a a = true := eqI_iff.2 rfl
instance decIno : DecidableEq Ino := fun _ _ => decidable_of_iff _ eqI_iff
/-- A root that may be. -/
def rootI (p : Pt) : Bool := eqP p zeroP || (decide (p.kind = 3) && decide (p.level = 2) && mayP p)
/-- Whether an inode may be. -/
def mayI (n : Ino) : Bool := eqI n zeroI || (decide (1 ≤ n.kind ∧ n.kind ≤ 3) && decide (n.size ≤ 32768) && decide (n.kind = 3 → 1 ≤ n.size ∧ n.size ≤ 128) && rootI n.root)
theorem mayI_zero : mayI zeroI = true := by unfold mayI; rw [eqI_same]; rfl
/-- An inode's bytes. -/
def inoB (n : Ino) : Bs := leb n.kind 1 ++ ([0#8] ++ (leb n.links 2 ++ (leb n.size 4 ++ (padB n.root ++ List.replicate 56 0#8))))
theorem inoB_length {n : Ino} (h : n.OK) : (inoB n).length = 128 := by simp [inoB, leb_length, padB_length h.root]
/-- The inode of bytes. -/
def ino (l : Bs) : Ino := ⟨val (l.take 1), val ((l.drop 2).take 2), val ((l.drop 4).take 4), pt (l.drop 8)⟩
theorem ino_ok {l : Bs} (h : 72 ≤ l.length) : (ino l).OK := ⟨val_take_lt _ 1, val_take_lt _ 2, val_take_lt _ 4, pt_ok (by rw [List.length_drop]; omega)⟩
/-- What must be noughts. -/
def quietI (l : Bs) : Bool := ((l.drop 1).take 1).all (· == 0#8) && quietP ((l.drop 8).take 64) && ((l.drop 72).take 56).all (· == 0#8)
theorem drop_take' (l : Bs) (a b c : Nat) (h : a + b ≤ c) : ((l.take c).drop a).take b = (l.drop a).take b := by
  rw [List.drop_take, List.take_take, Nat.min_eq_left (by omega)]
theorem ino_take (l : Bs) : ino (l.take 128) = ino l := by
  unfold ino
  rw [List.take_take, drop_take' l 2 2 128 (by omega), drop_take' l 4 4 128 (by omega), ← pt_take ((l.take 128).drop 8), drop_take' l 8 64 128 (by omega), pt_take]
  rfl
theorem quietI_take (l : Bs) : quietI (l.take 128) = quietI l := by
  unfold quietI
  rw [drop_take' l 1 1 128 (by omega), drop_take' l 8 64 128 (by omega), drop_take' l 72 56 128 (by omega)]
theorem all_rep {l : Bs} {k : Nat} (h : l.length = k) : l.all (· == 0#8) = true ↔ l = List.replicate k 0#8 := by
  subst h
  constructor
  · exact all_zero l
  · intro e; rw [e]; simp
theorem cut6 {l : Bs} (h : l.length = 128) : l = l.take 1 ++ ((l.drop 1).take 1 ++ ((l.drop 2).take 2 ++ ((l.drop 4).take 4 ++ ((l.drop 8).take 64 ++ (l.drop 72).take 56)))) := by
  have g : ∀ n m, l.take n ++ (l.drop n).take m = l.take (n + m) := fun n m => by rw [List.take_add]
  simp only [← List.append_assoc]
  rw [g 1 1, g 2 2, g 4 4, g 8 64, g 72 56, List.take_of_length_le (by omega)]
/-- Bytes are their inode's own just where they are quiet. -/
theorem inoB_ino {l : Bs} (h : l.length = 128) : inoB (ino l) = l ↔ quietI l = true := by
  have e2 : ∀ n m, n + m ≤ 128 → leb (val ((l.drop n).take m)) m = (l.drop n).take m := fun n m hn => leb_val_of (by simp [h]; omega)
  have e : inoB (ino l) = l.take 1 ++ ([0#8] ++ ((l.drop 2).take 2 ++ ((l.drop 4).take 4 ++ (padB (pt ((l.drop 8).take 64)) ++ List.replicate 56 0#8)))) := by
    unfold inoB ino
    simp only
    rw [leb_val_of (l := l.take 1) (by simp [h]), e2 2 2 (by omega), e2 4 4 (by omega), pt_take]
  have hp := padB_pt (l := (l.drop 8).take 64) (by simp [h])
  have hpl : (padB (pt ((l.drop 8).take 64))).length = 64 := padB_length (pt_ok (by simp [h]))
  rw [e]
  unfold quietI
  simp only [Bool.and_eq_true]
  rw [← hp, all_rep (l := (l.drop 1).take 1) (k := 1) (by simp [h]), all_rep (l := (l.drop 72).take 56) (k := 56) (by simp [h])]
  constructor
  · intro h0
    rw [cut6 h] at h0
    have hc := cut6 h
    rw [← hc] at h0
    have h1 : _ ++ _ = _ ++ _ := h0.trans hc
    obtain ⟨-, h2⟩ := List.append_inj h1 rfl
    obtain ⟨a1, h3⟩ := List.append_inj h2 (by simp [h])
    obtain ⟨-, h4⟩ := List.append_inj h3 rfl
    obtain ⟨-, h5⟩ := List.append_inj h4 rfl
    obtain ⟨a2, a3⟩ := List.append_inj h5 (by rw [hpl]; simp [h])
    exact ⟨⟨a1.symm, a2⟩, a3.symm⟩
  · rintro ⟨⟨a1, a2⟩, a3⟩
    have hc := cut6 h
    rw [a1, a3] at hc
    rw [a2]
    exact hc.symm
/-- What is put is taken. -/
theorem ino_back {n : Ino} (h : n.OK) (r : Bs) : ino (inoB n ++ r) = n ∧ quietI (inoB n ++ r) = true := by
  have e : inoB n ++ r = leb n.kind 1 ++ ([0#8] ++ (leb n.links 2 ++ (leb n.size 4 ++ (padB n.root ++ (List.replicate 56 0#8 ++ r))))) := by simp [inoB]
  have v : ∀ n m, n < 2 ^ (8 * m) → val (leb n m) = n := fun n m hn => by rw [val_leb]; exact Nat.mod_eq_of_lt hn
  have L : ∀ n m, (leb n m).length = m := leb_length
  have LP := padB_length h.root
  have d1 : (inoB n ++ r).drop 1 = [0#8] ++ (leb n.links 2 ++ (leb n.size 4 ++ (padB n.root ++ (List.replicate 56 0#8 ++ r)))) := by rw [e, List.drop_left' (L _ _)]
  have d2 : (inoB n ++ r).drop 2 = leb n.links 2 ++ (leb n.size 4 ++ (padB n.root ++ (List.replicate 56 0#8 ++ r))) := drop_step (n := 1) (m := 1) d1 rfl
  have d4 : (inoB n ++ r).drop 4 = leb n.size 4 ++ (padB n.root ++ (List.replicate 56 0#8 ++ r)) := drop_step (n := 2) (m := 2) d2 (L _ _)
  have d8 : (inoB n ++ r).drop 8 = padB n.root ++ (List.replicate 56 0#8 ++ r) := drop_step (n := 4) (m := 4) d4 (L _ _)
  have d72 : (inoB n ++ r).drop 72 = List.replicate 56 0#8 ++ r := drop_step (n := 8) (m := 64) d8 LP
  constructor
  · unfold ino
    rw [d2, d4, ← pt_take ((inoB n ++ r).drop 8), d8, e]
    simp only [List.take_left' (L _ _), List.take_left' LP]
    rw [v _ 1 h.kind, v _ 2 h.links, v _ 4 h.size, (pt_padB h.root).1]
  · unfold quietI
    rw [d1, d8, d72, List.take_left' LP, (pt_padB h.root).2, List.take_left' (by simp), List.take_left' (by simp)]
    rfl

/-- Four inodes. -/
def bcells (ns : List Ino) : List Value := ns.flatMap icells
structure BOK (ns : List Ino) : Prop where
  len : ns.length = 4
  ok : ∀ n ∈ ns, n.OK
theorem bcells_length : ∀ {ns : List Ino}, (∀ n ∈ ns, n.OK) → (bcells ns).length = 44 * ns.length
  | [], _ => rfl
  | p :: ns, h => by
    have ih := bcells_length (ns := ns) (fun q hq => h q (by simp [hq]))
    have h1 := icells_length (h p (by simp))
    simp only [bcells, List.flatMap_cons, List.length_append, List.length_cons] at *
    omega
theorem BOK.cells {ns : List Ino} (h : BOK ns) : (bcells ns).length = 176 := by rw [bcells_length h.ok, h.len]
theorem BOK.size {ns : List Ino} (h : BOK ns) : (bcells ns).toArray.size = 176 := by rw [List.size_toArray, h.cells]
theorem BOK.at {ns : List Ino} (h : BOK ns) {k : Nat} {n : Ino} (hk : ns[k]? = some n) : n.OK := h.ok n (List.mem_of_getElem? hk)
theorem BOK.get {ns : List Ino} (h : BOK ns) {k : Nat} (hk : k < 4) : ∃ n, ns[k]? = some n := ⟨_, List.getElem?_eq_getElem (by rw [h.len]; exact hk)⟩
theorem bcells_append (a b : List Ino) : bcells (a ++ b) = bcells a ++ bcells b := by simp [bcells]
theorem bcells_cons (n : Ino) (b : List Ino) : bcells (n :: b) = icells n ++ bcells b := by simp [bcells]
theorem isplit_at {α : Type} {l : List α} {k : Nat} {x : α} (h : l[k]? = some x) : l = l.take k ++ (x :: l.drop (k + 1)) := by
  obtain ⟨hk, e⟩ := List.getElem?_eq_some_iff.1 h
  rw [← e, ← List.drop_eq_getElem_cons hk, List.take_append_drop]
theorem bcells_split {ns : List Ino} (h : ∀ n ∈ ns, n.OK) {k : Nat} {n : Ino} (hk : ns[k]? = some n) : bcells ns = bcells (ns.take k) ++ (icells n ++ bcells (ns.drop (k + 1))) ∧ (bcells (ns.take k)).length = 44 * k := by
  obtain ⟨hl, _⟩ := List.getElem?_eq_some_iff.1 hk
  constructor
  · conv => lhs; rw [isplit_at hk]
    rw [bcells_append, bcells_cons]
  · rw [bcells_length (fun q hq => h q (List.mem_of_mem_take hq)), List.length_take, Nat.min_eq_left (Nat.le_of_lt hl)]
theorem iset_at {α : Type} {l : List α} {k : Nat} (h : k < l.length) (x : α) : l.set k x = l.take k ++ (x :: l.drop (k + 1)) := by
  rw [List.set_eq_take_append_cons_drop, if_pos h]
theorem bcells_set {ns : List Ino} (h : ∀ n ∈ ns, n.OK) {k : Nat} (hk : k < ns.length) {q : Ino} (hq : q.OK) : splice (bcells ns) (44 * k) (icells q) = bcells (ns.set k q) := by
  obtain ⟨p, hp⟩ : ∃ p, ns[k]? = some p := ⟨_, List.getElem?_eq_getElem hk⟩
  obtain ⟨e, hl⟩ := bcells_split h hp
  have hpo := h p (List.mem_of_getElem? hp)
  unfold splice
  rw [e, List.take_left' hl, ← List.drop_drop, List.drop_left' hl, List.drop_left' (by rw [icells_length hq, icells_length hpo]), iset_at hk, bcells_append, bcells_cons]
theorem BOK.set {ns : List Ino} (h : BOK ns) (k : Nat) {q : Ino} (hq : q.OK) : BOK (ns.set k q) :=
  ⟨by rw [List.length_set, h.len], fun p hp => by
    rcases List.mem_or_eq_of_mem_set hp with h1 | h1
    · exact h.ok p h1
    · rw [h1]; exact hq⟩
def zeros4 : List Ino := List.replicate 4 zeroI
theorem zeros4_ok : BOK zeros4 := ⟨rfl, fun p hp => by rw [List.eq_of_mem_replicate hp]; exact zeroI_ok⟩
theorem one_ic (n : Ino) : (icells n).toArray.all (·.oneCell') = true := by
  rw [Array.all_eq_true_iff_forall_mem]
  intro v hv
  simp only [List.mem_toArray, icells, inums, List.mem_append, List.mem_cons, List.not_mem_nil, or_false] at hv
  rcases hv with (rfl | rfl | rfl) | hp
  · rfl
  · rfl
  · rfl
  · exact Array.all_eq_true_iff_forall_mem.1 (one_pc n.root) v (by simpa using hp)
theorem bcells_one (ns : List Ino) : (bcells ns).toArray.all (·.oneCell') = true := by
  rw [Array.all_eq_true_iff_forall_mem]
  intro v hv
  simp only [List.mem_toArray, bcells, List.mem_flatMap] at hv
  obtain ⟨p, _, hp⟩ := hv
  exact Array.all_eq_true_iff_forall_mem.1 (one_ic p) v (by simpa using hp)

/-- A table block's bytes. -/
def blkB (ns : List Ino) : Bs := ns.flatMap inoB
theorem blkB_length : ∀ {ns : List Ino}, (∀ n ∈ ns, n.OK) → (blkB ns).length = 128 * ns.length
  | [], _ => rfl
  | p :: ns, h => by
    have ih := blkB_length (ns := ns) (fun q hq => h q (by simp [hq]))
    have h1 := inoB_length (h p (by simp))
    simp only [blkB, List.flatMap_cons, List.length_append, List.length_cons] at *
    omega
theorem itake_snoc {α : Type} {l : List α} {k : Nat} {x : α} (h : l[k]? = some x) : l.take (k + 1) = l.take k ++ [x] := by
  obtain ⟨hk, e⟩ := List.getElem?_eq_some_iff.1 h
  rw [List.take_succ_eq_append_getElem hk, e]
theorem blkB_take {ns : List Ino} {k : Nat} {n : Ino} (h : ns[k]? = some n) : blkB (ns.take (k + 1)) = blkB (ns.take k) ++ inoB n := by
  rw [itake_snoc h]; simp [blkB]
theorem len_blkB {ns : List Ino} (h : BOK ns) {k : Nat} (hk : k ≤ 4) : (blkB (ns.take k)).length = 128 * k := by
  rw [blkB_length (fun p hp => h.ok p (List.mem_of_mem_take hp)), List.length_take, h.len, Nat.min_eq_left hk]
/-- The block without the inodes that may not be. -/
def allowI (n : Ino) : Ino := if mayI n then n else zeroI
def allow (ns : List Ino) : List Ino := ns.map allowI
theorem allowI_ok {n : Ino} (h : n.OK) : (allowI n).OK := by
  unfold allowI
  split
  · exact h
  · exact zeroI_ok
theorem allow_ok {ns : List Ino} (h : BOK ns) : BOK (allow ns) := ⟨by simp [allow, h.len], fun p hp => by
  simp only [allow, List.mem_map] at hp
  obtain ⟨q, hq, rfl⟩ := hp
  exact allowI_ok (h.ok q hq)⟩
def allMay (ns : List Ino) : Bool := ns.all mayI
theorem allow_eq : ∀ ns : List Ino, ns = allow ns ↔ allMay ns = true
  | [] => by simp [allow, allMay]
  | n :: ns => by
    have ih := allow_eq ns
    simp only [allow, allMay, List.map_cons, List.all_cons, Bool.and_eq_true, List.cons.injEq] at ih ⊢
    rw [ih]
    have e : n = allowI n ↔ mayI n = true := by
      unfold allowI
      cases h : mayI n
      · simp only [Bool.false_eq_true, if_false, iff_false]
        intro e
        rw [e, mayI_zero] at h
        cases h
      · simp
    rw [e]
/-- The inodes of a block. -/
def fineI (l : Bs) : Bool := quietI l && mayI (ino l)
def inoOk (l : Bs) : Bool := decide (l.length = 512) && (List.range 4).all fun j => fineI (l.drop (128 * j))
def inoL (l : Bs) : List Ino := (List.range 4).map fun j => ino (l.drop (128 * j))
def inoT (l : Bs) : List Ino := if inoOk l then inoL l else zeros4
def inoE (l : Bs) : Nat := if inoOk l then 0 else 5
theorem inoOk_long {l : Bs} (h : inoOk l = true) : l.length = 512 := by
  unfold inoOk at h
  simp only [Bool.and_eq_true, decide_eq_true_eq] at h
  exact h.1
theorem inoL_ok {l : Bs} (h : l.length = 512) : BOK (inoL l) := ⟨by simp [inoL], fun p hp => by
  simp only [inoL, List.mem_map, List.mem_range] at hp
  obtain ⟨j, hj, rfl⟩ := hp
  exact ino_ok (by rw [List.length_drop, h]; omega)⟩
theorem inoT_ok (l : Bs) : BOK (inoT l) := by
  unfold inoT
  split
  · rename_i h; exact inoL_ok (inoOk_long h)
  · exact zeros4_ok
theorem ipiece_at : ∀ {ns : List Ino}, (∀ n ∈ ns, n.OK) → ∀ {j : Nat} {n : Ino}, ns[j]? = some n → ∃ r, (blkB ns).drop (128 * j) = inoB n ++ r
  | [], _, j, p, h => by simp at h
  | q :: ns, hok, j, p, h => by
    have hq := inoB_length (hok q (by simp))
    have e : blkB (q :: ns) = inoB q ++ blkB ns := by simp [blkB]
    match j, h with
    | 0, h =>
      simp only [List.getElem?_cons_zero, Option.some.injEq] at h
      subst h
      exact ⟨blkB ns, by rw [e, Nat.mul_zero, List.drop_zero]⟩
    | j + 1, h =>
      simp only [List.getElem?_cons_succ] at h
      rw [e, show 128 * (j + 1) = 128 + 128 * j by omega, ← List.drop_drop, List.drop_left' hq]
      exact ipiece_at (ns := ns) (fun p hp => hok p (by simp [hp])) h
/-- What is put is taken. -/
theorem iput_back {ns : List Ino} (h : BOK ns) (hp : allMay ns = true) : inoOk (blkB ns) = true ∧ inoT (blkB ns) = ns := by
  have hl : (blkB ns).length = 512 := by rw [blkB_length h.ok, h.len]
  have hat : ∀ {j n}, ns[j]? = some n → ino ((blkB ns).drop (128 * j)) = n ∧ quietI ((blkB ns).drop (128 * j)) = true := fun {j n} hj => by
    obtain ⟨r, hr⟩ := ipiece_at h.ok hj
    rw [hr]
    exact ino_back (h.at hj) r
  have h0 : inoOk (blkB ns) = true := by
    unfold inoOk
    simp only [Bool.and_eq_true, decide_eq_true_eq, List.all_eq_true, List.mem_range]
    refine ⟨hl, fun j hj => ?_⟩
    obtain ⟨n, hn⟩ := h.get hj
    obtain ⟨h1, h2⟩ := hat hn
    unfold fineI
    rw [h1, h2, List.all_eq_true.1 hp n (List.mem_of_getElem? hn)]
    rfl
  refine ⟨h0, ?_⟩
  unfold inoT
  rw [if_pos h0]
  apply List.ext_getElem?
  intro j
  by_cases hj : j < 4
  · obtain ⟨n, hn⟩ := h.get hj
    rw [hn]
    simp [inoL, hj, (hat hn).1]
  · rw [List.getElem?_eq_none (by simp [inoL]; omega), List.getElem?_eq_none (by rw [h.len]; omega)]
end Go.Proofs.YtecngehkdjmjmaaDoor
/- Inodes: what reads, builds and compares them in memory. -/
namespace Go.Proofs.YtecngehkdjmjmaaDoor
open Go.RowKit

theorem part_ptrI (xs : Array Value) (off : Nat) (W : World) : (Go.part 28 xs off).run Tryd.prog W = .ok (.agg (xs.extract off (off + 41))) W := by
  obtain ⟨i, h1, h2⟩ := Option.map_eq_some_iff.1 sizeP
  have hsz : (sizeOf 28).run Tryd.prog W = .ok 41 W := by simp [sizeOf, typeInfo, h1, h2]
  have hag : (isAgg 28).run Tryd.prog W = .ok true W := by
    unfold isAgg
    rw [Sem.run_bind, run_underlying Tryd.underlying28 W]; rfl
  unfold Go.part
  simp only [Sem.run_bind, hag, Result.andThen_ok, hsz, if_true]
  rfl
theorem run_eqPi (d : Nat) {p q : Pt} (hp : p.OK) (hq : q.OK) (W : World) : (Op.equalIn (d + 3) 28 (.agg (pcells p).toArray) (.agg (pcells q).toArray)).run Tryd.prog W = .ok (eqP p q) W := by
  rw [run_equalIn_struct W (d + 2) 28 _ _ (by kernel_rfl) (by kernel_rfl)]
  have e : eqP p q = (((Tryd.prog.fieldsOf 28).toList.map fun f => (f.type, f.offset)).all (eqAt p q)) := by
    rw [fieldsP]
    simp [eqAt, eqP, Bool.and_assoc]
  rw [e]
  refine eqFields_dec _ _ _ W _ _ (fun f hm => ⟨?_, ?_⟩)
  · have := List.all_eq_true.1 namesP f hm
    simpa using this
  have h1 : (f.type, f.offset) ∈ (Tryd.prog.fieldsOf 28).toList.map (fun f => (f.type, f.offset)) := List.mem_map.2 ⟨f, hm, rfl⟩
  rw [fieldsP] at h1
  simp only [List.mem_cons, Prod.mk.injEq, List.not_mem_nil, or_false] at h1
  have hi : ∀ (t : TypeId) (k : IntKind) (a b : Nat), Tryd.prog.underlying t = some (.int k) → (Op.equalIn (d + 2) t (.int k (a : Int)) (.int k (b : Int))).run Tryd.prog W = .ok (decide (a = b)) W := fun t k a b ht => by
    rw [run_equalIn_int W (d + 1) t k k _ _ ht]
    refine congrArg (fun b => Result.ok b W) ?_
    rw [Bool.eq_iff_iff]
    simp
    omega
  rcases h1 with ⟨e1, e2⟩ | ⟨e1, e2⟩ | ⟨e1, e2⟩ | ⟨e1, e2⟩ | ⟨e1, e2⟩ | ⟨e1, e2⟩ | ⟨e1, e2⟩ <;> rw [e1, e2]
  · exact ⟨_, _, part_one Tryd.underlying5 (v := .int .u8 (p.kind : Int)) rfl W, part_one Tryd.underlying5 (v := .int .u8 (q.kind : Int)) rfl W, hi _ _ _ _ Tryd.underlying5⟩
  · exact ⟨_, _, part_one Tryd.underlying5 (v := .int .u8 (p.level : Int)) rfl W, part_one Tryd.underlying5 (v := .int .u8 (q.level : Int)) rfl W, hi _ _ _ _ Tryd.underlying5⟩
  · exact ⟨_, _, part_one Tryd.underlying22 (v := .int .u16 (p.obj : Int)) rfl W, part_one Tryd.underlying22 (v := .int .u16 (q.obj : Int)) rfl W, hi _ _ _ _ Tryd.underlying22⟩
  · exact ⟨_, _, part_one Tryd.underlying23 (v := .int .u32 (p.off : Int)) rfl W, part_one Tryd.underlying23 (v := .int .u32 (q.off : Int)) rfl W, hi _ _ _ _ Tryd.underlying23⟩
  · exact ⟨_, _, part_one Tryd.underlying24 (v := .int .u64 (p.birth : Int)) rfl W, part_one Tryd.underlying24 (v := .int .u64 (q.birth : Int)) rfl W, hi _ _ _ _ Tryd.underlying24⟩
  · refine ⟨_, _, part_arr Tryd.underlying25 sizeA32 _ _ W, part_arr Tryd.underlying25 sizeA32 _ _ W, ?_⟩
    rw [ext_hash hp, ext_hash hq]
    exact eq_hash hp.hash hq.hash d W
  · refine ⟨_, _, part_arr Tryd.underlying26 sizeAts _ _ W, part_arr Tryd.underlying26 sizeAts _ _ W, ?_⟩
    rw [ext_ats hp, ext_ats hq]
    exact eq_ats hp.len hq.len d W
theorem ext_root {n : Ino} (h : n.OK) : (icells n).toArray.extract 3 (3 + 41) = (pcells n.root).toArray := by
  apply Array.toList_inj.1
  rw [Array.toList_extract, List.extract_eq_take_drop]
  show ((inums n ++ pcells n.root).drop 3).take (3 + 41 - 3) = pcells n.root
  rw [List.drop_left' (by rfl), List.take_of_length_le (by rw [pcells_length h.root]; omega)]
def eqAtI (a b : Ino) (f : TypeId × Nat) : Bool :=
  if f.2 = 0 then decide (a.kind = b.kind) else if f.2 = 1 then decide (a.links = b.links) else if f.2 = 2 then decide (a.size = b.size) else eqP a.root b.root
theorem ext_elI {ns : List Ino} (h : ∀ p ∈ ns, p.OK) {k : Nat} {p : Ino} (hk : ns[k]? = some p) : (bcells ns).toArray.extract (k * 44) (k * 44 + 44) = (icells p).toArray := by
  obtain ⟨e, hl⟩ := bcells_split h hk
  apply Array.toList_inj.1
  rw [Array.toList_extract, List.extract_eq_take_drop]
  simp only
  rw [e, show k * 44 = 44 * k by omega, List.drop_left' hl, show 44 * k + 44 - 44 * k = 44 by omega, List.take_left' (icells_length (h p (List.mem_of_getElem? hk)))]
theorem itemsI {ns ms : List Ino} (h : ns.length = 4) (h' : ms.length = 4) : ((List.range 4).all fun j => eqI (ns.getD j zeroI) (ms.getD j zeroI)) = decide (ns = ms) := by
  rw [Bool.eq_iff_iff, List.all_eq_true, decide_eq_true_iff]
  constructor
  · intro H
    apply List.ext_getElem (by rw [h, h'])
    intro j h1 h2
    have := eqI_iff.1 (H j (List.mem_range.2 (by omega)))
    simpa [List.getD_eq_getElem?_getD, h1, h2] using this
  · rintro rfl j _
    exact eqI_same _
theorem sizeIn : (Tryd.prog.info? 32).map (·.size) = some 44 := by kernel_rfl
theorem size_icI {n : Ino} (h : n.OK) : (Tryd.prog.info? 32).map (·.size) = some (icells n).toArray.size := by rw [List.size_toArray, icells_length h]; exact sizeIn
theorem fieldsIn : (Tryd.prog.fieldsOf 32).toList.map (fun f => (f.type, f.offset)) = [(5, 0), (22, 1), (23, 2), (28, 3)] := by kernel_rfl
theorem namesIn : ((Tryd.prog.fieldsOf 32).toList.all fun f => f.name != "_") = true := by kernel_rfl
theorem run_eqId (d : Nat) {p q : Ino} (hp : p.OK) (hq : q.OK) (W : World) : (Op.equalIn (d + 4) 32 (.agg (icells p).toArray) (.agg (icells q).toArray)).run Tryd.prog W = .ok (eqI p q) W := by
  rw [run_equalIn_struct W (d + 3) 32 _ _ (by kernel_rfl) (by kernel_rfl)]
  have e : eqI p q = (((Tryd.prog.fieldsOf 32).toList.map fun f => (f.type, f.offset)).all (eqAtI p q)) := by
    rw [fieldsIn]
    simp [eqAtI, eqI, Bool.and_assoc]
  rw [e]
  refine eqFields_dec _ _ _ W _ _ (fun f hm => ⟨?_, ?_⟩)
  · have := List.all_eq_true.1 namesIn f hm
    simpa using this
  have h1 : (f.type, f.offset) ∈ (Tryd.prog.fieldsOf 32).toList.map (fun f => (f.type, f.offset)) := List.mem_map.2 ⟨f, hm, rfl⟩
  rw [fieldsIn] at h1
  simp only [List.mem_cons, Prod.mk.injEq, List.not_mem_nil, or_false] at h1
  have hi : ∀ (t : TypeId) (k : IntKind) (a b : Nat), Tryd.prog.underlying t = some (.int k) → (Op.equalIn (d + 3) t (.int k (a : Int)) (.int k (b : Int))).run Tryd.prog W = .ok (decide (a = b)) W := fun t k a b ht => by
    rw [run_equalIn_int W (d + 2) t k k _ _ ht]
    refine congrArg (fun b => Result.ok b W) ?_
    rw [Bool.eq_iff_iff]
    simp
    omega
  rcases h1 with ⟨e1, e2⟩ | ⟨e1, e2⟩ | ⟨e1, e2⟩ | ⟨e1, e2⟩ <;> rw [e1, e2]
  · exact ⟨_, _, part_one Tryd.underlying5 (v := .int .u8 (p.kind : Int)) rfl W, part_one Tryd.underlying5 (v := .int .u8 (q.kind : Int)) rfl W, hi _ _ _ _ Tryd.underlying5⟩
  · exact ⟨_, _, part_one Tryd.underlying22 (v := .int .u16 (p.links : Int)) rfl W, part_one Tryd.underlying22 (v := .int .u16 (q.links : Int)) rfl W, hi _ _ _ _ Tryd.underlying22⟩
  · exact ⟨_, _, part_one Tryd.underlying23 (v := .int .u32 (p.size : Int)) rfl W, part_one Tryd.underlying23 (v := .int .u32 (q.size : Int)) rfl W, hi _ _ _ _ Tryd.underlying23⟩
  · refine ⟨_, _, part_ptrI _ _ W, part_ptrI _ _ W, ?_⟩
    rw [ext_root hp, ext_root hq]
    exact run_eqPi d hp.root hq.root W
theorem part_In (xs : Array Value) (off : Nat) (W : World) : (Go.part 32 xs off).run Tryd.prog W = .ok (.agg (xs.extract off (off + 44))) W := by
  obtain ⟨i, h1, h2⟩ := Option.map_eq_some_iff.1 sizeIn
  have hsz : (sizeOf 32).run Tryd.prog W = .ok 44 W := by simp [sizeOf, typeInfo, h1, h2]
  have hag : (isAgg 32).run Tryd.prog W = .ok true W := by
    unfold isAgg
    rw [Sem.run_bind, run_underlying Tryd.underlying32 W]; rfl
  unfold Go.part
  simp only [Sem.run_bind, hag, Result.andThen_ok, hsz, if_true]
  rfl
theorem cellsIn : Tryd.prog.cellsOf 32 = 44 := by kernel_rfl
theorem run_ixI {t : TypeId} (hu : Tryd.prog.underlying t = some (.array 4 32)) {ns : List Ino} (h : BOK ns) {k : Nat} {p : Ino} (hk : ns[k]? = some p) (W : World) : (Instr.index t (.agg (bcells ns).toArray) (.int .i64 (k : Int))).run Tryd.prog W = .ok (.agg (icells p).toArray) W := by
  obtain ⟨i, h1, h2⟩ := Option.map_eq_some_iff.1 sizeIn
  have hsz : (sizeOf 32).run Tryd.prog W = .ok 44 W := by simp [sizeOf, typeInfo, h1, h2]
  obtain ⟨hl, _⟩ := List.getElem?_eq_some_iff.1 hk
  rw [h.len] at hl
  have h0 : (0 : Int) ≤ k := by omega
  have hi' : (k : Int) < (4 : Nat) := by omega
  have hx := ext_elI h.ok hk
  unfold Instr.index
  simp only [asIntOf, Sem.run_bind, Sem.run_pure, Result.andThen_ok, run_underlying hu W]
  rw [if_pos ⟨h0, hi'⟩]
  simp only [Sem.run_bind, hsz, Result.andThen_ok, part_In, Int.toNat_natCast, hx]
theorem run_eqBI {t : TypeId} (hu : Tryd.prog.underlying t = some (.array 4 32)) {ns ms : List Ino} (h : BOK ns) (h' : BOK ms) (W : World) : (Op.equalIn 10000 t (.agg (bcells ns).toArray) (.agg (bcells ms).toArray)).run Tryd.prog W = .ok (decide (ns = ms)) W := by
  obtain ⟨i, h1, h2⟩ := Option.map_eq_some_iff.1 sizeIn
  rw [run_equalIn_array W 9999 _ _ hu h1, ← itemsI h.len h'.len]
  refine eqItems_dec _ _ _ _ _ W _ _ (fun j hj => ?_)
  have hj8 : j < 4 := List.mem_range.1 hj
  obtain ⟨p, hp⟩ := h.get hj8
  obtain ⟨q, hq⟩ := h'.get hj8
  refine ⟨.agg (icells p).toArray, .agg (icells q).toArray, ?_, ?_, ?_⟩
  · rw [part_In, cellsIn, ext_elI h.ok hp]
  · rw [part_In, cellsIn, ext_elI h'.ok hq]
  · rw [List.getD_eq_getElem?_getD, List.getD_eq_getElem?_getD, hp, hq]
    exact run_eqId 9995 (h.at hp) (h'.at hq) W
section
variable {ρ : Operand → Value} {o : Oper} {x y : Operand} {w : World}
theorem ex_ldIn {n : Ino} (hn : n.OK) {g : Nat} {t' : TypeId} (hB : Blk w g (icells n) t') (ho : o.op = .load 32 x) (hx : ρ x = .pointer (some ⟨g, 0, none⟩)) : (execOp ρ o).run Tryd.prog w = .ok (.value (.agg (icells n).toArray)) w :=
  ex_ld (ty := 32) (cs := icells n) ho hx (rng_all hB) Tryd.underlying32 rfl (by rw [sizeIn, icells_length hn])
theorem ex_ldEI {ns : List Ino} {g off : Nat} {t' : TypeId} (h : BOK ns) (hB : Blk w g (bcells ns) t') {k : Nat} {p : Ino} (hk : ns[k]? = some p) (hoff : off = 44 * k) (ho : o.op = .load 32 x) (hx : ρ x = .pointer (some ⟨g, off, none⟩)) : (execOp ρ o).run Tryd.prog w = .ok (.value (.agg (icells p).toArray)) w := by
  subst hoff
  obtain ⟨e, hl⟩ := bcells_split h.ok hk
  have hr := hB.rng _ _ _ e
  rw [hl] at hr
  exact ex_ld (ty := 32) (cs := icells p) ho hx hr Tryd.underlying32 rfl (by rw [sizeIn, icells_length (h.at hk)])
theorem ex_eqInV {a b : Array Value} {r : Bool} (h : (Op.equalIn 10000 32 (.agg a) (.agg b)).run Tryd.prog w = .ok r w) (ho : o.op = .binOp .eql 32 x y 32) (hx : ρ x = .agg a) (hy : ρ y = .agg b) : (execOp ρ o).run Tryd.prog w = .ok (.value (.bool (r))) w := by
  have h' : (Op.equal 32 (.agg a) (.agg b)).run Tryd.prog w = .ok r w := h
  have hb : (binOp .eql 32 (.agg a) (.agg b)).run Tryd.prog w = .ok (.bool (r)) w := by
    show ((do pure (.bool ((← Op.equal 32 (.agg a) (.agg b)))) : Sem Value)).run Tryd.prog w = _
    simp only [Sem.run_bind, h', Result.andThen_ok, Sem.run_pure]
  have hg : (eqGuard .eql 32 x y (.agg a) (.agg b)).run Tryd.prog w = .ok () w := by
    unfold eqGuard
    go_simp
  unfold execOp
  simp only [ho, hx, hy, Sem.run_bind, hg, hb, Result.andThen_ok, Sem.run_pure]
theorem ex_eqIn {n m : Ino} (h : n.OK) (h' : m.OK) (ho : o.op = .binOp .eql 32 x y 32) (hx : ρ x = .agg (icells n).toArray) (hy : ρ y = .agg (icells m).toArray) : (execOp ρ o).run Tryd.prog w = .ok (.value (.bool (eqI n m))) w := ex_eqInV (run_eqId 9996 h h' w) ho hx hy
theorem ex_neInV {a b : Array Value} {r : Bool} (h : (Op.equalIn 10000 32 (.agg a) (.agg b)).run Tryd.prog w = .ok r w) (ho : o.op = .binOp .neq 32 x y 32) (hx : ρ x = .agg a) (hy : ρ y = .agg b) : (execOp ρ o).run Tryd.prog w = .ok (.value (.bool (!r))) w := by
  have h' : (Op.equal 32 (.agg a) (.agg b)).run Tryd.prog w = .ok r w := h
  have hb : (binOp .neq 32 (.agg a) (.agg b)).run Tryd.prog w = .ok (.bool (!r)) w := by
    show ((do pure (.bool (!(← Op.equal 32 (.agg a) (.agg b)))) : Sem Value)).run Tryd.prog w = _
    simp only [Sem.run_bind, h', Result.andThen_ok, Sem.run_pure]
  have hg : (eqGuard .neq 32 x y (.agg a) (.agg b)).run Tryd.prog w = .ok () w := by
    unfold eqGuard
    go_simp
  unfold execOp
  simp only [ho, hx, hy, Sem.run_bind, hg, hb, Result.andThen_ok, Sem.run_pure]
theorem ex_neIn {n m : Ino} (h : n.OK) (h' : m.OK) (ho : o.op = .binOp .neq 32 x y 32) (hx : ρ x = .agg (icells n).toArray) (hy : ρ y = .agg (icells m).toArray) : (execOp ρ o).run Tryd.prog w = .ok (.value (.bool (!eqI n m))) w := ex_neInV (run_eqId 9996 h h' w) ho hx hy
theorem ex_bldI0 (ho : o.op = .build 32 #[]) : (execOp ρ o).run Tryd.prog w = .ok (.value (.agg (icells zeroI).toArray)) w := by
  have hr : (Instr.build 32 #[]).run Tryd.prog w = .ok (.agg (icells zeroI).toArray) w := run_build w 32 _ _ (by kernel_rfl)
  unfold execOp
  simp only [ho]
  simp only [List.map_toArray, List.map_nil, Sem.run_bind, hr, Result.andThen_ok, Sem.run_pure]
theorem ex_ldRtI {n : Ino} (hn : n.OK) {g : Nat} {t' : TypeId} (hB : Blk w g (icells n) t') (ho : o.op = .load 28 x) (hx : ρ x = .pointer (some ⟨g, 3, none⟩)) : (execOp ρ o).run Tryd.prog w = .ok (.value (.agg (pcells n.root).toArray)) w := by
  have hr := hB.rng (inums n) (pcells n.root) [] (by simp [icells])
  exact ex_ld (ty := 28) (cs := pcells n.root) ho hx hr Tryd.underlying28 rfl (by rw [sizeP, pcells_length hn.root])
end
theorem sizeRn : (Tryd.prog.info? 30).map (·.size) = some 44 := by kernel_rfl
theorem size_icR {n : Ino} (h : n.OK) : (Tryd.prog.info? 30).map (·.size) = some (icells n).toArray.size := by rw [List.size_toArray, icells_length h]; exact sizeRn
theorem fieldsRn : (Tryd.prog.fieldsOf 30).toList.map (fun f => (f.type, f.offset)) = [(5, 0), (22, 1), (23, 2), (28, 3)] := by kernel_rfl
theorem namesRn : ((Tryd.prog.fieldsOf 30).toList.all fun f => f.name != "_") = true := by kernel_rfl
theorem run_eqRd (d : Nat) {p q : Ino} (hp : p.OK) (hq : q.OK) (W : World) : (Op.equalIn (d + 4) 30 (.agg (icells p).toArray) (.agg (icells q).toArray)).run Tryd.prog W = .ok (eqI p q) W := by
  rw [run_equalIn_struct W (d + 3) 30 _ _ (by kernel_rfl) (by kernel_rfl)]
  have e : eqI p q = (((Tryd.prog.fieldsOf 30).toList.map fun f => (f.type, f.offset)).all (eqAtI p q)) := by
    rw [fieldsRn]
    simp [eqAtI, eqI, Bool.and_assoc]
  rw [e]
  refine eqFields_dec _ _ _ W _ _ (fun f hm => ⟨?_, ?_⟩)
  · have := List.all_eq_true.1 namesRn f hm
    simpa using this
  have h1 : (f.type, f.offset) ∈ (Tryd.prog.fieldsOf 30).toList.map (fun f => (f.type, f.offset)) := List.mem_map.2 ⟨f, hm, rfl⟩
  rw [fieldsRn] at h1
  simp only [List.mem_cons, Prod.mk.injEq, List.not_mem_nil, or_false] at h1
  have hi : ∀ (t : TypeId) (k : IntKind) (a b : Nat), Tryd.prog.underlying t = some (.int k) → (Op.equalIn (d + 3) t (.int k (a : Int)) (.int k (b : Int))).run Tryd.prog W = .ok (decide (a = b)) W := fun t k a b ht => by
    rw [run_equalIn_int W (d + 2) t k k _ _ ht]
    refine congrArg (fun b => Result.ok b W) ?_
    rw [Bool.eq_iff_iff]
    simp
    omega
  rcases h1 with ⟨e1, e2⟩ | ⟨e1, e2⟩ | ⟨e1, e2⟩ | ⟨e1, e2⟩ <;> rw [e1, e2]
  · exact ⟨_, _, part_one Tryd.underlying5 (v := .int .u8 (p.kind : Int)) rfl W, part_one Tryd.underlying5 (v := .int .u8 (q.kind : Int)) rfl W, hi _ _ _ _ Tryd.underlying5⟩
  · exact ⟨_, _, part_one Tryd.underlying22 (v := .int .u16 (p.links : Int)) rfl W, part_one Tryd.underlying22 (v := .int .u16 (q.links : Int)) rfl W, hi _ _ _ _ Tryd.underlying22⟩
  · exact ⟨_, _, part_one Tryd.underlying23 (v := .int .u32 (p.size : Int)) rfl W, part_one Tryd.underlying23 (v := .int .u32 (q.size : Int)) rfl W, hi _ _ _ _ Tryd.underlying23⟩
  · refine ⟨_, _, part_ptrI _ _ W, part_ptrI _ _ W, ?_⟩
    rw [ext_root hp, ext_root hq]
    exact run_eqPi d hp.root hq.root W
section
variable {ρ : Operand → Value} {o : Oper} {x y : Operand} {w : World}
theorem ex_ldRn {n : Ino} (hn : n.OK) {g : Nat} {t' : TypeId} (hB : Blk w g (icells n) t') (ho : o.op = .load 30 x) (hx : ρ x = .pointer (some ⟨g, 0, none⟩)) : (execOp ρ o).run Tryd.prog w = .ok (.value (.agg (icells n).toArray)) w :=
  ex_ld (ty := 30) (cs := icells n) ho hx (rng_all hB) Tryd.underlying30 rfl (by rw [sizeRn, icells_length hn])
theorem ex_eqRnV {a b : Array Value} {r : Bool} (h : (Op.equalIn 10000 30 (.agg a) (.agg b)).run Tryd.prog w = .ok r w) (ho : o.op = .binOp .eql 30 x y 30) (hx : ρ x = .agg a) (hy : ρ y = .agg b) : (execOp ρ o).run Tryd.prog w = .ok (.value (.bool (r))) w := by
  have h' : (Op.equal 30 (.agg a) (.agg b)).run Tryd.prog w = .ok r w := h
  have hb : (binOp .eql 30 (.agg a) (.agg b)).run Tryd.prog w = .ok (.bool (r)) w := by
    show ((do pure (.bool ((← Op.equal 30 (.agg a) (.agg b)))) : Sem Value)).run Tryd.prog w = _
    simp only [Sem.run_bind, h', Result.andThen_ok, Sem.run_pure]
  have hg : (eqGuard .eql 30 x y (.agg a) (.agg b)).run Tryd.prog w = .ok () w := by
    unfold eqGuard
    go_simp
  unfold execOp
  simp only [ho, hx, hy, Sem.run_bind, hg, hb, Result.andThen_ok, Sem.run_pure]
theorem ex_eqRn {n m : Ino} (h : n.OK) (h' : m.OK) (ho : o.op = .binOp .eql 30 x y 30) (hx : ρ x = .agg (icells n).toArray) (hy : ρ y = .agg (icells m).toArray) : (execOp ρ o).run Tryd.prog w = .ok (.value (.bool (eqI n m))) w := ex_eqRnV (run_eqRd 9996 h h' w) ho hx hy
theorem ex_bldR0 (ho : o.op = .build 30 #[]) : (execOp ρ o).run Tryd.prog w = .ok (.value (.agg (icells zeroI).toArray)) w := by
  have hr : (Instr.build 30 #[]).run Tryd.prog w = .ok (.agg (icells zeroI).toArray) w := run_build w 30 _ _ (by kernel_rfl)
  unfold execOp
  simp only [ho]
  simp only [List.map_toArray, List.map_nil, Sem.run_bind, hr, Result.andThen_ok, Sem.run_pure]
theorem ex_ldRtR {n : Ino} (hn : n.OK) {g : Nat} {t' : TypeId} (hB : Blk w g (icells n) t') (ho : o.op = .load 28 x) (hx : ρ x = .pointer (some ⟨g, 3, none⟩)) : (execOp ρ o).run Tryd.prog w = .ok (.value (.agg (pcells n.root).toArray)) w := by
  have hr := hB.rng (inums n) (pcells n.root) [] (by simp [icells])
  exact ex_ld (ty := 28) (cs := pcells n.root) ho hx hr Tryd.underlying28 rfl (by rw [sizeP, pcells_length hn.root])
end
theorem sizeBn : (Tryd.prog.info? 34).map (·.size) = some 176 := by kernel_rfl
theorem size_bcB {ns : List Ino} (h : BOK ns) : (Tryd.prog.info? 34).map (·.size) = some (bcells ns).toArray.size := by rw [h.size]; exact sizeBn
theorem size_bcBl {ns : List Ino} (h : BOK ns) : (Tryd.prog.info? 34).map (·.size) = some (bcells ns).length := by rw [h.cells]; exact sizeBn
section
variable {ρ : Operand → Value} {o : Oper} {x y : Operand} {w : World}
theorem ex_ldBn {ns : List Ino} (h : BOK ns) {g : Nat} {t' : TypeId} (hB : Blk w g (bcells ns) t') (ho : o.op = .load 34 x) (hx : ρ x = .pointer (some ⟨g, 0, none⟩)) : (execOp ρ o).run Tryd.prog w = .ok (.value (.agg (bcells ns).toArray)) w :=
  ex_ld (ty := 34) (cs := bcells ns) ho hx (rng_all hB) Tryd.underlying34 rfl (by rw [sizeBn, h.cells])
theorem ex_iaB {b k : Nat} (hk : k < 4) (ho : o.op = .indexAddr 34 x y) (hx : ρ x = .pointer (some ⟨b, 0, none⟩)) (hy : ρ y = .int .i64 (k : Int)) : (execOp ρ o).run Tryd.prog w = .ok (.value (.pointer (some ⟨b, k * 44, none⟩))) w := by
  have h1 : ¬ (4 : Int) ≤ (k : Int) := by omega
  have h2 : (k : Int) < 4 := by omega
  unfold execOp
  simp only [ho]
  go_simp
theorem ex_neBn {ns ms : List Ino} (h : BOK ns) (h' : BOK ms) (ho : o.op = .binOp .neq 34 x y 34) (hx : ρ x = .agg (bcells ns).toArray) (hy : ρ y = .agg (bcells ms).toArray) : (execOp ρ o).run Tryd.prog w = .ok (.value (.bool (!decide (ns = ms)))) w := by
  have h := run_eqBI Tryd.underlying34 h h' w
  unfold execOp
  simp only [ho]
  go_simp
theorem ex_eqBn {ns ms : List Ino} (h : BOK ns) (h' : BOK ms) (ho : o.op = .binOp .eql 34 x y 34) (hx : ρ x = .agg (bcells ns).toArray) (hy : ρ y = .agg (bcells ms).toArray) : (execOp ρ o).run Tryd.prog w = .ok (.value (.bool (decide (ns = ms)))) w := by
  have h := run_eqBI Tryd.underlying34 h h' w
  unfold execOp
  simp only [ho]
  go_simp
theorem ex_bldB0 (ho : o.op = .build 34 #[]) : (execOp ρ o).run Tryd.prog w = .ok (.value (.agg (bcells zeros4).toArray)) w := by
  have hr : (Instr.build 34 #[]).run Tryd.prog w = .ok (.agg (bcells zeros4).toArray) w := run_build w 34 _ _ (by kernel_rfl)
  unfold execOp
  simp only [ho]
  simp only [List.map_toArray, List.map_nil, Sem.run_bind, hr, Result.andThen_ok, Sem.run_pure]
end
section
variable {ρ : Operand → Value} {o : Oper} {x y : Operand} {w : World}
end
/-- An element is stored. -/
theorem below_setsI {B g : Nat} {w0 : World} : ∀ (vs : List Value) (o : Nat) (w : World), Below B w0 w → B ≤ g → Below B w0 (w.setCells g o vs)
  | [], _, _, h, _ => h
  | v :: vs, o, w, h, hg => below_setsI vs (o + 1) _ (h.trans ⟨rfl, rfl, rfl, by simp, fun k hk => heap_setCell_other w ⟨g, o, none⟩ k v (by simp; omega)⟩) hg
theorem blk_setI {w : World} {g : Nat} {t : TypeId} {ns : List Ino} (h : BOK ns) (hB : Blk w g (bcells ns) t) {k off : Nat} (hk : k < 4) (ho : off = 44 * k) {q : Ino} (hq : q.OK) : Blk (w.setCells g off (icells q)) g (bcells (ns.set k q)) t := by
  subst ho
  have h1 := blk_setCells g t (icells q) (44 * k) w _ hB (by rw [h.cells, icells_length hq]; omega)
  have h2 := bcells_set h.ok (k := k) (by rw [h.len]; exact hk) hq
  unfold splice at h2
  rw [List.append_assoc, h2] at h1
  exact h1
/-- Results: an array in a cell, and a number. -/
theorem results_ctI {fn : Func} {p u : Tmp} {ty e n : Nat} (h : fn.results = #[.cell p ty, .tmp u]) (tmps : Array Value) (w : World) (g t : Nat) (cs : List Value)
    (hp : tmps.getD p undef = .pointer (some ⟨g, 0, none⟩)) (hg : Blk w g cs t) (hu : Tryd.prog.underlying ty = some (.array n e)) (hi : (Tryd.prog.info? ty).map (·.size) = some cs.length) :
    (results fn tmps).run Tryd.prog w = .ok (.tuple #[.agg cs.toArray, tmps.getD u undef]) w := by
  rw [results_cell_tmp h, hp]
  simp only [asAddr, Sem.run_pure, Result.andThen_ok, run_loadVar_row w g t ty cs.toArray (0, 0) _ hg hu rfl (by simpa using hi)]
end Go.Proofs.YtecngehkdjmjmaaDoor
/- Inodes: Leaf, Count, of; whether one may be, as the program and as the document say it. -/
namespace Go.Proofs.YtecngehkdjmjmaaDoor
open Go.RowKit

theorem ex_eqPb {ρ : Operand → Value} {o : Oper} {x y : Operand} {p q : Pt} {z : Bool} {w : World} (hz : eqP p q = z) (ho : o.op = .binOp .eql 28 x y 28) (hx : ρ x = .agg (pcells p).toArray) (hy : ρ y = .agg (pcells q).toArray) (hp : p.OK) (hq : q.OK) : (execOp ρ o).run Tryd.prog w = .ok (.value (.bool z)) w := hz ▸ ex_eqP ho hx hy hp hq
theorem ex_eqIb {ρ : Operand → Value} {o : Oper} {x y : Operand} {p q : Ino} {z : Bool} {w : World} (hz : eqI p q = z) (ho : o.op = .binOp .eql 32 x y 32) (hx : ρ x = .agg (icells p).toArray) (hy : ρ y = .agg (icells q).toArray) (hp : p.OK) (hq : q.OK) : (execOp ρ o).run Tryd.prog w = .ok (.value (.bool z)) w := hz ▸ ex_eqIn hp hq ho hx hy
theorem ex_eqRb {ρ : Operand → Value} {o : Oper} {x y : Operand} {p q : Ino} {z : Bool} {w : World} (hz : eqI p q = z) (ho : o.op = .binOp .eql 30 x y 30) (hx : ρ x = .agg (icells p).toArray) (hy : ρ y = .agg (icells q).toArray) (hp : p.OK) (hq : q.OK) : (execOp ρ o).run Tryd.prog w = .ok (.value (.bool z)) w := hz ▸ ex_eqRn hp hq ho hx hy
def leafK (k : Nat) : Nat := if k = 1 then 1 else if k = 2 ∨ k = 3 then 2 else 0
theorem leaf11_any (k : Nat) (w : World) : Calls Tryd.prog 16 #[.int .u8 (k : Int)] w fun e w' => e = .returned (.int .u8 (leafK k : Int)) ∧ w' = w := by
  generalize hPost : (fun e w' => e = Ending.returned (.int .u8 (leafK k : Int)) ∧ w' = w) = Post
  have HP : Hid (∀ x : Nat, leafK k = x → Post (.returned (.int .u8 (x : Int))) w) := Lib.hid (fun x hx => by rw [← hPost, ← hx]; exact ⟨rfl, rfl⟩)
  clear hPost
  by_cases h1 : k = 1
  · have HE := Lib.hid (HP.out 1 (by unfold leafK; rw [if_pos h1]))
    subst h1
    clear HP
    go_enter Tryd.func16, Tryd.ntmps16
    go_wp2_with fail
    first | exact HE.out | (go_ret; exact HE.out)
  · by_cases h2 : k = 2
    · have HE := Lib.hid (HP.out 2 (by unfold leafK; rw [if_neg h1, if_pos (.inl h2)]))
      subst h2
      clear HP
      go_enter Tryd.func16, Tryd.ntmps16
      go_wp2_with fail
      first | exact HE.out | (go_ret; exact HE.out)
    · by_cases h3 : k = 3
      · have HE := Lib.hid (HP.out 2 (by unfold leafK; rw [if_neg h1, if_pos (.inr h3)]))
        subst h3
        clear HP
        go_enter Tryd.func16, Tryd.ntmps16
        go_wp2_with fail
        first | exact HE.out | (go_ret; exact HE.out)
      · have HE := Lib.hid (HP.out 0 (by unfold leafK; rw [if_neg h1, if_neg (by omega)]))
        have i1 : ¬ (k : Int) = 1 := by omega
        have i2 : ¬ (k : Int) = 2 := by omega
        have i3 : ¬ (k : Int) = 3 := by omega
        clear HP h1 h2 h3
        go_enter Tryd.func16, Tryd.ntmps16
        go_wp2_with fail
        first | exact HE.out | (go_ret; exact HE.out)
def countK (s : Nat) : Nat := (s + 511) / 512
theorem count_any (s : Nat) (hs : s < 4294967296) (w : World) : Calls Tryd.prog 15 #[.int .u32 (s : Int)] w fun e w' => e = .returned (.int .i64 (countK s : Int)) ∧ w' = w := by
  generalize hPost : (fun e w' => e = Ending.returned (.int .i64 (countK s : Int)) ∧ w' = w) = Post
  have HP : Hid (Post (.returned (.int .i64 (countK s : Int))) w) := Lib.hid (by rw [← hPost]; exact ⟨rfl, rfl⟩)
  have e1 : IntKind.u64.wrap (s : Int) = s := by rw [IntKind.wrap_u64]; omega
  have e2 : IntKind.u64.wrap ((s : Int) + 512) = (s : Int) + 512 := by rw [IntKind.wrap_u64]; omega
  have e3 : IntKind.u64.wrap ((s : Int) + 512 - 1) = (s : Int) + 512 - 1 := by rw [IntKind.wrap_u64]; omega
  have e4 : ((s : Int) + 512 - 1).tdiv 512 = (countK s : Int) := by
    rw [Int.tdiv_eq_ediv_of_nonneg (by omega)]
    unfold countK
    omega
  have hc : countK s < 8388609 := by unfold countK; omega
  obtain ⟨c, hcc⟩ : ∃ c, countK s = c := ⟨_, rfl⟩
  rw [hcc] at HP e4 hc
  have e5 : IntKind.u64.wrap (c : Int) = c := by rw [IntKind.wrap_u64]; omega
  have e6 : IntKind.i64.wrap (c : Int) = c := IntWalk.i64_in _ (by omega)
  clear hPost hcc
  go_enter Tryd.func15, Tryd.ntmps15
  go_wp2_with fail
  first | exact HP.out | (go_ret; exact HP.out)
set_option maxRecDepth 100000 in
set_option maxHeartbeats 4000000 in
theorem rooted_any (n : Ino) (h : n.OK) (w : World) (hT : RTab w) : Calls Tryd.prog 18 #[.agg (icells n).toArray] w fun e w' => e = .returned (.bool (rootI n.root)) ∧ Below w.heap.size w w' := by
  have HN := Lib.hid h; have HPO := Lib.hid h.root
  have HB := Lib.hid (Blk.new w (icells n) 32)
  have HW : Hid (Below w.heap.size w (w.alloc (.cells (icells n).toArray 32))) := Lib.hid ((Below.refl _ _).alloc (Nat.le_refl _) _)
  have HT := Lib.hid (hT.alloc (.cells (icells n).toArray 32))
  obtain ⟨b, hb⟩ : ∃ b, rootI n.root = b := ⟨_, rfl⟩
  have HRB := Lib.hid hb
  rw [hb]
  generalize hPost : (fun e w' => e = Ending.returned (.bool b) ∧ Below w.heap.size w w') = Post
  have HP : Hid (∀ w', Below w.heap.size w w' → Post (.returned (.bool b)) w') := Lib.hid fun w' h => by rw [← hPost]; exact ⟨rfl, h⟩
  clear h hT hb hPost
  go_enter Tryd.func18, Tryd.ntmps18
  go_upto_region 1 with fail
  obtain ⟨G, hG⟩ : ∃ G, w.heap.size = G := ⟨_, rfl⟩
  rw [hG] at HB ⊢
  generalize (w.alloc (.cells (icells n).toArray 32)) = W at HB HW HT ⊢
  have c3 := HB.out.cell (j := 3) rfl
  have c4 := HB.out.cell (j := 4) rfl
  obtain ⟨kk, hkk⟩ : ∃ k, n.root.kind = k := ⟨_, rfl⟩
  obtain ⟨ll, hll⟩ : ∃ k, n.root.level = k := ⟨_, rfl⟩
  rw [hkk] at c3
  rw [hll] at c4
  have HK := Lib.hid hkk; have HLL := Lib.hid hll
  clear hkk hll hG
  cases hz : eqP n.root zeroP
  · have HZ := Lib.hid hz
    clear hz
    have HV : Hid (b = (decide (kk = 3) && decide (ll = 2) && mayP n.root)) := Lib.hid (by rw [← HRB.out]; unfold rootI; rw [HZ.out, HK.out, HLL.out]; rfl)
    by_cases h3 : kk = 3
    · subst h3
      by_cases h2 : ll = 2
      · subst h2
        have hv := HV.out
        simp only [decide_true, Bool.true_and] at hv
        subst hv
        go_wp2_with (first | (refine wpL_valG (by rfl) (ex_ldRtI HN.out HB.out rfl rfl) ?_) | (refine wpL_valG (by rfl) (ex_bld0 rfl) ?_) | (refine wpL_valG (by rfl) (ex_eqPb HZ.out rfl rfl rfl HPO.out zeroP_ok) ?_) | fail)
        refine (may_any n.root HPO.out W HT.out).mono ?_
        rintro e w2 ⟨rfl, hb2⟩
        have HE := Lib.hid (HP.out _ (HW.out.trans (hb2.mono HW.out.size)))
        clear hb2
        go_wp2_with fail
        first | exact HE.out | (go_ret; exact HE.out)
      · have hv := HV.out
        rw [decide_eq_false h2] at hv
        simp only [Bool.and_false, Bool.false_and] at hv
        subst hv
        have i2 : ¬ (ll : Int) = 2 := by omega
        have HE := Lib.hid (HP.out _ HW.out)
        go_wp2_with (first | (refine wpL_valG (by rfl) (ex_ldRtI HN.out HB.out rfl rfl) ?_) | (refine wpL_valG (by rfl) (ex_bld0 rfl) ?_) | (refine wpL_valG (by rfl) (ex_eqPb HZ.out rfl rfl rfl HPO.out zeroP_ok) ?_) | fail)
        first | exact HE.out | (go_ret; exact HE.out)
    · have hv := HV.out
      rw [decide_eq_false h3] at hv
      simp only [Bool.false_and] at hv
      subst hv
      have i3 : ¬ (kk : Int) = 3 := by omega
      have HE := Lib.hid (HP.out _ HW.out)
      go_wp2_with (first | (refine wpL_valG (by rfl) (ex_ldRtI HN.out HB.out rfl rfl) ?_) | (refine wpL_valG (by rfl) (ex_bld0 rfl) ?_) | (refine wpL_valG (by rfl) (ex_eqPb HZ.out rfl rfl rfl HPO.out zeroP_ok) ?_) | fail)
      first | exact HE.out | (go_ret; exact HE.out)
  · have HZ := Lib.hid hz
    have hv : b = true := by rw [← HRB.out]; unfold rootI; rw [hz]; rfl
    clear hz
    subst hv
    have HE := Lib.hid (HP.out _ HW.out)
    go_wp2_with (first | (refine wpL_valG (by rfl) (ex_ldRtI HN.out HB.out rfl rfl) ?_) | (refine wpL_valG (by rfl) (ex_bld0 rfl) ?_) | (refine wpL_valG (by rfl) (ex_eqPb HZ.out rfl rfl rfl HPO.out zeroP_ok) ?_) | fail)
    first | exact HE.out | (go_ret; exact HE.out)
end Go.Proofs.YtecngehkdjmjmaaDoor
