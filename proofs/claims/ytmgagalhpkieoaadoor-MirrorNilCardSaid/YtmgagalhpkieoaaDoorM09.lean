/- The document's lists: has, without, last, drop. -/
import Derived.Test.YtmgagalhpkieoaaDoorM08
namespace Go.Proofs.YtmgagalhpkieoaaDoor
open Go.RowKit

/-- Numbers that lie in memory. -/
def NsAt (w : World) (v : Value) (l : List Nat) : Prop :=
  ∃ sp cap, v = .slice sp l.length cap ∧ l.length ≤ cap ∧ cap ≤ maxLen ∧ (0 < l.length → ∃ g, sp = some ⟨g, 0, none⟩ ∧ g < w.heap.size ∧ ∀ (j x : Nat), l[j]? = some x → w.cell? ⟨g, j, none⟩ = some (.int .u16 (x : Int)))
/-- Blocks that lie in memory. -/
def PsAt (w : World) (v : Value) (l : List (Nat × d_Bs)) : Prop :=
  ∃ sp cap, v = .slice sp l.length cap ∧ l.length ≤ cap ∧ cap ≤ maxLen ∧ (0 < l.length → ∃ g, sp = some ⟨g, 0, none⟩ ∧ g < w.heap.size ∧ ∀ (j : Nat) (x : Nat × d_Bs), l[j]? = some x → w.cell? ⟨g, j * 2, none⟩ = some (.int .u16 (x.1 : Int)) ∧ w.cell? ⟨g, j * 2 + 1, none⟩ = some (.string (bstr x.2)))
theorem NsAt.at {w w' : World} {v : Value} {l : List Nat} (h : NsAt w v l) (hs : w.heap.size ≤ w'.heap.size) (hb : ∀ g, v.ownBlock = some g → w'.heap[g]? = w.heap[g]?) : NsAt w' v l := by
  obtain ⟨sp, cap, rfl, h1, h2, h3⟩ := h
  refine ⟨sp, cap, rfl, h1, h2, fun h0 => ?_⟩
  obtain ⟨g, rfl, hg, hc⟩ := h3 h0
  exact ⟨g, rfl, Nat.lt_of_lt_of_le hg hs, fun j x hx => (World.cell?_of_block (a := ⟨g, j, none⟩) (hb g rfl)).trans (hc j x hx)⟩
theorem PsAt.at {w w' : World} {v : Value} {l : List (Nat × d_Bs)} (h : PsAt w v l) (hs : w.heap.size ≤ w'.heap.size) (hb : ∀ g, v.ownBlock = some g → w'.heap[g]? = w.heap[g]?) : PsAt w' v l := by
  obtain ⟨sp, cap, rfl, h1, h2, h3⟩ := h
  refine ⟨sp, cap, rfl, h1, h2, fun h0 => ?_⟩
  obtain ⟨g, rfl, hg, hc⟩ := h3 h0
  exact ⟨g, rfl, Nat.lt_of_lt_of_le hg hs, fun j x hx => ⟨(World.cell?_of_block (a := ⟨g, j * 2, none⟩) (hb g rfl)).trans (hc j x hx).1, (World.cell?_of_block (a := ⟨g, j * 2 + 1, none⟩) (hb g rfl)).trans (hc j x hx).2⟩⟩
theorem NsAt.grown {w w' : World} {v : Value} {l : List Nat} (h : NsAt w v l) (hb : Below w.heap.size w w') : NsAt w' v l := by
  obtain ⟨sp, cap, rfl, h1, h2, h3⟩ := h
  refine ⟨sp, cap, rfl, h1, h2, fun h0 => ?_⟩
  obtain ⟨g, rfl, hg, hc⟩ := h3 h0
  exact ⟨g, rfl, Nat.lt_of_lt_of_le hg hb.size, fun j x hx => (hb.cell (p := ⟨g, j, none⟩) hg).trans (hc j x hx)⟩
theorem PsAt.grown {w w' : World} {v : Value} {l : List (Nat × d_Bs)} (h : PsAt w v l) (hb : Below w.heap.size w w') : PsAt w' v l := by
  obtain ⟨sp, cap, rfl, h1, h2, h3⟩ := h
  refine ⟨sp, cap, rfl, h1, h2, fun h0 => ?_⟩
  obtain ⟨g, rfl, hg, hc⟩ := h3 h0
  exact ⟨g, rfl, Nat.lt_of_lt_of_le hg hb.size, fun j x hx => ⟨(hb.cell (p := ⟨g, j * 2, none⟩) hg).trans (hc j x hx).1, (hb.cell (p := ⟨g, j * 2 + 1, none⟩) hg).trans (hc j x hx).2⟩⟩
def nrow (l : List Nat) : List Value := l.map fun x : Nat => Value.int .u16 (x : Int)
def d_pcells (x : Nat × d_Bs) : List Value := [Value.int .u16 (x.1 : Int), Value.string (bstr x.2)]
def prow (l : List (Nat × d_Bs)) : List Value := l.flatMap d_pcells
theorem prow_snoc (l : List (Nat × d_Bs)) (x : Nat × d_Bs) : prow (l ++ [x]) = prow l ++ d_pcells x := by simp [prow]
theorem nrow_snoc (l : List Nat) (x : Nat) : nrow (l ++ [x]) = nrow l ++ [Value.int .u16 (x : Int)] := by simp [nrow]
theorem prow_at : ∀ (l : List (Nat × d_Bs)) (i : Nat) (x : Nat × d_Bs), l[i]? = some x → (prow l)[i * 2]? = some (Value.int .u16 (x.1 : Int)) ∧ (prow l)[i * 2 + 1]? = some (Value.string (bstr x.2))
  | [], i, x, h => by simp at h
  | y :: l, 0, x, h => by
    simp at h
    subst h
    simp [prow, d_pcells]
  | y :: l, i + 1, x, h => by
    have := prow_at l i x (by simpa using h)
    have e : prow (y :: l) = d_pcells y ++ prow l := by simp [prow]
    rw [e, show (i + 1) * 2 = i * 2 + 2 by omega]
    constructor
    · rw [List.getElem?_append_right (by simp [d_pcells])]
      simpa [d_pcells] using this.1
    · rw [List.getElem?_append_right (by simp [d_pcells])]
      simpa [d_pcells] using this.2
theorem own_ns {w : World} {B : Nat} {v : Value} {l : List Nat} (h : w.ownsRow B 22 1 v l.length (nrow l)) : NsAt w v l := by
  rcases h.2 with ⟨rfl, h0⟩ | ⟨g, cap, cur, rfl, _, hg, hc, hm, _⟩
  · exact ⟨none, 0, by rw [h0], by omega, by unfold maxLen; omega, fun hp => by omega⟩
  · refine ⟨_, cap, rfl, hc, hm, fun _ => ⟨g, rfl, (Array.getElem?_eq_some_iff.1 hg).1, fun j x hx => ?_⟩⟩
    have := h.cells (g := g) rfl j (.int .u16 (x : Int)) (by unfold nrow; rw [List.getElem?_map, hx]; rfl)
    rwa [Addr.add_mid, Nat.zero_add] at this
theorem mem_drop {l : List Nat} {k x : Nat} (h : l[k]? = some x) (a : Nat) : (l.drop k).contains a = ((x == a) || (l.drop (k + 1)).contains a) := by
  obtain ⟨h1, h2⟩ := List.getElem?_eq_some_iff.1 h
  rw [List.drop_eq_getElem_cons h1, h2, List.contains_cons]
  by_cases hxa : x = a
  · subst hxa; simp
  · have h3 : ¬ a = x := fun e => hxa e.symm
    rw [beq_false_of_ne hxa, beq_false_of_ne h3]
theorem take_one {α : Type} {l : List α} {k : Nat} {x : α} (h : l[k]? = some x) : l.take (k + 1) = l.take k ++ [x] := by
  obtain ⟨h2, h3⟩ := List.getElem?_eq_some_iff.1 h
  rw [List.take_succ_eq_append_getElem h2, h3]
theorem info41 : (Tryd.prog.info? 22).map (fun i => (i.zero, i.size, i.bytes)) = some (some (.int .u16 0), 1, 2) := by kernel_rfl
theorem rinfo {t : TypeId} {z : Value} {n m : Nat} (h : (Tryd.prog.info? t).map (fun i => (i.zero, i.size, i.bytes)) = some (some z, n, m)) : ∃ i, Tryd.prog.info? t = some i ∧ i.zero = some z ∧ i.size = n ∧ i.bytes = m := by
  cases hq : Tryd.prog.info? t with
  | none => rw [hq] at h; simp at h
  | some i =>
    rw [hq] at h
    simp at h
    exact ⟨i, rfl, h.1, h.2.1, h.2.2⟩
/-- A row of numbers, the call's own. -/
abbrev OwnN (w : World) (B : Nat) (v : Value) (l : List Nat) : Prop := w.ownsRow B 22 1 v l.length (nrow l)
end Go.Proofs.YtmgagalhpkieoaaDoor
/- The document's lists without an address; its power. -/
namespace Go.Proofs.YtmgagalhpkieoaaDoor
open Go.RowKit

theorem wpL_ok {ops : Array Oper} {rest : List Oper} {o : Oper} {a : Act} {Q : Exit → Act → World → Prop} {w w' : World} {v : Value} (hg : o.guard = none) (hrun : (execOp a.eval o).run Tryd.prog w = .ok (.value v) w')
    (hK : wpList Tryd.prog ops Q rest (a.put o.dst v) w') : wpList Tryd.prog ops Q (o :: rest) a w := by
  refine wpList_plain hg fun K' hK' => ?_
  unfold Oper.wp
  rw [hrun]
  exact hK' _ _ hK
def woN (l : List Nat) (a : Nat) : List Nat := l.filter (fun x => x != a)
theorem woN_snoc (l : List Nat) (x a : Nat) : woN (l ++ [x]) a = if x = a then woN l a else woN l a ++ [x] := by
  unfold woN
  rw [List.filter_append]
  by_cases h : x = a
  · rw [if_pos h]; simp [h]
  · rw [if_neg h]; simp [h]
def NRel (l : List Nat) (a : Nat) (w : World) (N : Nat) (s i : Value) (wr : World) : Prop := ∃ k : Nat, k ≤ N ∧ i = .int .i64 (k : Int) ∧ OwnN wr w.heap.size s (woN (l.take k) a) ∧ Below w.heap.size w wr
theorem own_slice {w : World} {B e k n : Nat} {v : Value} {xs : List Value} (h : w.ownsRow B e k v n xs) : ∃ sp c, v = .slice sp n c := by
  rcases h.2 with ⟨rfl, h0⟩ | ⟨_, c, _, rfl, _⟩
  · exact ⟨none, 0, by rw [h0]⟩
  · exact ⟨_, c, rfl⟩
end Go.Proofs.YtmgagalhpkieoaaDoor
/- The document's disk: what it looks like in memory; block, Look, Read. -/
namespace Go.Proofs.YtmgagalhpkieoaaDoor
open Go.RowKit

/-- The document's disk, plain. -/
structure Rsk where
  n : Nat
  m : List (Nat × d_Bs)
  cache : List (Nat × d_Bs)
  bad : List Nat
  stuck : List Nat
  dead : Bool
  lose : Bool
  astray : Option Nat
def rcells (q : Nat) (vm vc vb vs va : Value) (t : Rsk) : List Value := [.int .i64 (t.n : Int), .pointer (some ⟨q, 0, none⟩), vm, vc, vb, vs, .bool t.dead, .bool t.lose, va]
def rblock (t : Rsk) (a : Nat) : d_Bs := (lastOf t.m a).getD zeros
def rlook (t : Rsk) (a : Nat) : Option d_Bs :=
  if t.dead then none else if a < t.n then (if t.stuck.contains a then none else match lastOf t.cache a with | some b => some b | none => if t.bad.contains a then none else some (rblock t a)) else none
def rreadE (t : Rsk) (p : Pw) (a : Nat) : Int := if t.dead then 3 else if p.on then (if a < t.n then (if (rlook t a).isSome then 0 else 6) else 1) else 3
def rreadB (t : Rsk) (p : Pw) (a : Nat) : d_Bs := if t.dead then [] else if p.on then (if a < t.n then (rlook t a).getD [] else []) else []
structure Small (t : Rsk) : Prop where
  m : t.m.length < 1000000
  c : t.cache.length < 1000000
  b : t.bad.length < 1000000
  s : t.stuck.length < 1000000
theorem zeros_str : bstr zeros = bstr (List.replicate 512 0) := rfl
end Go.Proofs.YtmgagalhpkieoaaDoor
/- The document's disk: one of its cells is put anew. -/
namespace Go.Proofs.YtmgagalhpkieoaaDoor
open Go.RowKit

theorem ext_own {S : Nat → Prop} {w w' : World} {v : Value} {n : Nat} {e B k : Nat} {xs : List Value} (h : w'.ownsRow B e k v n xs) (hs : ∀ g, v.ownBlock = some g → S g ∨ w.heap.size ≤ g) : ∀ g, v.ownBlock = some g → Ext S w w' g := fun g hg => by
  rcases hs g hg with h1 | h1
  · exact .inl h1
  · exact .inr ⟨h1, (h.lt g hg).2⟩
theorem own_new {w0 w : World} {e B k n : Nat} {v : Value} {xs : List Value} {S : Nat → Prop} (h : w.ownsRow B e k v n xs) (hB : w0.heap.size ≤ B) : ∀ g, v.ownBlock = some g → S g ∨ w0.heap.size ≤ g := fun g hg => .inr (Nat.le_trans hB (h.lt g hg).1)
theorem not_old {w w' : World} {e B k n e' B' k' n' : Nat} {v v' : Value} {xs xs' : List Value} (h : w.ownsRow B e k v n xs) (h' : w'.ownsRow B' e' k' v' n' xs') (hB : w.heap.size ≤ B') : ∀ g, v.ownBlock = some g → v'.ownBlock ≠ some g := fun g hg e => by
  have h1 := (h.lt g hg).2
  have h2 := (h'.lt g e).1
  omega
theorem own_lt {w w' : World} {e B k n e' B' k' n' : Nat} {v v' : Value} {xs xs' : List Value} (h : w.ownsRow B e k v n xs) (h' : w'.ownsRow B' e' k' v' n' xs') (hB : w.heap.size ≤ B') : ∀ g, v'.ownBlock = some g → v.ownBlock ≠ some g := fun g hg e => not_old h h' hB g e hg
theorem own0 {w : World} {e B k n : Nat} {v : Value} {xs : List Value} (h : w.ownsRow B e k v n xs) : w.ownsRow 0 e k v n xs := ⟨h.1, h.2.imp id fun ⟨g, cap, cur, h1, _, h3⟩ => ⟨g, cap, cur, h1, Nat.zero_le _, h3⟩⟩
theorem own_slice3 {w : World} {B e k n : Nat} {v : Value} {xs : List Value} (h : w.ownsRow B e k v n xs) : ∃ sp n c, v = .slice sp n c := by
  obtain ⟨sp, c, e⟩ := own_slice h
  exact ⟨sp, n, c, e⟩
end Go.Proofs.YtmgagalhpkieoaaDoor
/- The document's disk: operations by their values; a write that comes to its block. -/
namespace Go.Proofs.YtmgagalhpkieoaaDoor
open Go.RowKit

theorem ex_ldT {ρ : Operand → Value} {o : Oper} {x : Operand} {ad : Addr} {v : Value} {w : World} (ho : o.op = .load 9 x) (hx : ρ x = .pointer (some ad)) (hc : w.cell? ad = some v) : (execOp ρ o).run Tryd.prog w = .ok (.value v) w := by
  unfold execOp
  simp only [ho]
  go_simp
theorem bstr_take (l : d_Bs) (n : Nat) (_ : n ≤ l.length) : (bstr l).extract 0 n = bstr (l.take n) := by
  apply ByteArray.ext
  apply Array.toList_inj.1
  unfold bstr
  simp [List.extract]
theorem bstr_drop (l : d_Bs) (n : Nat) (_ : n ≤ l.length) : (bstr l).extract n l.length = bstr (l.drop n) := by
  apply ByteArray.ext
  apply Array.toList_inj.1
  unfold bstr
  simp [List.extract]
  exact List.take_of_length_le (by simp)
theorem ex_stake {ρ : Operand → Value} {o : Oper} {x y : Operand} {l : d_Bs} {n : Nat} {w : World} (ho : o.op = .slice 9 x none (some y) none) (hx : ρ x = .string (bstr l)) (hy : ρ y = .int .i64 (n : Int)) (hn : n ≤ l.length) :
    (execOp ρ o).run Tryd.prog w = .ok (.value (.string (bstr (l.take n)))) w := by
  have hsz := bstr_size l
  rw [← bstr_take l n hn]
  unfold execOp
  simp only [ho]
  go_simp
theorem ex_sdrop {ρ : Operand → Value} {o : Oper} {x y : Operand} {l : d_Bs} {n : Nat} {w : World} (ho : o.op = .slice 9 x (some y) none none) (hx : ρ x = .string (bstr l)) (hy : ρ y = .int .i64 (n : Int)) (hn : n ≤ l.length) :
    (execOp ρ o).run Tryd.prog w = .ok (.value (.string (bstr (l.drop n)))) w := by
  have hsz := bstr_size l
  rw [← bstr_drop l n hn]
  unfold execOp
  simp only [ho]
  go_simp
def rcame (t : Rsk) (a : Nat) (b : d_Bs) (n : Nat) : Rsk := { t with m := others t.m a ++ [(a, b.take n ++ (rblock t a).drop n)], bad := woN t.bad a }
theorem lastOf_mem : ∀ (l : List (Nat × d_Bs)) (r : Option d_Bs) (a : Nat) (b : d_Bs), l.foldl (fun r x => if x.1 = a then some x.2 else r) r = some b → r = some b ∨ ∃ x ∈ l, x.2 = b
  | [], _, _, _, h => .inl h
  | x :: l, r, a, b, h => by
    rcases lastOf_mem l _ a b h with h | ⟨y, hy, e⟩
    · simp only at h
      by_cases hx : x.1 = a
      · rw [if_pos hx] at h
        exact .inr ⟨x, by simp, by simpa using h⟩
      · rw [if_neg hx] at h
        exact .inl h
    · exact .inr ⟨y, by simp [hy], e⟩
theorem rblock_length {t : Rsk} (a : Nat) (h : ∀ x ∈ t.m, x.2.length = 512) : (rblock t a).length = 512 := by
  unfold rblock
  cases hl : lastOf t.m a with
  | none => exact List.length_replicate
  | some b =>
    rcases lastOf_mem _ _ _ _ hl with h1 | ⟨x, hx, rfl⟩
    · cases h1
    · exact h x hx
theorem own_down {w : World} {e B B' k n : Nat} {v : Value} {xs : List Value} (h : w.ownsRow B e k v n xs) (hB : B' ≤ B) : w.ownsRow B' e k v n xs := ⟨h.1, h.2.imp id fun ⟨g, cap, cur, h1, h2, h3⟩ => ⟨g, cap, cur, h1, Nat.le_trans hB h2, h3⟩⟩
end Go.Proofs.YtmgagalhpkieoaaDoor
/- The document's disk: Write. -/
namespace Go.Proofs.YtmgagalhpkieoaaDoor
open Go.RowKit

def rkept (t : Rsk) (a : Nat) (b : d_Bs) : Rsk := if a < t.n then { t with cache := t.cache ++ [(a, b)] } else t
def rwrote (t : Rsk) (p : Pw) (a : Nat) (b : d_Bs) : Int × Rsk × Pw :=
  if t.dead then (3, t, p) else if p.on = false then (3, t, p) else
  if a < t.n then (if b.length = 512 then
    (if p.step.1 = false then (3, t, p.step.2) else if t.lose then (0, { t with lose := false }, p.step.2) else
      match t.astray with
      | some x => (0, rkept { t with astray := none } x b, p.step.2)
      | none => (0, rkept t a b, p.step.2)) else (1, t, p)) else (1, t, p)
end Go.Proofs.YtmgagalhpkieoaaDoor
/- The document's disk: Flush. -/
namespace Go.Proofs.YtmgagalhpkieoaaDoor
open Go.RowKit

def rall (t : Rsk) (l : List (Nat × d_Bs)) : Rsk := l.foldl (fun t x => rcame t x.1 x.2 512) t
theorem rall_snoc (t : Rsk) (l : List (Nat × d_Bs)) (x : Nat × d_Bs) : rall t (l ++ [x]) = rcame (rall t l) x.1 x.2 512 := by simp [rall, List.foldl_append]
/-- What holds of the document's disk while blocks come: it grows by one at most a time. -/
structure Grows (t u : Rsk) (k : Nat) : Prop where
  n : u.n = t.n
  cache : u.cache = t.cache
  stuck : u.stuck = t.stuck
  dead : u.dead = t.dead
  lose : u.lose = t.lose
  astray : u.astray = t.astray
  m : u.m.length ≤ t.m.length + k
  bad : u.bad.length ≤ t.bad.length
  b : ∀ x ∈ u.m, x.2.length = 512
theorem Grows.refl {t : Rsk} (h : ∀ x ∈ t.m, x.2.length = 512) : Grows t t 0 := ⟨rfl, rfl, rfl, rfl, rfl, rfl, Nat.le_refl _, Nat.le_refl _, h⟩
theorem Grows.came {t u : Rsk} {k : Nat} (h : Grows t u k) (a : Nat) {b : d_Bs} (hb : b.length = 512) {n : Nat} (hn : n ≤ 512) : Grows t (rcame u a b n) (k + 1) := by
  refine ⟨h.n, h.cache, h.stuck, h.dead, h.lose, h.astray, ?_, Nat.le_trans (List.length_filter_le _ _) h.bad, ?_⟩
  · have := List.length_filter_le (fun x : Nat × d_Bs => x.1 != a) u.m
    have h2 := h.m
    simp only [rcame, List.length_append, others, List.length_cons, List.length_nil]
    omega
  · intro x hx
    simp only [rcame] at hx
    rcases List.mem_append.1 hx with hx | hx
    · exact h.b x (List.mem_filter.1 hx).1
    · obtain rfl := by simpa using hx
      have := rblock_length a h.b
      simp [this, hb]
      omega
theorem Grows.skip {t u : Rsk} {k : Nat} (h : Grows t u k) : Grows t u (k + 1) := ⟨h.n, h.cache, h.stuck, h.dead, h.lose, h.astray, Nat.le_succ_of_le h.m, h.bad, h.b⟩
def rflushed (t : Rsk) (p : Pw) : Int × Rsk × Pw :=
  if t.dead then (3, t, p) else if p.step.1 = false then (3, t, p.step.2) else (0, { rall t t.cache with cache := [] }, p.step.2)
/-- Small, and with room for all that the cache holds. -/
structure Room (t : Rsk) : Prop where
  small : Small t
  room : t.m.length + t.cache.length < 1000000
  b : ∀ x ∈ t.m, x.2.length = 512
  c : ∀ x ∈ t.cache, x.1 < 65536 ∧ x.2.length = 512
theorem Room.grows {t u : Rsk} {k : Nat} (h : Room t) (g : Grows t u k) (hk : k ≤ t.cache.length) : Small u :=
  ⟨by have := g.m; have := h.room; omega, by rw [g.cache]; exact h.small.c, Nat.lt_of_le_of_lt g.bad h.small.b, by rw [g.stuck]; exact h.small.s⟩
end Go.Proofs.YtmgagalhpkieoaaDoor
/- The document's disk: Crash. -/
namespace Go.Proofs.YtmgagalhpkieoaaDoor
open Go.RowKit

theorem ex_ia43 {ρ : Operand → Value} {o : Oper} {x y : Operand} {g p n cap k : Nat} {w : World} (ho : o.op = .indexAddr 57 x y) (hx : ρ x = .slice (some ⟨g, p, none⟩) n cap) (hy : ρ y = .int .i64 (k : Int)) (hk : k < n) (_ : n ≤ cap) :
    (execOp ρ o).run Tryd.prog w = .ok (.value (.pointer (some ⟨g, p + k, none⟩))) w := by
  unfold execOp
  simp only [ho]
  go_simp
theorem ex_ld3 {ρ : Operand → Value} {o : Oper} {x : Operand} {ad : Addr} {v : Value} {w : World} (ho : o.op = .load 3 x) (hx : ρ x = .pointer (some ad)) (hc : w.cell? ad = some v) : (execOp ρ o).run Tryd.prog w = .ok (.value v) w := by
  unfold execOp
  simp only [ho]
  go_simp
theorem ex_sub3 {ρ : Operand → Value} {o : Oper} {x : Operand} {z : Int} {w : World} (ho : o.op = .binOp .sub 3 x (.const (.int .i64 2)) 3) (hx : ρ x = .int .i64 z) (hc : ρ (.const (.int .i64 2)) = .int .i64 2) (h1 : 1 < z) (h2 : z ≤ 9223372036854775807) : (execOp ρ o).run Tryd.prog w = .ok (.value (.int .i64 (z - 2))) w := by
  have hw := IntWalk.i64_in (z - 2) (by omega)
  unfold execOp
  simp only [ho]
  go_simp
theorem ex_rem3 {ρ : Operand → Value} {o : Oper} {x : Operand} {z : Int} {w : World} (ho : o.op = .binOp .rem 3 x (.const (.int .i64 512)) 3) (hx : ρ x = .int .i64 (z - 2)) (hc : ρ (.const (.int .i64 512)) = .int .i64 512) (h1 : 1 < z) (h2 : z ≤ 9223372036854775807) : (execOp ρ o).run Tryd.prog w = .ok (.value (.int .i64 ((z - 2) % 512))) w := by
  have hm : Int.tmod (z - 2) 512 = (z - 2) % 512 := Int.tmod_eq_emod_of_nonneg (by omega)
  have hw := IntWalk.i64_in ((z - 2) % 512) (by omega)
  unfold execOp
  simp only [ho]
  go_simp
def rset (zs : List Int) (t : Rsk) : Nat → Rsk
  | 0 => t
  | k + 1 => match t.cache[k]? with | some x => (if pickOf zs k = -1 then rset zs t k else rcame (rset zs t k) x.1 x.2 (pickOf zs k).toNat) | none => rset zs t k
theorem rset_none {zs : List Int} {t : Rsk} {k : Nat} (hp : pickOf zs k = -1) : rset zs t (k + 1) = rset zs t k := by
  simp only [rset]
  cases t.cache[k]? with
  | none => rfl
  | some x => simp only; rw [if_pos hp]
theorem rset_some {zs : List Int} {t : Rsk} {k n : Nat} {x : Nat × d_Bs} (hx : t.cache[k]? = some x) (hp : pickOf zs k = (n : Int)) : rset zs t (k + 1) = rcame (rset zs t k) x.1 x.2 n := by
  simp only [rset, hx]
  rw [if_neg (by omega), hp]
  rfl
theorem pick_z {zs : List Int} {k : Nat} {z : Int} (h : k < zs.length) (hz : zs.getD k 0 = z) : pickOf zs k = left z := by unfold pickOf; rw [if_pos h, hz]
theorem rset_stop {zs : List Int} {t : Rsk} {L : Nat} (hL : zs.length ≤ L ∨ t.cache.length ≤ L) : ∀ j, rset zs t (L + j) = rset zs t L
  | 0 => rfl
  | j + 1 => by
    rw [← rset_stop hL j, show L + (j + 1) = (L + j) + 1 by omega]
    rcases hL with h | h
    · exact rset_none (by unfold pickOf; rw [if_neg (by omega)])
    · simp only [rset]
      rw [List.getElem?_eq_none (by omega)]
def rcrashed (t : Rsk) (zs : List Int) : Rsk := if t.dead then t else { rset zs t t.cache.length with cache := [], lose := false, astray := none }
end Go.Proofs.YtmgagalhpkieoaaDoor
/- The document's disk: Fault. -/
namespace Go.Proofs.YtmgagalhpkieoaaDoor
open Go.RowKit

def rfault (t : Rsk) (k : Nat) (a : Nat) (b : d_Bs) : Int × Rsk :=
  if a < t.n then (if k = 0 ∧ b.length ≠ 512 then (1, t) else (0, match k with
    | 0 => { t with cache := others t.cache a, m := others t.m a ++ [(a, b)] }
    | 1 => { t with cache := others t.cache a, bad := woN t.bad a ++ [a] }
    | _ => { t with cache := others t.cache a, stuck := woN t.stuck a ++ [a] })) else (1, t)
end Go.Proofs.YtmgagalhpkieoaaDoor
