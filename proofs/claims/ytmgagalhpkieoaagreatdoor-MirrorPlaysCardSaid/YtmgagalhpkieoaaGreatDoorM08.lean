/- What a law knows of a disk, of power, and of bytes of its own. -/
import Derived.Test.YtmgagalhpkieoaaGreatDoorM07
namespace Go.Proofs.YtmgagalhpkieoaaGreatDoor
open Go.RowKit

def p0 : Pw := ⟨true, -1⟩
def wk1 (A : d_Bs) : Dsk := (wrote (fresh 9) p0 3 A).2.1
section
variable {ops : Array Oper} {Q : Exit → Act → World → Prop}
end
theorem ex_addS {ρ : Operand → Value} {o : Oper} {x y : Operand} {l m : d_Bs} {w : World} (hlm : l.length + m.length ≤ 1000000) (ho : o.op = .binOp .add 9 x y 9) (hx : ρ x = .string (bstr l)) (hy : ρ y = .string (bstr m)) : (execOp ρ o).run Tryz.prog w = .ok (.value (.string (bstr (l ++ m)))) w := by
  rw [← bstr_add]
  unfold execOp
  simp only [ho]
  go_simp
  rw [bstr_size, bstr_size]
  omega
end Go.Proofs.YtmgagalhpkieoaaGreatDoor
/- The document's lists: has, without, last, drop. -/
namespace Go.Proofs.YtmgagalhpkieoaaGreatDoor
open Go.RowKit

def NsAt (w : World) (v : Value) (l : List Nat) : Prop :=
  ∃ sp cap, v = .slice sp l.length cap ∧ l.length ≤ cap ∧ cap ≤ maxLen ∧ (0 < l.length → ∃ g, sp = some ⟨g, 0, none⟩ ∧ g < w.heap.size ∧ ∀ (j x : Nat), l[j]? = some x → w.cell? ⟨g, j, none⟩ = some (.int .u16 (x : Int)))
def PsAt (w : World) (v : Value) (l : List (Nat × d_Bs)) : Prop :=
  ∃ sp cap, v = .slice sp l.length cap ∧ l.length ≤ cap ∧ cap ≤ maxLen ∧ (0 < l.length → ∃ g, sp = some ⟨g, 0, none⟩ ∧ g < w.heap.size ∧ ∀ (j : Nat) (x : Nat × d_Bs), l[j]? = some x → w.cell? ⟨g, j * 2, none⟩ = some (.int .u16 (x.1 : Int)) ∧ w.cell? ⟨g, j * 2 + 1, none⟩ = some (.string (bstr x.2)))
theorem NsAt.grown {w w' : World} {v : Value} {l : List Nat} (h : NsAt w v l) (hb : Below w.heap.size w w') : NsAt w' v l := by
  obtain ⟨sp, cap, rfl, h1, h2, h3⟩ := h
  refine ⟨sp, cap, rfl, h1, h2, fun h0 => ?_⟩
  obtain ⟨g, rfl, hg, hc⟩ := h3 h0
  exact ⟨g, rfl, Nat.lt_of_lt_of_le hg hb.size, fun j x hx => (hb.cell (p := ⟨g, j, none⟩) hg).trans (hc j x hx)⟩
theorem PsAt.grown {w w' : World} {v : Value} {l : List (Nat × d_Bs)} (h : PsAt w v l) (hb : Below w.heap.size w w') : PsAt w' v l := by
  obtain ⟨sp, cap, rfl, h1, h2, h3⟩ := h
  refine ⟨sp, cap, rfl, h1, h2, fun h0 => ?_⟩
  obtain ⟨g, rfl, hg, hc⟩ := h3 h0
  exact ⟨g, rfl, Nat.lt_of_lt_of_le hg hb.size, fun j x hx => ⟨(hb.cell (p := ⟨g, j * 2, none⟩) hg).trans (hc j x hx).1, (hb.cell (p := ⟨g, j * 2 + 1, none⟩) hg).trans (hc j x hx).2⟩⟩
def nrow (l : List Nat) : List Value := l.map fun x : Nat => Value.int .u16 (x : Int)
def d_pcells (x : Nat × d_Bs) : List Value := [Value.int .u16 (x.1 : Int), Value.string (bstr x.2)]
def prow (l : List (Nat × d_Bs)) : List Value := l.flatMap d_pcells
theorem prow_snoc (l : List (Nat × d_Bs)) (x : Nat × d_Bs) : prow (l ++ [x]) = prow l ++ d_pcells x := by simp [prow]
theorem nrow_snoc (l : List Nat) (x : Nat) : nrow (l ++ [x]) = nrow l ++ [Value.int .u16 (x : Int)] := by simp [nrow]
theorem prow_at : ∀ (l : List (Nat × d_Bs)) (i : Nat) (x : Nat × d_Bs), l[i]? = some x → (prow l)[i * 2]? = some (Value.int .u16 (x.1 : Int)) ∧ (prow l)[i * 2 + 1]? = some (Value.string (bstr x.2))
  | [], i, x, h => by simp at h
  | y :: l, 0, x, h => by
    simp at h
    subst h
    simp [prow, d_pcells]
  | y :: l, i + 1, x, h => by
    have := prow_at l i x (by simpa using h)
    have e : prow (y :: l) = d_pcells y ++ prow l := by simp [prow]
    rw [e, show (i + 1) * 2 = i * 2 + 2 by omega]
    constructor
    · rw [List.getElem?_append_right (by simp [d_pcells])]
      simpa [d_pcells] using this.1
    · rw [List.getElem?_append_right (by simp [d_pcells])]
      simpa [d_pcells] using this.2
theorem own_ns {w : World} {B : Nat} {v : Value} {l : List Nat} (h : w.ownsRow B 52 1 v l.length (nrow l)) : NsAt w v l := by
  rcases h.2 with ⟨rfl, h0⟩ | ⟨g, cap, cur, rfl, _, hg, hc, hm, _⟩
  · exact ⟨none, 0, by rw [h0], by omega, by unfold maxLen; omega, fun hp => by omega⟩
  · refine ⟨_, cap, rfl, hc, hm, fun _ => ⟨g, rfl, (Array.getElem?_eq_some_iff.1 hg).1, fun j x hx => ?_⟩⟩
    have := h.cells (g := g) rfl j (.int .u16 (x : Int)) (by unfold nrow; rw [List.getElem?_map, hx]; rfl)
    rwa [Addr.add_mid, Nat.zero_add] at this
theorem own_ps {w : World} {B : Nat} {v : Value} {l : List (Nat × d_Bs)} (h : w.ownsRow B 173 2 v l.length (prow l)) : PsAt w v l := by
  rcases h.2 with ⟨rfl, h0⟩ | ⟨g, cap, cur, rfl, _, hg, hc, hm, _⟩
  · exact ⟨none, 0, by rw [h0], by omega, by unfold maxLen; omega, fun hp => by omega⟩
  · refine ⟨_, cap, rfl, hc, hm, fun _ => ⟨g, rfl, (Array.getElem?_eq_some_iff.1 hg).1, fun j x hx => ?_⟩⟩
    obtain ⟨h1, h2⟩ := prow_at l j x hx
    have e1 := h.cells (g := g) rfl _ _ h1
    have e2 := h.cells (g := g) rfl _ _ h2
    rw [Addr.add_mid, Nat.zero_add] at e1 e2
    exact ⟨e1, e2⟩

theorem mem_drop {l : List Nat} {k x : Nat} (h : l[k]? = some x) (a : Nat) : (l.drop k).contains a = ((x == a) || (l.drop (k + 1)).contains a) := by
  obtain ⟨h1, h2⟩ := List.getElem?_eq_some_iff.1 h
  rw [List.drop_eq_getElem_cons h1, h2, List.contains_cons]
  by_cases hxa : x = a
  · subst hxa; simp
  · have h3 : ¬ a = x := fun e => hxa e.symm
    rw [beq_false_of_ne hxa, beq_false_of_ne h3]
set_option maxRecDepth 100000 in
theorem rhas_any (l : List Nat) (v : Value) (a : Nat) (_ : a < 65536) (hl : l.length < 1000000) (w : World) (h : NsAt w v l) : Calls Tryz.prog 95 #[v, .int .u16 (a : Int)] w fun e w' => e = .returned (.bool (l.contains a)) ∧ w = w' := by
  obtain ⟨sp, cap, rfl, h1, h2, h3⟩ := h
  have H3 := Lib.hid h3
  obtain ⟨N, hN⟩ : ∃ N, l.length = N := ⟨_, rfl⟩
  have HN := Lib.hid hN
  rw [hN] at h1 hl ⊢
  clear h3 hN
  go_enter Tryz.func95, Tryz.ntmps95
  go_wp2_with fail
  have HR := Lib.hid (show ∃ k : Nat, k ≤ N ∧ (Value.int .i64 0) = .int .i64 (k : Int) ∧ (l.drop k).contains a = l.contains a ∧ w = w from ⟨0, Nat.zero_le _, rfl, by simp, rfl⟩)
  go_loopw [5] (fun i wr => ∃ k : Nat, k ≤ N ∧ i = .int .i64 (k : Int) ∧ (l.drop k).contains a = l.contains a ∧ wr = w) (fun i _ => N - (intOf i).toNat)
  case atStart => exact HR.out
  case round =>
    clear HR
    obtain ⟨k, hk, rfl, hd, rfl⟩ := hrel
    have HD := Lib.hid hd
    clear hd
    have hwk := IntWalk.i64_in ((k : Int) + 1) (by omega)
    by_cases hlt : k < N
    · obtain ⟨x, hx⟩ : ∃ x, l[k]? = some x := ⟨_, List.getElem?_eq_getElem (by have := HN.out; omega)⟩
      obtain ⟨g, rfl, hg, hcl⟩ := H3.out (by have := HN.out; omega)
      have hc := hcl k x hx
      have HX := Lib.hid hx
      clear hcl hx hg
      by_cases hxa : x = a
      · have ht : ((x : Int) == (a : Int)) = true := by rw [hxa]; simp
        have HXA := Lib.hid hxa
        clear hxa
        go_wp2_with fail
        go_ret
        refine ⟨?_, rfl⟩
        rw [← HD.out, mem_drop HX.out, HXA.out]
        simp
      · have ht : ((x : Int) == (a : Int)) = false := by simp; omega
        have HXA := Lib.hid hxa
        clear hxa
        go_wp2_with fail
        go_roundw
        case rel => exact ⟨k + 1, by omega, by go_num, by rw [← HD.out, mem_drop HX.out, beq_false_of_ne HXA.out]; rfl, trivial⟩
        case measure => simp [intOf]; omega
    · obtain rfl : k = N := by omega
      clear hlt hk
      go_wp2_with fail
      go_ret
      refine ⟨?_, rfl⟩
      rw [← HD.out, List.drop_of_length_le (by rw [HN.out]; exact Nat.le_refl _)]
      rfl
theorem take_one {α : Type} {l : List α} {k : Nat} {x : α} (h : l[k]? = some x) : l.take (k + 1) = l.take k ++ [x] := by
  obtain ⟨h2, h3⟩ := List.getElem?_eq_some_iff.1 h
  rw [List.take_succ_eq_append_getElem h2, h3]
set_option maxRecDepth 100000 in
theorem rlast_any (l : List (Nat × d_Bs)) (v : Value) (a : Nat) (_ : a < 65536) (hl : l.length < 1000000) (w : World) (h : PsAt w v l) : Calls Tryz.prog 96 #[v, .int .u16 (a : Int)] w fun e w' => e = .returned (.tuple #[.string (bstr ((lastOf l a).getD [])), .bool (lastOf l a).isSome]) ∧ w = w' := by
  obtain ⟨sp, cap, rfl, h1, h2, h3⟩ := h
  have H3 := Lib.hid h3
  obtain ⟨N, hN⟩ : ∃ N, l.length = N := ⟨_, rfl⟩
  have HN := Lib.hid hN
  rw [hN] at h1 hl ⊢
  clear h3 hN
  have hw0 := IntWalk.i64_in ((N : Int) - 1) (by omega)
  go_enter Tryz.func96, Tryz.ntmps96
  go_wp2_with fail
  have HR := Lib.hid (show ∃ k : Nat, k ≤ N ∧ (Value.int .i64 ((N : Int) - 1)) = .int .i64 ((k : Int) - 1) ∧ lastOf (l.take k) a = lastOf l a ∧ w = w from ⟨N, Nat.le_refl _, rfl, by rw [← HN.out, List.take_length], rfl⟩)
  go_loopw [6] (fun i wr => ∃ k : Nat, k ≤ N ∧ i = .int .i64 ((k : Int) - 1) ∧ lastOf (l.take k) a = lastOf l a ∧ wr = w) (fun i _ => (intOf i + 1).toNat)
  case atStart => exact HR.out
  case round =>
    clear HR hw0
    obtain ⟨k, hk, rfl, hd, rfl⟩ := hrel
    have HD := Lib.hid hd
    clear hd
    by_cases h0 : k = 0
    · subst h0
      go_wp2_with fail
      go_ret2
      rw [← HD.out]
      exact ⟨rfl, rfl⟩
    · obtain ⟨i, rfl⟩ : ∃ i, k = i + 1 := ⟨k - 1, by omega⟩
      have hw1 := IntWalk.i64_in ((i : Int) - 1) (by omega)
      have hlt : i < N := by omega
      obtain ⟨x, hx⟩ : ∃ x, l[i]? = some x := ⟨_, List.getElem?_eq_getElem (by have := HN.out; omega)⟩
      obtain ⟨g, rfl, hg, hcl⟩ := H3.out (by have := HN.out; omega)
      obtain ⟨c0, c1⟩ := hcl i x hx
      have HX := Lib.hid hx
      clear hcl hx hg h0
      by_cases hxa : x.1 = a
      · have ht : ((x.1 : Int) == (a : Int)) = true := by rw [hxa]; simp
        have HXA := Lib.hid hxa
        clear hxa
        go_wp2_with fail
        go_ret2
        have e : lastOf l a = some x.2 := by rw [← HD.out, take_one HX.out, lastOf_snoc, if_pos HXA.out]
        rw [e]
        exact ⟨rfl, rfl⟩
      · have ht : ((x.1 : Int) == (a : Int)) = false := by simp; omega
        have HXA := Lib.hid hxa
        clear hxa
        go_wp2_with fail
        go_roundw
        case rel => exact ⟨i, by omega, rfl, by rw [← HD.out, take_one HX.out, lastOf_snoc, if_neg HXA.out], trivial⟩
        case measure => simp [intOf]
theorem info41 : (Tryz.prog.info? 52).map (fun i => (i.zero, i.size, i.bytes)) = some (some (.int .u16 0), 1, 2) := by kernel_rfl
theorem info92 : (Tryz.prog.info? 173).map (fun i => (i.zero, i.size, i.bytes)) = some (some (.agg #[.int .u16 0, .string ⟨#[]⟩]), 2, 24) := by kernel_rfl
theorem rinfo {t : TypeId} {z : Value} {n m : Nat} (h : (Tryz.prog.info? t).map (fun i => (i.zero, i.size, i.bytes)) = some (some z, n, m)) : ∃ i, Tryz.prog.info? t = some i ∧ i.zero = some z ∧ i.size = n ∧ i.bytes = m := by
  cases hq : Tryz.prog.info? t with
  | none => rw [hq] at h; simp at h
  | some i =>
    rw [hq] at h
    simp at h
    exact ⟨i, rfl, h.1, h.2.1, h.2.2⟩
abbrev OwnN (w : World) (B : Nat) (v : Value) (l : List Nat) : Prop := w.ownsRow B 52 1 v l.length (nrow l)
abbrev OwnP (w : World) (B : Nat) (v : Value) (l : List (Nat × d_Bs)) : Prop := w.ownsRow B 173 2 v l.length (prow l)
theorem ownN_app {w : World} {B : Nat} {v : Value} {l : List Nat} (h : OwnN w B v l) (hB : B ≤ w.heap.size) (hl : l.length < 1000000) (x : Nat) {adr : Addr} {c : Nat} (hnews : ∀ j u, [Value.int .u16 (x : Int)][j]? = some u → w.cell? (adr.add j) = some u) (ty : TypeId) :
    ∃ v' w', (Builtin.append_ #[47, 47] ty #[v, .slice (some adr) 1 c]).run Tryz.prog w = .ok v' w' ∧ OwnN w' B v' (l ++ [x]) ∧ w.grownBy w' v.ownBlock ∧ (v'.ownBlock = v.ownBlock ∨ v'.ownBlock = some w.heap.size) := by
  obtain ⟨i, hi, hz0, hz1, hz2⟩ := rinfo info41
  obtain ⟨v', w', hr, h2, h3, _, h5⟩ := run_append_own_at (P := Tryz.prog) w B 47 ty 52 i _ 1 2 Tryz.underlying47 hi hz0 hz1 hz2 rfl (by decide) v l.length (nrow l) h adr 1 c [Value.int .u16 (x : Int)] rfl hnews (fun y hy => by simp at hy; subst hy; rfl) (by unfold maxLen; omega) (by omega) hB
  exact ⟨v', w', hr, by unfold OwnN; rw [List.length_append, nrow_snoc]; exact h2, h3, h5⟩
theorem ownP_app {w : World} {B : Nat} {v : Value} {l : List (Nat × d_Bs)} (h : OwnP w B v l) (hB : B ≤ w.heap.size) (hl : l.length < 1000000) (x : Nat × d_Bs) {adr : Addr} {c : Nat} (hnews : ∀ j u, (d_pcells x)[j]? = some u → w.cell? (adr.add j) = some u) (ty : TypeId) :
    ∃ v' w', (Builtin.append_ #[46, 46] ty #[v, .slice (some adr) 1 c]).run Tryz.prog w = .ok v' w' ∧ OwnP w' B v' (l ++ [x]) ∧ w.grownBy w' v.ownBlock ∧ (v'.ownBlock = v.ownBlock ∨ v'.ownBlock = some w.heap.size) := by
  obtain ⟨i, hi, hz0, hz1, hz2⟩ := rinfo info92
  obtain ⟨v', w', hr, h2, h3, _, h5⟩ := run_append_own_at (P := Tryz.prog) w B 46 ty 173 i _ 2 24 Tryz.underlying46 hi hz0 hz1 hz2 rfl (by decide) v l.length (prow l) h adr 1 c (d_pcells x) rfl hnews (fun y hy => by simp [d_pcells] at hy; rcases hy with rfl | rfl <;> rfl) (by unfold maxLen; omega) (by omega) hB
  exact ⟨v', w', hr, by unfold OwnP; rw [List.length_append, prow_snoc]; exact h2, h3, h5⟩
end Go.Proofs.YtmgagalhpkieoaaGreatDoor
/- The document's lists without an address; its power. -/
namespace Go.Proofs.YtmgagalhpkieoaaGreatDoor
open Go.RowKit

theorem ex_app38 {ρ : Operand → Value} {o : Oper} {x y : Operand} {v u v' : Value} {w w' : World} (ho : o.op = .call { callee := .builtin .append, args := #[x, y], argTypes := #[47, 47] }) (hx : ρ x = v) (hy : ρ y = u)
    (hr : (Builtin.append_ #[47, 47] o.type #[v, u]).run Tryz.prog w = .ok v' w') : (execOp ρ o).run Tryz.prog w = .ok (.value v') w' := by
  unfold execOp
  simp only [ho, resolve, invoke, builtin, Sem.run_bind, Sem.run_pure, Result.andThen_ok, List.map_toArray, List.map_cons, List.map_nil, hx, hy, hr]
theorem ex_app37 {ρ : Operand → Value} {o : Oper} {x y : Operand} {v u v' : Value} {w w' : World} (ho : o.op = .call { callee := .builtin .append, args := #[x, y], argTypes := #[46, 46] }) (hx : ρ x = v) (hy : ρ y = u)
    (hr : (Builtin.append_ #[46, 46] o.type #[v, u]).run Tryz.prog w = .ok v' w') : (execOp ρ o).run Tryz.prog w = .ok (.value v') w' := by
  unfold execOp
  simp only [ho, resolve, invoke, builtin, Sem.run_bind, Sem.run_pure, Result.andThen_ok, List.map_toArray, List.map_cons, List.map_nil, hx, hy, hr]
theorem wpL_ok {ops : Array Oper} {rest : List Oper} {o : Oper} {a : Act} {Q : Exit → Act → World → Prop} {w w' : World} {v : Value} (hg : o.guard = none) (hrun : (execOp a.eval o).run Tryz.prog w = .ok (.value v) w')
    (hK : wpList Tryz.prog ops Q rest (a.put o.dst v) w') : wpList Tryz.prog ops Q (o :: rest) a w := by
  refine wpList_plain hg fun K' hK' => ?_
  unfold Oper.wp
  rw [hrun]
  exact hK' _ _ hK
def woN (l : List Nat) (a : Nat) : List Nat := l.filter (fun x => x != a)
theorem woN_snoc (l : List Nat) (x a : Nat) : woN (l ++ [x]) a = if x = a then woN l a else woN l a ++ [x] := by
  unfold woN
  rw [List.filter_append]
  by_cases h : x = a
  · rw [if_pos h]; simp [h]
  · rw [if_neg h]; simp [h]
def NRel (l : List Nat) (a : Nat) (w : World) (N : Nat) (s i : Value) (wr : World) : Prop := ∃ k : Nat, k ≤ N ∧ i = .int .i64 (k : Int) ∧ OwnN wr w.heap.size s (woN (l.take k) a) ∧ Below w.heap.size w wr
def PRel (l : List (Nat × d_Bs)) (a : Nat) (w : World) (N : Nat) (s i : Value) (wr : World) : Prop := ∃ k : Nat, k ≤ N ∧ i = .int .i64 (k : Int) ∧ OwnP wr w.heap.size s (others (l.take k) a) ∧ Below w.heap.size w wr
theorem own_slice {w : World} {B e k n : Nat} {v : Value} {xs : List Value} (h : w.ownsRow B e k v n xs) : ∃ sp c, v = .slice sp n c := by
  rcases h.2 with ⟨rfl, h0⟩ | ⟨_, c, _, rfl, _⟩
  · exact ⟨none, 0, by rw [h0]⟩
  · exact ⟨_, c, rfl⟩
set_option maxRecDepth 100000 in
set_option maxHeartbeats 1000000 in
theorem rwithout_any (l : List Nat) (v : Value) (a : Nat) (_ : a < 65536) (hl : l.length < 1000000) (w : World) (h : NsAt w v l) : Calls Tryz.prog 93 #[v, .int .u16 (a : Int)] w fun e w' => ∃ v', e = .returned v' ∧ OwnN w' w.heap.size v' (woN l a) ∧ Below w.heap.size w w' := by
  have HNS := Lib.hid h
  obtain ⟨sp, cap, rfl, h1, h2, h3⟩ := h
  obtain ⟨N, hN⟩ : ∃ N, l.length = N := ⟨_, rfl⟩
  have HN := Lib.hid hN
  rw [hN] at h1 hl HNS ⊢
  clear h3 hN
  go_enter Tryz.func93, Tryz.ntmps93
  go_wp2_with fail
  have HR := Lib.hid (show NRel l a w N (.slice none 0 0) (.int .i64 0) w from ⟨0, Nat.zero_le _, rfl, World.ownsRow_nil _ _ _ _, Below.refl _ _⟩)
  go_loopw [5, 6] (fun s i wr => NRel l a w N s i wr) (fun _ i _ => N - (intOf i).toNat)
  case atStart => exact HR.out
  case round =>
    clear HR
    obtain ⟨k, hk, rfl, hown, hb⟩ := hrel
    obtain ⟨sp2, c2, rfl⟩ := own_slice hown
    have HO := Lib.hid hown
    have HB := Lib.hid hb
    have hns := HNS.out.grown hb
    obtain ⟨sp', cap', e', _, _, h3⟩ := hns
    clear hown hb
    have hwk := IntWalk.i64_in ((k : Int) + 1) (by omega)
    by_cases hlt : k < N
    · obtain ⟨x, hx⟩ : ∃ x, l[k]? = some x := ⟨_, List.getElem?_eq_getElem (by have := HN.out; omega)⟩
      obtain ⟨g, rfl, hg, hcl⟩ := h3 (by have := HN.out; omega)
      have hc := hcl k x hx
      injection e' with q1 q2 q3
      subst q1
      clear q2 q3
      have HX := Lib.hid hx
      clear hcl hx hg
      by_cases hxa : x = a
      · have ht : ((x : Int) != (a : Int)) = false := by rw [hxa]; simp
        have HXA := Lib.hid hxa
        clear hxa
        go_wp2_with fail
        go_roundw
        case rel => exact ⟨k + 1, by omega, by go_num, by rw [take_one HX.out, woN_snoc, if_pos HXA.out]; exact HO.out, HB.out⟩
        case measure => simp [intOf]; omega
      · have ht : ((x : Int) != (a : Int)) = true := by simp; omega
        have HXA := Lib.hid hxa
        clear hxa
        have hlw : (woN (l.take k) a).length < 1000000 := by
          have q1 := List.length_filter_le (fun x => x != a) (l.take k)
          unfold woN
          simp at q1
          have := HN.out
          omega
        obtain ⟨v', w', hr, ho', hgr, _⟩ := ownN_app (HO.out.alloc (.cells #[Value.int .u16 (x : Int)] 52)) (by have := HB.out.size; simp; omega) hlw x (adr := ⟨wr.heap.size, 0, none⟩) (c := 1) (cell_one_new wr _ 52) 47
        have HN2 : Hid (NRel l a w N v' (.int .i64 ((k + 1 : Nat) : Int)) w') := Lib.hid ⟨k + 1, by omega, rfl, by rw [take_one HX.out, woN_snoc, if_neg HXA.out]; exact ho', (HB.out.alloc HB.out.size _).grown hgr (by have := HB.out.size; simp; omega) (fun j hj => (HO.out.lt j hj).1)⟩
        have HRR := Lib.hid hr
        clear ho' hgr hr
        go_wp2_with (first | (at_builtin; refine wpL_ok rfl (ex_app38 rfl rfl rfl HRR.out) ?_) | fail)
        go_roundw
        case rel => exact HN2.out
        case measure => simp [intOf]; omega
    · clear e' h3
      obtain rfl : k = N := by omega
      clear hlt hk
      go_wp2_with fail
      go_ret
      have eN : woN (l.take k) a = woN l a := by rw [List.take_of_length_le (by rw [HN.out]; exact Nat.le_refl _)]
      rw [← eN]
      exact ⟨_, rfl, HO.out, HB.out⟩
set_option maxRecDepth 100000 in
set_option maxHeartbeats 1000000 in
theorem rdrop_any (l : List (Nat × d_Bs)) (v : Value) (a : Nat) (_ : a < 65536) (hl : l.length < 1000000) (w : World) (h : PsAt w v l) : Calls Tryz.prog 92 #[v, .int .u16 (a : Int)] w fun e w' => ∃ v', e = .returned v' ∧ OwnP w' w.heap.size v' (others l a) ∧ Below w.heap.size w w' := by
  have HNS := Lib.hid h
  obtain ⟨sp, cap, rfl, h1, h2, h3⟩ := h
  obtain ⟨N, hN⟩ : ∃ N, l.length = N := ⟨_, rfl⟩
  have HN := Lib.hid hN
  rw [hN] at h1 hl HNS ⊢
  clear h3 hN
  go_enter Tryz.func92, Tryz.ntmps92
  go_wp2_with fail
  have HR := Lib.hid (show PRel l a w N (.slice none 0 0) (.int .i64 0) w from ⟨0, Nat.zero_le _, rfl, World.ownsRow_nil _ _ _ _, Below.refl _ _⟩)
  go_loopw [5, 6] (fun s i wr => PRel l a w N s i wr) (fun _ i _ => N - (intOf i).toNat)
  case atStart => exact HR.out
  case round =>
    clear HR
    obtain ⟨k, hk, rfl, hown, hb⟩ := hrel
    obtain ⟨sp2, c2, rfl⟩ := own_slice hown
    have HO := Lib.hid hown
    have HB := Lib.hid hb
    have hns := HNS.out.grown hb
    obtain ⟨sp', cap', e', _, _, h3⟩ := hns
    clear hown hb
    have hwk := IntWalk.i64_in ((k : Int) + 1) (by omega)
    by_cases hlt : k < N
    · obtain ⟨x, hx⟩ : ∃ x, l[k]? = some x := ⟨_, List.getElem?_eq_getElem (by have := HN.out; omega)⟩
      obtain ⟨g, rfl, hg, hcl⟩ := h3 (by have := HN.out; omega)
      obtain ⟨c0, c1⟩ := hcl k x hx
      injection e' with q1 q2 q3
      subst q1
      clear q2 q3
      have HX := Lib.hid hx
      clear hcl hx hg
      by_cases hxa : x.1 = a
      · have ht : ((x.1 : Int) != (a : Int)) = false := by rw [hxa]; simp
        have HXA := Lib.hid hxa
        clear hxa
        go_wp2_with fail
        go_roundw
        case rel => exact ⟨k + 1, by omega, by go_num, by rw [take_one HX.out, others_snoc, if_pos HXA.out]; exact HO.out, HB.out⟩
        case measure => simp [intOf]; omega
      · have ht : ((x.1 : Int) != (a : Int)) = true := by simp; omega
        have HXA := Lib.hid hxa
        clear hxa
        have hlw : (others (l.take k) a).length < 1000000 := by
          have q1 := List.length_filter_le (fun x : Nat × d_Bs => x.1 != a) (l.take k)
          unfold others
          simp at q1
          have := HN.out
          omega
        obtain ⟨v', w', hr, ho', hgr, _⟩ := ownP_app (HO.out.alloc (.cells (d_pcells x).toArray 173)) (by have := HB.out.size; simp; omega) hlw x (adr := ⟨wr.heap.size, 0, none⟩) (c := 1) (fun j u hj => by rw [Addr.add_mid, Nat.zero_add]; exact (Blk.new wr (d_pcells x) 173).cell hj) 46
        have HN2 : Hid (PRel l a w N v' (.int .i64 ((k + 1 : Nat) : Int)) w') := Lib.hid ⟨k + 1, by omega, rfl, by rw [take_one HX.out, others_snoc, if_neg HXA.out]; exact ho', (HB.out.alloc HB.out.size _).grown hgr (by have := HB.out.size; simp; omega) (fun j hj => (HO.out.lt j hj).1)⟩
        have HRR := Lib.hid hr
        clear ho' hgr hr
        go_wp2_with (first | (at_builtin; refine wpL_ok rfl (ex_app37 rfl rfl rfl HRR.out) ?_) | fail)
        go_roundw
        case rel => exact HN2.out
        case measure => simp [intOf]; omega
    · clear e' h3
      obtain rfl : k = N := by omega
      clear hlt hk
      go_wp2_with fail
      go_ret
      have eN : others (l.take k) a = others l a := by rw [List.take_of_length_le (by rw [HN.out]; exact Nat.le_refl _)]
      rw [← eN]
      exact ⟨_, rfl, HO.out, HB.out⟩
structure RpAt (w : World) (q : Nat) (p : Pw) : Prop where
  blk : Blk w q [.bool (!p.on), .int .i64 p.fuse] 36
  lo : -1 ≤ p.fuse
  hi : p.fuse ≤ 9223372036854775807
theorem RpAt.chg {F : Nat → Prop} {w w' : World} {q : Nat} {p : Pw} (h : RpAt w q p) (hc : Chg F w w') (hn : ¬ F q) : RpAt w' q p := ⟨h.blk.chg hc hn, h.lo, h.hi⟩
theorem rstep_any (q : Nat) (p : Pw) (w : World) (h : RpAt w q p) : Calls Tryz.prog 90 #[.pointer (some ⟨q, 0, none⟩)] w fun e w' => e = .returned (.bool p.step.1) ∧ RpAt w' q p.step.2 ∧ Chg (fun k => k = q) w w' := by
  have H := Lib.hid h
  have c0 : w.cell? ⟨q, 0, none⟩ = some (.bool (!p.on)) := h.blk.cell rfl
  have c1 : w.cell? ⟨q, 1, none⟩ = some (.int .i64 p.fuse) := h.blk.cell rfl
  have f0 := h.blk.free 0
  have f1 := h.blk.free 1
  have hlo := h.lo
  have hhi := h.hi
  clear h
  obtain ⟨on, fu⟩ := p
  simp only at c0 c1 hlo hhi
  unfold Pw.step
  simp only
  cases on
  · rw [if_pos rfl]
    simp only [Bool.not_false] at c0
    go_enter Tryz.func90, Tryz.ntmps90
    go_wp2_with fail
    go_ret
    exact ⟨rfl, H.out, Chg.refl _ _⟩
  · rw [if_neg (by simp)]
    simp only [Bool.not_true] at c0
    by_cases h0 : fu = 0
    · rw [if_pos h0]
      subst h0
      go_enter Tryz.func90, Tryz.ntmps90
      go_wp2_with fail
      go_ret
      exact ⟨rfl, ⟨(H.out.blk.set 0 _).set 1 _, by simp, by simp⟩, (chgQ q 0 _).trans' (chgQ q 1 _)⟩
    · rw [if_neg h0]
      by_cases h1 : 0 < fu
      · rw [if_pos h1]
        have hw := IntWalk.i64_in (fu - 1) (by omega)
        go_enter Tryz.func90, Tryz.ntmps90
        go_wp2_with fail
        go_ret
        exact ⟨rfl, ⟨H.out.blk.set 1 _, by simp; omega, by simp; omega⟩, chgQ q 1 _⟩
      · rw [if_neg h1]
        go_enter Tryz.func90, Tryz.ntmps90
        go_wp2_with fail
        go_ret
        exact ⟨rfl, H.out, Chg.refl _ _⟩
end Go.Proofs.YtmgagalhpkieoaaGreatDoor
