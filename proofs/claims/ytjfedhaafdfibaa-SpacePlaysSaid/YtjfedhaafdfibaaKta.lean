/- A table of two times sixty-one bools; what the law of P7.4 keeps. -/
import Derived.Test.YtjfedhaafdfibaaKi
import Derived.Test.YtjfedhaafdfibaaKop
import Derived.Laws.Rows
namespace Go.Proofs.Ytjfedhaafdfibaa
open Go.RowKit

def tab (T : Nat → Bool) : List Value := (List.range 122).map fun i => .bool (T i)
def upB (T : Nat → Bool) (i : Nat) (b : Bool) : Nat → Bool := fun x => if x = i then b else T x
theorem tab_length (T : Nat → Bool) : (tab T).length = 122 := by simp [tab]
theorem tab_get (T : Nat → Bool) {i : Nat} (h : i < 122) : (tab T)[i]? = some (.bool (T i)) := by
  unfold tab
  rw [List.getElem?_map, List.getElem?_range h]
  rfl
theorem tab_set (T : Nat → Bool) {i : Nat} (b : Bool) : (tab T).set i (.bool b) = tab (upB T i b) := by
  apply List.ext_getElem?
  intro j
  rw [List.getElem?_set]
  by_cases hj : j < 122
  · rw [tab_get _ hj, tab_get _ hj]
    unfold upB
    by_cases e : i = j
    · subst e; simp [tab_length, hj]
    · rw [if_neg e, if_neg (fun h => e h.symm)]
  · have h1 : (tab (upB T i b))[j]? = none := List.getElem?_eq_none (by rw [tab_length]; omega)
    have h2 : (tab T)[j]? = none := List.getElem?_eq_none (by rw [tab_length]; omega)
    rw [h1, h2]
    split
    · rename_i e; subst e; rw [tab_length, if_neg hj]
    · rfl
theorem one_tab (T : Nat → Bool) : (tab T).toArray.all (·.oneCell') = true := one_ints (fun i => Value.bool (T i)) (fun _ => rfl) _
def noT : Nat → Bool := fun _ => false
theorem zeroT (w : World) : (zeroValue 47).run Try.prog w = .ok (.agg (tab noT).toArray) w := by kernel_rfl
theorem sizeT : (Try.prog.info? 47).map (·.size) = some 122 := by kernel_rfl
theorem run_allocT (w : World) : (Instr.alloc 47 true (.tuple #[])).run Try.prog w = .ok (.pointer (some ⟨w.heap.size, 0, none⟩)) (w.alloc (.cells (tab noT).toArray 47)) := by
  simp [Instr.alloc, zeroT, newVar, newRow, Value.cells, Result.andThen]
section
variable {w : World} {ops : Array Oper} {rest : List Oper} {o : Oper} {a : Act} {Q : Exit → Act → World → Prop}
theorem wpL_allocT (hg : o.guard = none) (hop : o.op = Op.alloc 47)
    (hK : ∀ w', w' = w.alloc (.cells (tab noT).toArray 47) → wpList Try.prog ops Q rest (a.put o.dst (.pointer (some ⟨w.heap.size, 0, none⟩))) w') : wpList Try.prog ops Q (o :: rest) a w := by
  refine wpList_plain hg fun K hK' => ?_
  have hrun := run_allocT w
  unfold Oper.wp
  simp [execOp, hop, hrun, Result.andThen]
  exact hK' _ _ (hK _ rfl)
theorem wpL_storeT (hg : o.guard = none) (x y : Operand) (hop : o.op = Op.store 47 x y) {g : Nat} {T T' : Nat → Bool} (hx : a.eval x = .pointer (some ⟨g, 0, none⟩)) (hy : a.eval y = .agg (tab T').toArray) (hb : Blk w g (tab T) 47)
    (hK : ∀ w', Blk w' g (tab T') 47 → Chg (fun i => i = g) w w' → wpList Try.prog ops Q rest (a.put o.dst undef) w') : wpList Try.prog ops Q (o :: rest) a w :=
  wpList_store_row hg 47 x y hop g (tab T').toArray hx hy 47 (tab T).toArray hb (by rw [sizeT]; simp [tab_length]) (by simp [tab_length]) (one_tab T')
    (hK _ (hb.row _) ((Chg.refl (fun i => i = g) w).setRow (.inl rfl) _))
theorem run_bldT (w : World) : (Instr.build 47 #[]).run Try.prog w = .ok (.agg (tab noT).toArray) w := run_build w 47 _ _ (by kernel_rfl)
end

section
variable {ρ : Operand → Value} {o : Oper} {x y : Operand} {w : World}
theorem exk_ia47 {b d : Nat} (hd : d < 2) (ho : o.op = .indexAddr 47 x y) (hx : ρ x = .pointer (some ⟨b, 0, none⟩)) (hy : ρ y = .int .i64 (d : Int)) : (execOp ρ o).run Try.prog w = .ok (.value (.pointer (some ⟨b, d * 61, none⟩))) w := by
  have hk2 : ¬ 2 ≤ (d : Int) := by omega
  unfold execOp
  simp only [ho]
  go_simp
theorem exk_ia46 {b q a : Nat} (ha : a < 61) (ho : o.op = .indexAddr 46 x y) (hx : ρ x = .pointer (some ⟨b, q, none⟩)) (hy : ρ y = .int .i64 (a : Int)) : (execOp ρ o).run Try.prog w = .ok (.value (.pointer (some ⟨b, q + a, none⟩))) w := by
  have hk2 : ¬ 61 ≤ (a : Int) := by omega
  unfold execOp
  simp only [ho]
  go_simp
theorem exk_stb {ad : Addr} {u : Value} {b : Bool} (ho : o.op = .store 4 x y) (hx : ρ x = .pointer (some ad)) (hy : ρ y = .bool b) (hc : w.cell? ad = some u) (hf : w.frozen? ad = false) : (execOp ρ o).run Try.prog w = .ok .skip (w.setCell ad (.bool b)) := by
  unfold execOp
  simp only [ho]
  go_simp
end
/-- What the law keeps in memory: the space; its own three tables; the acts. -/
structure Ap (w0 w : World) (D g : Nat) (B : Nat → Nat) (sp : Sp) (To Tk Ts : Nat → Bool) (la : List KA) (spa : Option Addr) : Prop where
  live : Live w0 w D B sp
  o : Blk w g (tab To) 47
  k : Blk w (g + 1) (tab Tk) 47
  s : Blk w (g + 2) (tab Ts) 47
  lo : w0.heap.size ≤ g
  acts : KActs w spa la
theorem Live.noT {w0 w : World} {D g : Nat} {B : Nat → Nat} {sp : Sp} {T : Nat → Bool} (h : Live w0 w D B sp) (hb : Blk w g (tab T) 47) : ¬ Of B g := fun hf => by
  rcases hf with hf | hf
  · exact (hb.not (h.at'.ax 0 (by omega)) (by decide)) hf
  · exact (hb.not (h.at'.ax 1 (by omega)) (by decide)) hf
section
variable {w0 w w' : World} {D g : Nat} {B : Nat → Nat} {sp sp' : Sp} {To Tk Ts : Nat → Bool} {la : List KA} {spa : Option Addr}
theorem Ap.step (h : Ap w0 w D g B sp To Tk Ts la spa) (ha : KActs w0 spa la) (h1 : SpAt w' D B sp' ∧ Chg (Of B) w w') : Ap w0 w' D g B sp' To Tk Ts la spa := by
  have hl := h.live.step h1
  exact ⟨hl, h.o.chg h1.2 (h.live.noT h.o), h.k.chg h1.2 (h.live.noT h.k), h.s.chg h1.2 (h.live.noT h.s), h.lo, ha.below hl.bel (Nat.le_refl _)⟩
theorem Ap.below (h : Ap w0 w D g B sp To Tk Ts la spa) (h1 : Below w.heap.size w w') : Ap w0 w' D g B sp To Tk Ts la spa :=
  ⟨h.live.below h1, h.o.below h1 h.o.lt, h.k.below h1 h.k.lt, h.s.below h1 h.s.lt, h.lo, h.acts.below h1 (Nat.le_refl _)⟩
/-- A table is written. -/
theorem Ap.wrote (h : Ap w0 w D g B sp To Tk Ts la spa) (ha : KActs w0 spa la) {k : Nat} (hk : k < 3) (hc : Chg (fun i => i = g + k) w w') {To' Tk' Ts' : Nat → Bool} (ho : if k = 0 then Blk w' g (tab To') 47 else To' = To) (hk' : if k = 1 then Blk w' (g + 1) (tab Tk') 47 else Tk' = Tk) (hs : if k = 2 then Blk w' (g + 2) (tab Ts') 47 else Ts' = Ts) : Ap w0 w' D g B sp To' Tk' Ts' la spa := by
  have hkb : ∃ T, Blk w (g + k) (tab T) 47 := by
    have h3 : k = 0 ∨ k = 1 ∨ k = 2 := by omega
    rcases h3 with rfl | rfl | rfl
    · exact ⟨_, h.o⟩
    · exact ⟨_, h.k⟩
    · exact ⟨_, h.s⟩
  obtain ⟨T, hT⟩ := hkb
  have hlive : Live w0 w' D B sp := by
    refine ⟨h.live.at'.chg hc (hT.not h.live.at'.blk (by decide) ∘ Eq.symm) (fun d hd e => (hT.not (h.live.at'.ax d hd) (by decide)) e.symm), h.live.own, h.live.bel.trans (hc.below (fun i hi => by have := h.lo; omega) h.live.bel.size)⟩
  refine ⟨hlive, ?_, ?_, ?_, h.lo, ha.below hlive.bel (Nat.le_refl _)⟩
  · by_cases e : k = 0
    · rw [if_pos e] at ho; exact ho
    · rw [if_neg e] at ho; subst ho; exact h.o.chg hc (by omega)
  · by_cases e : k = 1
    · rw [if_pos e] at hk'; exact hk'
    · rw [if_neg e] at hk'; subst hk'; exact h.k.chg hc (by omega)
  · by_cases e : k = 2
    · rw [if_pos e] at hs; exact hs
    · rw [if_neg e] at hs; subst hs; exact h.s.chg hc (by omega)
theorem Ap.outs (h : Ap w0 w D g B sp To Tk Ts la spa) (ha : KActs w0 spa la) (i : Nat) (b : Bool) : Ap w0 (w.setCell ⟨g, i, none⟩ (.bool b)) D g B sp (upB To i b) Tk Ts la spa :=
  h.wrote ha (k := 0) (by omega) (chg1 w g i _) (by rw [if_pos rfl, ← tab_set]; exact h.o.set i _) (by simp) (by simp)
theorem Ap.keeps (h : Ap w0 w D g B sp To Tk Ts la spa) (ha : KActs w0 spa la) (i : Nat) (b : Bool) : Ap w0 (w.setCell ⟨g + 1, i, none⟩ (.bool b)) D g B sp To (upB Tk i b) Ts la spa :=
  h.wrote ha (k := 1) (by omega) (chg1 w (g + 1) i _) (by simp) (by rw [if_pos rfl, ← tab_set]; exact h.k.set i _) (by simp)
theorem Ap.sicks (h : Ap w0 w D g B sp To Tk Ts la spa) (ha : KActs w0 spa la) (i : Nat) (b : Bool) : Ap w0 (w.setCell ⟨g + 2, i, none⟩ (.bool b)) D g B sp To Tk (upB Ts i b) la spa :=
  h.wrote ha (k := 2) (by omega) (chg1 w (g + 2) i _) (by simp) (by simp) (by rw [if_pos rfl, ← tab_set]; exact h.s.set i _)
end
/-- What the tables say. -/
structure Says (n : Nat) (sp : Sp) (To Tk Ts : Nat → Bool) : Prop where
  len : ∀ d, d < 2 → (sp d).length + 1 = n
  is : ∀ d i x, d < 2 → (sp d)[i]? = some x → x.is < 3 ∧ To (d * 61 + (i + 1)) = (x.is == 1) ∧ Tk (d * 61 + (i + 1)) = (x.is == 2) ∧ Ts (d * 61 + (i + 1)) = x.sick
theorem idx_ne {d d' i j : Nat} (hd : d < 2) (hd' : d' < 2) (hi : i ≤ 60) (hj : j ≤ 60) (h : d * 61 + i = d' * 61 + j) : d = d' ∧ i = j := by omega
/-- One address is turned, and the tables with it. -/
theorem Says.turn {n : Nat} {sp : Sp} {To Tk Ts To' Tk' Ts' : Nat → Bool} (h : Says n sp To Tk Ts) (hn : n ≤ 60) {d i : Nat} {x y : Ax} (hd : d < 2) (hx : (sp d)[i]? = some x) (hy : y.is < 3)
    (ho : To' = upB To (d * 61 + (i + 1)) (y.is == 1)) (hk : Tk' = upB Tk (d * 61 + (i + 1)) (y.is == 2)) (hs : Ts' = upB Ts (d * 61 + (i + 1)) y.sick) : Says n (put sp d ((sp d).set i y)) To' Tk' Ts' := by
  subst ho hk hs
  refine ⟨fun e he => ?_, fun e j z he hz => ?_⟩
  · by_cases hed : e = d
    · subst hed; rw [put_same, List.length_set]; exact h.len e he
    · rw [put_other _ _ hed]; exact h.len e he
  · have hil := (List.getElem?_eq_some_iff.1 hx).1
    have hl := h.len d hd
    by_cases hed : e = d
    · subst hed
      rw [put_same, List.getElem?_set] at hz
      have hjl : j < (sp e).length := by
        by_cases hij : i = j
        · subst hij; exact hil
        · rw [if_neg hij] at hz; exact (List.getElem?_eq_some_iff.1 hz).1
      by_cases hij : i = j
      · subst hij
        rw [if_pos rfl, if_pos hil] at hz
        cases hz
        simp [upB, hy]
      · rw [if_neg hij] at hz
        have := h.is e j z he hz
        have hne : ¬ e * 61 + (j + 1) = e * 61 + (i + 1) := by omega
        simp only [upB, if_neg hne]
        exact this
    · rw [put_other _ _ hed] at hz
      have hjl := (List.getElem?_eq_some_iff.1 hz).1
      have hl2 := h.len e he
      have hne : ¬ e * 61 + (j + 1) = d * 61 + (i + 1) := fun hh => hed (idx_ne he hd (by omega) (by omega) hh).1
      simp only [upB, if_neg hne]
      exact h.is e j z he hz
theorem upB_same (T : Nat → Bool) (i : Nat) (b : Bool) (h : T i = b) : upB T i b = T := by
  funext x
  unfold upB
  split
  · rename_i e; rw [e, h]
  · rfl
/-- All that are held are free. -/
theorem Says.release {n : Nat} {sp : Sp} {To Tk Ts : Nat → Bool} (h : Says n sp To Tk Ts) : Says n (allS sp (turnA 2 0)) To noT Ts := by
  refine ⟨fun e he => by unfold allS; rw [List.length_map]; exact h.len e he, fun e j z he hz => ?_⟩
  unfold allS at hz
  rw [List.getElem?_map] at hz
  obtain ⟨x, hx, rfl⟩ := Option.map_eq_some_iff.1 hz
  obtain ⟨h1, h2, h3, h4⟩ := h.is e j x he hx
  unfold turnA
  by_cases e2 : x.is = 2
  · rw [if_pos e2]
    refine ⟨by simp, ?_, by simp [noT], h4⟩
    rw [h2, e2]; rfl
  · rw [if_neg e2]
    exact ⟨h1, h2, by simp [noT, e2], h4⟩
theorem cnt_all : ∀ (l : List Ax), (∀ (i : Nat) (x : Ax), l[i]? = some x → x.is < 3) → cnt (isB 0) l + cnt (isB 1) l + cnt (isB 2) l = l.length
  | [], _ => rfl
  | a :: l, h => by
    have h1 := cnt_all l fun i x hx => h (i + 1) x (by simpa using hx)
    have h0 := h 0 a rfl
    simp only [cnt, isB, List.length_cons]
    have h3 : a.is = 0 ∨ a.is = 1 ∨ a.is = 2 := by omega
    rcases h3 with e | e | e <;> simp [e] <;> omega
theorem Says.fresh {n : Nat} (hn : 1 ≤ n) : Says n (freshS (n - 1) (n - 1)) noT noT noT := by
  refine ⟨fun d hd => ?_, fun d i x hd hx => ?_⟩
  · unfold freshS; rw [List.length_replicate]; split <;> omega
  · unfold freshS at hx
    obtain rfl := List.eq_of_mem_replicate (List.mem_of_getElem? hx)
    simp [noT]
/-- What an act on one address comes to. -/
theorem one_cases (sp : Sp) (d a : Nat) (E : Ax → Nat) (A : Ax → Ax) : (oneE sp d a E = 1 ∧ oneS sp d a A = sp) ∨ ∃ i x, a = i + 1 ∧ (sp d)[i]? = some x ∧ oneE sp d a E = E x ∧ oneS sp d a A = put sp d ((sp d).set i (A x)) := by
  unfold oneE oneS
  cases a with
  | zero => left; cases (sp d)[0 - 1]? <;> exact ⟨rfl, rfl⟩
  | succ i =>
    rw [Nat.add_sub_cancel]
    cases hx : (sp d)[i]? with
    | none => exact .inl ⟨rfl, rfl⟩
    | some x => exact .inr ⟨i, x, rfl, hx, rfl, rfl⟩
theorem turn_cases (sp : Sp) (d a f t : Nat) : ((oneE sp d a (turnE f) = 1 ∨ oneE sp d a (turnE f) = 5) ∧ oneS sp d a (turnA f t) = sp) ∨
    ∃ i x, a = i + 1 ∧ (sp d)[i]? = some x ∧ x.is = f ∧ oneE sp d a (turnE f) = 0 ∧ oneS sp d a (turnA f t) = put sp d ((sp d).set i { x with is := t }) := by
  rcases one_cases sp d a (turnE f) (turnA f t) with ⟨h1, h2⟩ | ⟨i, x, h1, h2, h3, h4⟩
  · exact .inl ⟨.inl h1, h2⟩
  · by_cases hf : x.is = f
    · refine .inr ⟨i, x, h1, h2, hf, ?_, ?_⟩
      · rw [h3]; simp [turnE, hf]
      · rw [h4]; simp [turnA, hf]
    · refine .inl ⟨.inr ?_, ?_⟩
      · rw [h3]; simp [turnE, hf]
      · rw [h4]; unfold turnA; rw [if_neg hf, set_same _ _ _ h2, put_self]
end Go.Proofs.Ytjfedhaafdfibaa
