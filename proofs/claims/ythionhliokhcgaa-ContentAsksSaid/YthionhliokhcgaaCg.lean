/- Content: the bytes of a range; what a call leaves; regions within a round. -/
import Derived.Test.YthionhliokhcgaaCf
namespace Go.Proofs.Ythionhliokhcgaa
open Go.RowKit Go.Shelf

attribute [local go_sem] Oper.semAt_some

def byt (m : List B8) (p : Nat) : BitVec 8 := (m.getD (p / 512) []).getD (p % 512) 0
def rng (m : List B8) (a b : Nat) : B8 := (List.range (b - a)).map (fun k => byt m (a + k))
theorem rng_length (m : List B8) (a b : Nat) : (rng m a b).length = b - a := by simp [rng]
theorem rng_get (m : List B8) (a b j : Nat) (h : j < b - a) : (rng m a b)[j]? = some (byt m (a + j)) := by simp [rng, h]
theorem rng_join (m : List B8) (a b c : Nat) (h1 : a ≤ b) (h2 : b ≤ c) : rng m a b ++ rng m b c = rng m a c := by
  apply List.ext_getElem?
  intro j
  rcases Nat.lt_or_ge j (b - a) with h | h
  · rw [List.getElem?_append_left (by rw [rng_length]; exact h), rng_get m a b j h, rng_get m a c j (by omega)]
  · rw [List.getElem?_append_right (by rw [rng_length]; exact h), rng_length]
    rcases Nat.lt_or_ge j (c - a) with h3 | h3
    · rw [rng_get m b c _ (by omega), rng_get m a c j h3, show b + (j - (b - a)) = a + j by omega]
    · rw [List.getElem?_eq_none (by rw [rng_length]; omega), List.getElem?_eq_none (by rw [rng_length]; omega)]
theorem padL_get (l : B8) (q : Nat) (h : q < 512) (hl : l.length ≤ 512) : (padL l)[q]? = some (l.getD q 0) := by
  unfold padL
  rcases Nat.lt_or_ge q l.length with h1 | h1
  · rw [List.getElem?_append_left h1, List.getD_eq_getElem?_getD, List.getElem?_eq_getElem h1]; rfl
  · rw [List.getElem?_append_right h1, List.getElem?_replicate, if_pos (by omega), List.getD_eq_getElem?_getD, List.getElem?_eq_none h1]; rfl
/-- The bytes of a piece. -/
def pcB (m : List B8) (fr te i : Nat) : B8 := ((padL (m.getD (pcO fr i) [])).take (pcT fr te i)).drop (pcF fr i)
theorem getD_le {m : List B8} (hm : ∀ l ∈ m, l.length ≤ 512) (k : Nat) : (m.getD k []).length ≤ 512 := by
  rw [List.getD_eq_getElem?_getD]
  cases h : m[k]? with
  | none => simp
  | some l => exact hm l (List.mem_of_getElem? h)
theorem pcT_le (fr te i : Nat) : pcT fr te i ≤ 512 := by unfold pcT; omega
theorem pc_facts {fr te i : Nat} (h : pcA fr i < te) : pcA fr i = 512 * pcO fr i + pcF fr i ∧ pcA fr (i + 1) = 512 * pcO fr i + 512 ∧ pcF fr i < 512 ∧ pcT fr te i = min (te - 512 * pcO fr i) 512 ∧ pcF fr i < pcT fr te i :=
  ⟨pcA_eq fr i, pcA_succ fr i, pcF_lt fr i, rfl, by
    have h1 := pcA_eq fr i
    have h2 := pcF_lt fr i
    have h3 : pcT fr te i = min (te - 512 * pcO fr i) 512 := rfl
    omega⟩
theorem pcB_rng {m : List B8} (hm : ∀ l ∈ m, l.length ≤ 512) {fr te i : Nat} (h : pcA fr i < te) : pcB m fr te i = rng m (pcA fr i) (min (pcA fr (i + 1)) te) := by
  obtain ⟨h1, h2, h3, h4, h5⟩ := pc_facts h
  have hl := getD_le hm (pcO fr i)
  unfold pcB
  generalize pcA fr i = a at *
  generalize pcA fr (i + 1) = a2 at *
  generalize pcO fr i = K at *
  generalize pcF fr i = F at *
  generalize pcT fr te i = T at *
  apply List.ext_getElem?
  intro j
  rcases Nat.lt_or_ge j (T - F) with hj | hj
  · rw [List.getElem?_drop, List.getElem?_take, if_pos (by omega), padL_get _ _ (by omega) hl, rng_get _ _ _ _ (by omega)]
    unfold byt
    rw [show (a + j) / 512 = K by omega, show (a + j) % 512 = F + j by omega]
  · rw [List.getElem?_eq_none (by rw [List.length_drop, List.length_take, padL_length hl]; omega), List.getElem?_eq_none (by rw [rng_length]; omega)]
theorem pcA_le (fr i : Nat) : fr ≤ pcA fr i := by unfold pcA; split <;> omega
theorem rng_step {m : List B8} (hm : ∀ l ∈ m, l.length ≤ 512) {fr te i : Nat} (h : pcA fr i < te) : rng m fr (min (pcA fr (i + 1)) te) = rng m fr (min (pcA fr i) te) ++ pcB m fr te i := by
  have h1 := pcA_succ fr i
  have h2 := pcA_eq fr i
  have h3 := pcF_lt fr i
  have h4 := pcA_le fr i
  rw [pcB_rng hm h, show min (pcA fr i) te = pcA fr i by omega, rng_join _ _ _ _ h4 (by omega)]
/-- How far a range went: n pieces, all well; or one more, that can't be read. -/
structure Ran (bad : Nat) (wt : Nat → Nat → Bool) (fr te n : Nat) (er : Bool) : Prop where
  all : ∀ j, j < n → pcA fr j < te ∧ (wt (pcF fr j) (pcT fr te j) = true → badAt bad (pcO fr j) = false)
  done : er = false → te ≤ pcA fr n
  last : er = true → pcA fr n < te ∧ wt (pcF fr n) (pcT fr te n) = true ∧ badAt bad (pcO fr n) = true
def ranQ (wt : Nat → Nat → Bool) (fr te n : Nat) (er : Bool) : List Nat := askU wt fr te (if er = true then n + 1 else n)
theorem yc_e (vs : List Value) (bad : Nat) (wt : Nat → Nat → Bool) (fr te i : Nat) : ((yc vs bad wt fr te i).e = 0 ∧ (wt (pcF fr i) (pcT fr te i) = true → badAt bad (pcO fr i) = false)) ∨ ((yc vs bad wt fr te i).e = 21 ∧ wt (pcF fr i) (pcT fr te i) = true ∧ badAt bad (pcO fr i) = true) := by
  unfold yc
  by_cases h1 : wt (pcF fr i) (pcT fr te i) = true
  · rw [if_pos h1]
    by_cases h2 : badAt bad (pcO fr i) = true
    · rw [if_pos h2]; exact .inr ⟨rfl, h1, h2⟩
    · rw [if_neg h2]; exact .inl ⟨rfl, fun _ => by simpa using h2⟩
  · rw [if_neg h1]; exact .inl ⟨rfl, fun h => absurd h h1⟩
theorem yc_ok {vs : List Value} {bad : Nat} {wt : Nat → Nat → Bool} {fr te i : Nat} (h : (yc vs bad wt fr te i).e = 0) : yc vs bad wt fr te i = ⟨pcO fr i, pcF fr i, pcT fr te i, if wt (pcF fr i) (pcT fr te i) = true then vs.getD (pcO fr i) undef else .slice none 0 0, 0⟩ := by
  unfold yc at *
  by_cases h1 : wt (pcF fr i) (pcT fr te i) = true
  · rw [if_pos h1] at *
    by_cases h2 : badAt bad (pcO fr i) = true
    · rw [if_pos h2] at h; simp at h
    · rw [if_neg h2, if_pos h1]
  · rw [if_neg h1, if_neg h1]
/-- The caller's part of what stands: the pieces so far were all well. -/
structure Pre (vs : List Value) (bad : Nat) (wt : Nat → Nat → Bool) (fr te i : Nat) : Prop where
  all : ∀ j, j < i → pcA fr j < te ∧ (yc vs bad wt fr te j).e = 0
theorem Pre.ran {vs : List Value} {bad : Nat} {wt : Nat → Nat → Bool} {fr te i : Nat} (h : Pre vs bad wt fr te i) (hd : te ≤ pcA fr i) : Ran bad wt fr te i false :=
  ⟨fun j hj => ⟨(h.all j hj).1, fun hw => by
    rcases yc_e vs bad wt fr te j with e | e
    · exact e.2 hw
    · have := (h.all j hj).2; rw [e.1] at this; cases this⟩, fun _ => hd, fun e => by cases e⟩
theorem Pre.fail {vs : List Value} {bad : Nat} {wt : Nat → Nat → Bool} {fr te i : Nat} (h : Pre vs bad wt fr te i) (hl : pcA fr i < te) (he : (yc vs bad wt fr te i).e ≠ 0) : Ran bad wt fr te i true :=
  ⟨fun j hj => ⟨(h.all j hj).1, fun hw => by
    rcases yc_e vs bad wt fr te j with e | e
    · exact e.2 hw
    · have := (h.all j hj).2; rw [e.1] at this; cases this⟩, fun e => (by cases e), fun _ => by
    rcases yc_e vs bad wt fr te i with e | e
    · exact absurd e.1 he
    · exact ⟨hl, e.2⟩⟩
theorem Pre.succ {vs : List Value} {bad : Nat} {wt : Nat → Nat → Bool} {fr te i : Nat} (h : Pre vs bad wt fr te i) (hl : pcA fr i < te) (he : (yc vs bad wt fr te i).e = 0) : Pre vs bad wt fr te (i + 1) :=
  ⟨fun j hj => by
    rcases Nat.lt_succ_iff_lt_or_eq.1 hj with hj | rfl
    · exact h.all j hj
    · exact ⟨hl, he⟩⟩
theorem Kp0.own {D : Nat} {avS : Value} {wS : Bas} {A A' : World} (h : Kp0 D avS wS A A') {cs : List Value} (hd : Blk A D cs 33) {B' e k n : Nat} {v : Value} {xs : List Value} (hv : A.ownsRow B' e k v n xs) (h1 : e ≠ 33) (h2 : e ≠ 34) : A'.ownsRow B' e k v n xs := by
  refine ⟨hv.1, ?_⟩
  rcases hv.2 with hx | ⟨g, cap, cur, rfl, hb, hgg, rest⟩
  · exact .inl hx
  · refine .inr ⟨g, cap, cur, rfl, hb, ?_, rest⟩
    have hbk : Blk A g cur.toList e := by unfold Blk; simpa using hgg
    have := h.new g _ _ hbk (fun e' => by subst e'; exact h1 (hbk.same hd)) h2
    unfold Blk at this
    simpa using this
theorem ShW.row_lt {w : World} {B D : Nat} {vs : List Value} {m : List B8} {bad : Nat} {av : Value} {aq : List Nat} (h : ShW w B D vs m bad av aq) : ∀ v ∈ vs, ∀ g, v.ownBlock = some g → g < w.heap.size := fun v hv g hg => by
  obtain ⟨i, hi, he⟩ := List.getElem_of_mem hv
  have him : i < m.length := by rw [h.ml]; rw [h.vl] at hi; exact hi
  exact c_owns_lt (h.row i v m[i] (by rw [List.getElem?_eq_getElem hi, he]) (List.getElem?_eq_getElem him)) hg
theorem cst_start {w W1 wS : World} {B D : Nat} {vs : List Value} {m : List B8} {bad : Nat} {av : Value} {aq : List Nat} (h : ShW w B D vs m bad av aq) (hB : B ≤ w.heap.size) (hb1 : Below w.heap.size w W1) (fr te wf : Nat)
    (hw : wS = (((W1.alloc (.cells #[shC D] 49)).alloc (.cells #[.int .u64 (fr : Int)] 23)).alloc (.cells #[.int .u64 (te : Int)] 23)).alloc (.cells #[.func (.func wf) #[] #[]] 54)) :
    Cst ⟨w, wS.heap.size⟩ B D W1.heap.size vs m bad av fr te wf aq wS ∧ Below W1.heap.size W1 wS := by
  have hb : Below W1.heap.size W1 wS := by rw [hw]; exact ((((Below.refl _ _).alloc (Nat.le_refl _) _).alloc (by simp) _).alloc (by simp; omega) _).alloc (by simp; omega) _
  have hb0 := hb1.trans (hb.mono hb1.size)
  have h' := h.below hb0
  refine ⟨⟨⟨av, h', Chg.of_below hb0, fun g hg => .inl hg, Nat.le_refl _, hb0.size⟩, ?_, ?_, ?_, ?_, by rw [hw]; simp, Nat.le_trans hB hb0.size, h.row_lt, h.d.lt, fun g hg => c_owns_lt h.q hg⟩, hb⟩
  · rw [hw]; exact (((Blk.new' _ _ _ _ _ rfl rfl).alloc _).alloc _).alloc _
  · rw [hw]; exact ((Blk.new' _ _ _ _ _ (by simp) rfl).alloc _).alloc _
  · rw [hw]; exact (Blk.new' _ _ _ _ _ (by simp) rfl).alloc _
  · rw [hw]; exact Blk.new' _ _ _ _ _ (by simp) rfl
theorem c_row1 (w : World) (z : Array Value) (cs : List Value) (t : TypeId) : Blk ((w.alloc (.cells z t)).setRow w.heap.size cs.toArray) w.heap.size cs t ∧ Below w.heap.size w ((w.alloc (.cells z t)).setRow w.heap.size cs.toArray) :=
  ⟨Blk.row (Blk.new' w z z.toList t _ rfl (by simp)) _, below_row ((Below.refl _ _).alloc (Nat.le_refl _) _) (Nat.le_refl _) _⟩
theorem yc_v {w : World} {B D : Nat} {vs : List Value} {m : List B8} {bad : Nat} {av : Value} {aq : List Nat} (h : ShW w B D vs m bad av aq) (wt : Nat → Nat → Bool) (fr te i : Nat) (hi : pcO fr i < 64) : ∃ sp n cap, (yc vs bad wt fr te i).v = .slice sp n cap := by
  unfold yc
  split
  · split
    · exact ⟨_, _, _, rfl⟩
    · obtain ⟨v, h1⟩ : ∃ v, vs[pcO fr i]? = some v := ⟨_, List.getElem?_eq_getElem (by rw [h.vl]; exact hi)⟩
      obtain ⟨l, h2⟩ : ∃ l, m[pcO fr i]? = some l := ⟨_, List.getElem?_eq_getElem (by rw [h.ml]; exact hi)⟩
      obtain ⟨sp, cap, e, _⟩ := c_owns_form (h.row _ _ _ h1 h2)
      refine ⟨sp, l.length, cap, ?_⟩
      show vs.getD _ _ = _
      rw [List.getD_eq_getElem?_getD, h1]
      exact e
  · exact ⟨_, _, _, rfl⟩
theorem pc_one {y : Yc} (h : ∃ sp n cap, y.v = .slice sp n cap) : (pcC y.o y.f y.t y.v).toArray.all (·.oneCell') = true := by
  obtain ⟨sp, n, cap, e⟩ := h
  rw [e, Array.all_eq_true_iff_forall_mem]
  intro u hu
  simp only [List.mem_toArray, List.mem_cons, List.not_mem_nil, or_false] at hu
  rcases hu with rfl | rfl | rfl | rfl <;> rfl
theorem pcO_lt {fr te i : Nat} (h : pcA fr i < te) (ht : te ≤ 32768) : pcO fr i < 64 := by
  have := pcA_eq fr i; omega
theorem Cst.d {wS : Bas} {A : World} {B D G : Nat} {vs : List Value} {m : List B8} {bad : Nat} {avS : Value} {fr te wf : Nat} {aq : List Nat} (h : Cst wS B D G vs m bad avS fr te wf aq A) : ∃ cs, Blk A D cs 33 := by
  obtain ⟨av, h1, _⟩ := h.sh
  exact ⟨_, h1.d⟩
theorem Cst.size {wS : Bas} {A : World} {B D G : Nat} {vs : List Value} {m : List B8} {bad : Nat} {avS : Value} {fr te wf : Nat} {aq : List Nat} (h : Cst wS B D G vs m bad avS fr te wf aq A) : wS.n ≤ A.heap.size := by
  obtain ⟨av, _, h2⟩ := h.sh
  exact h2.sz
/-- What has been said to stand where a round begins, where a value is handed on, where the loop's variables are laid. -/
structure HdJ (wS : Bas) (B D G : Nat) (vs : List Value) (m : List B8) (bad : Nat) (avS : Value) (wt : Nat → Nat → Bool) (fr te wf : Nat) (aq : List Nat) (K : Nat → World → Prop) (i : Nat) (A : World) : Prop where
  c : Cst wS B D G vs m bad avS fr te wf (aq ++ askU wt fr te i) A
  p : Pre vs bad wt fr te i
  k : K i A
structure HdJ1 (wS : Bas) (B D G : Nat) (vs : List Value) (m : List B8) (bad : Nat) (avS : Value) (wt : Nat → Nat → Bool) (fr te wf : Nat) (aq : List Nat) (K : Nat → World → Prop) (i : Nat) (A : World) : Prop where
  c : Cst wS B D G vs m bad avS fr te wf (aq ++ askU wt fr te (i + 1)) A
  p : Pre vs bad wt fr te i
  l : pcA fr i < te
  k : K i A
/-- A part that stays while others' memory turns. -/
def Keeps (D : Nat) (avS : Value) (wS : Bas) (K : Nat → World → Prop) : Prop := ∀ i A A' cs, K i A → Kp0 D avS wS A A' → Blk A D cs 33 → K i A'
section
variable {wS : Bas} {A A' : World} {B D G : Nat} {vs : List Value} {m : List B8} {bad : Nat} {avS : Value} {wt : Nat → Nat → Bool} {fr te wf : Nat} {aq : List Nat} {K : Nat → World → Prop} {i : Nat}
theorem HdJ.grown (h : HdJ wS B D G vs m bad avS wt fr te wf aq K i A) (hK : Keeps D avS wS K) {row : Option Nat} (hg : A.grownBy A' row) (hr : ∀ r, row = some r → wS.n ≤ r ∧ ∃ o : Obj, A.heap[r]? = some o ∧ o.isCells = false) : HdJ wS B D G vs m bad avS wt fr te wf aq K i A' := by
  obtain ⟨cs, hd⟩ := h.c.d
  exact ⟨h.c.grown hg hr, h.p, hK _ _ _ _ h.k (Kp0.grown hg hr h.c.size) hd⟩
theorem HdJ1.grown (h : HdJ1 wS B D G vs m bad avS wt fr te wf aq K i A) (hK : Keeps D avS wS K) {row : Option Nat} (hg : A.grownBy A' row) (hr : ∀ r, row = some r → wS.n ≤ r ∧ ∃ o : Obj, A.heap[r]? = some o ∧ o.isCells = false) : HdJ1 wS B D G vs m bad avS wt fr te wf aq K i A' := by
  obtain ⟨cs, hd⟩ := h.c.d
  exact ⟨h.c.grown hg hr, h.p, h.l, hK _ _ _ _ h.k (Kp0.grown hg hr h.c.size) hd⟩
theorem HdJ1.below (h : HdJ1 wS B D G vs m bad avS wt fr te wf aq K i A) (hK : Keeps D avS wS K) (hb : Below A.heap.size A A') : HdJ1 wS B D G vs m bad avS wt fr te wf aq K i A' := by
  obtain ⟨cs, hd⟩ := h.c.d
  exact ⟨h.c.below hb, h.p, h.l, hK _ _ _ _ h.k (Kps.of_below hb h.c.size).zero hd⟩
theorem hdJ_own (hK : Keeps D avS wS K) : OwnFrom wS.n (fun (pre : List Nat) A => pre = List.range pre.length ∧ HdJ wS B D G vs m bad avS wt fr te wf aq K pre.length A) :=
  fun _ _ _ _ h hg hr => ⟨h.1, h.2.grown hK hg hr⟩
theorem hdJ_ask (hK : Keeps D avS wS K) (i : Nat) (A A' : World) (h : HdJ wS B D G vs m bad avS wt fr te wf aq K i A) (hl : pcA fr i < te) (hc : Cst wS B D G vs m bad avS fr te wf (aq ++ askU wt fr te (i + 1)) A') (k : Kps D avS wS A A') : HdJ1 wS B D G vs m bad avS wt fr te wf aq K i A' := by
  obtain ⟨cs, hd⟩ := h.c.d
  exact ⟨hc, h.p, hl, hK _ _ _ _ h.k k.zero hd⟩
/-- What stands in a round: the piece's box. -/
def HdJ2 (wS : Bas) (B D G : Nat) (vs : List Value) (m : List B8) (bad : Nat) (avS : Value) (wt : Nat → Nat → Bool) (fr te wf : Nat) (aq : List Nat) (K : Nat → World → Prop) (Fr : Nat → Nat → Act) (pre : List Nat) (x : Nat) (a' : Act) (A : World) : Prop :=
  ∃ g, a' = Fr x g ∧ pre = List.range x ∧ wS.n ≤ g ∧ Blk A g (pcC (yc vs bad wt fr te x).o (yc vs bad wt fr te x).f (yc vs bad wt fr te x).t (yc vs bad wt fr te x).v) 56 ∧ HdJ1 wS B D G vs m bad avS wt fr te wf aq K x A
theorem hdJ2_own (hK : Keeps D avS wS K) (Fr : Nat → Nat → Act) : OwnFrom wS.n (fun (p : List Nat × Nat × Act) A => HdJ2 wS B D G vs m bad avS wt fr te wf aq K Fr p.1 p.2.1 p.2.2 A) :=
  fun _ _ _ _ ⟨g, h1, h2, h3, h4, h5⟩ hg hr => ⟨g, h1, h2, h3, blk_grown hg (fun r e => (hr r e).2) h4, h5.grown hK hg hr⟩
end
theorem KeepsFrom.chg {B : Nat} {A A' : World} {F : Nat → Prop} (hc : Chg F A A') (hF : ∀ g, F g → ∃ cs t, Blk A g cs t) : KeepsFrom B A A' := ⟨hc.size, fun k o _ hk ho => by
  rw [hc.block k (Array.getElem?_eq_some_iff.1 hk).1 (fun e => ?_)]
  · exact hk
  · obtain ⟨cs, t, hb⟩ := hF k e
    unfold Blk at hb
    rw [hk] at hb
    cases hb
    cases ho⟩
theorem KeepsFrom.cell {B : Nat} {A : World} {g : Nat} {cs : List Value} {t : TypeId} (hb : Blk A g cs t) (j : Nat) (v : Value) : KeepsFrom B A (A.setCell ⟨g, j, none⟩ v) := KeepsFrom.chg (chg1 A g j v) (fun k e => by have e : k = g := e; rw [e]; exact ⟨_, _, hb⟩)
section
variable {ρ : Operand → Value} {o : Oper} {x lo hi y : Operand} {w : World}
theorem c_slB {g f t : Nat} (ho : o.op = .slice 24 x (some lo) (some hi) none) (hx : ρ x = .slice (some ⟨g, 0, none⟩) 512 512) (hlo : ρ lo = .int .i64 (f : Int)) (hhi : ρ hi = .int .i64 (t : Int)) (h1 : f ≤ t) (h2 : t ≤ 512) (h3 : f < 512) :
    (execOp ρ o).run Try.prog w = .ok (.value (.slice (some ⟨g, f, none⟩) (t - f) (512 - f))) w := by
  have e1 : ¬ (512 : Nat) = f := by omega
  have e2 : ¬ 512 < t := by omega
  have e3 : ¬ t < f := by omega
  have e4 : ¬ (512 : Int) < (t : Int) := by omega
  have e5 : ¬ (t : Int) < (f : Int) := by omega
  unfold execOp
  simp only [ho]
  go_simp
theorem c_ldB {ad : Addr} {v : Value} (ho : o.op = .load 24 x) (hx : ρ x = .pointer (some ad)) (hc : w.cell? ad = some v) : (execOp ρ o).run Try.prog w = .ok (.value v) w := by
  unfold execOp; simp only [ho]; go_simp
theorem c_ldI {ad : Addr} {z : Int} (ho : o.op = .load 3 x) (hx : ρ x = .pointer (some ad)) (hc : w.cell? ad = some (.int .i64 z)) : (execOp ρ o).run Try.prog w = .ok (.value (.int .i64 z)) w := by
  unfold execOp; simp only [ho]; go_simp
theorem c_faPc {g j k : Nat} (hj : (j = 0 ∧ k = 0) ∨ (j = 1 ∧ k = 1) ∨ (j = 2 ∧ k = 2) ∨ (j = 3 ∧ k = 3)) (ho : o.op = .fieldAddr 56 x j) (hx : ρ x = .pointer (some ⟨g, 0, none⟩)) : (execOp ρ o).run Try.prog w = .ok (.value (.pointer (some ⟨g, k, none⟩))) w := by
  unfold execOp
  simp only [ho]
  rcases hj with ⟨rfl, rfl⟩ | ⟨rfl, rfl⟩ | ⟨rfl, rfl⟩ | ⟨rfl, rfl⟩ <;> go_simp
theorem c_stB {ad : Addr} {sp : Option Addr} {n cap : Nat} {u : Value} (ho : o.op = .store 24 x y) (hx : ρ x = .pointer (some ad)) (hy : ρ y = .slice sp n cap) (hc : w.cell? ad = some u) (hf : w.frozen? ad = false) :
    (execOp ρ o).run Try.prog w = .ok .skip (w.setCell ad (.slice sp n cap)) := by
  unfold execOp; simp only [ho]; go_simp
theorem c_appB {v u v' : Value} {w' : World} (ho : o.op = .call { callee := .builtin .append, args := #[x, y], argTypes := #[24, 24] }) (hx : ρ x = v) (hy : ρ y = u)
    (hr : (Builtin.append_ #[24, 24] o.type #[v, u]).run Try.prog w = .ok v' w') : (execOp ρ o).run Try.prog w = .ok (.value v') w' := by
  unfold execOp
  simp only [ho, resolve, invoke, builtin, Sem.run_bind, Sem.run_pure, Result.andThen_ok, List.map_toArray, List.map_cons, List.map_nil, hx, hy, hr]
end
section
variable {ops : Array Oper} {Q : Exit → Act → World → Prop} {S : World → Prop}
/-- It makes memory. -/
theorem cG_mk {i : Nat} {r : Tr} {a : Act} {w : World} (o : Oper) (hi : ops.toList[i]? = some o) (hw : Region.wanted o (yielded ops a.tmps) = true) (v : Value) (w1 : World) (hrun : (execOp a.eval o).run Try.prog w = .ok (.value v) w1)
    (S' : World → Prop) (hS : S' w1) (hSS : ∀ w, S' w → S w) (h : wpG Try.prog ops Q r S' (a.put o.dst v) w1) : wpG Try.prog ops Q (.step i r) S a w := by
  show wpOp Try.prog ops Q i _ a w
  unfold wpOp
  simp only [of_list hi]
  rw [if_pos hw]
  refine .inl ?_
  unfold Oper.wp
  rw [hrun]
  exact ⟨hSS _ hS, S', hSS, hS, h⟩
/-- A store. -/
theorem cG_st {i : Nat} {r : Tr} {a : Act} {w : World} (o : Oper) (hi : ops.toList[i]? = some o) (hw : Region.wanted o (yielded ops a.tmps) = true) (w1 : World) (hrun : (execOp a.eval o).run Try.prog w = .ok .skip w1)
    (S' : World → Prop) (hS : S' w1) (hSS : ∀ w, S' w → S w) (h : wpG Try.prog ops Q r S' (a.put o.dst undef) w1) : wpG Try.prog ops Q (.step i r) S a w := by
  show wpOp Try.prog ops Q i _ a w
  unfold wpOp
  simp only [of_list hi]
  rw [if_pos hw]
  refine .inl ?_
  unfold Oper.wp
  rw [hrun]
  exact ⟨hSS _ hS, S', hSS, hS, h⟩
end
/-- The leaf's row that a piece has, and the bytes. -/
theorem yc_row {w : World} {B D : Nat} {vs : List Value} {m : List B8} {bad : Nat} {av : Value} {aq : List Nat} (h : ShW w B D vs m bad av aq) {k : Nat} (hk : k < 64) : OwnB w 0 (vs.getD k undef) (m.getD k []) := by
  obtain ⟨v, h1⟩ : ∃ v, vs[k]? = some v := ⟨_, List.getElem?_eq_getElem (by rw [h.vl]; exact hk)⟩
  obtain ⟨l, h2⟩ : ∃ l, m[k]? = some l := ⟨_, List.getElem?_eq_getElem (by rw [h.ml]; exact hk)⟩
  rw [List.getD_eq_getElem?_getD, List.getD_eq_getElem?_getD, h1, h2]
  exact h.row k v l h1 h2
theorem ownB_app {w : World} {B : Nat} {v : Value} {l : B8} (h : OwnB w B v l) (hB : B ≤ w.heap.size) {l2 : B8} (hl : l.length + l2.length < 100000000) {g f c : Nat} {cs : List Value} {t : TypeId} (hg : Blk w g cs t) (hcs : ∀ j x, l2[j]? = some x → cs[f + j]? = some (V8 x)) (ty : TypeId) :
    ∃ v' w', (Builtin.append_ #[24, 24] ty #[v, .slice (some ⟨g, f, none⟩) l2.length c]).run Try.prog w = .ok v' w' ∧ OwnB w' B v' (l ++ l2) ∧ w.grownBy w' v.ownBlock ∧ (v'.ownBlock = v.ownBlock ∨ v'.ownBlock = some w.heap.size) := by
  obtain ⟨i0, hi, hz0, hz1, hz2⟩ := info_parts infoB
  obtain ⟨v', w', hr, h2, h3, _, h5⟩ := run_append_own_at (P := Try.prog) w B 24 ty 5 i0 (.int .u8 0) 1 1 Try.underlying24 hi hz0 hz1 hz2 rfl (by decide) v l.length (l.map V8) h ⟨g, f, none⟩ l2.length c (l2.map V8) (by simp) (fun j y hj => by
    rw [Addr.add_mid]
    rw [List.getElem?_map] at hj
    obtain ⟨x, hx, rfl⟩ := Option.map_eq_some_iff.1 hj
    exact hg.cell (hcs j x hx)) (one_v8 l2) (by unfold maxLen; omega) (by omega) hB
  refine ⟨v', w', hr, ?_, h3, h5⟩
  unfold OwnB
  rw [List.map_append, List.length_append]
  exact h2
/-- What a call has left: the leaves, what was asked. -/
def CEnd (w : World) (B D : Nat) (vs : List Value) (m : List B8) (bad : Nat) (av : Value) (aq : List Nat) (A : World) : Prop := ∃ av', ShW A B D vs m bad av' aq ∧ CMv D av w av' A
section
variable {w A A' : World} {wS : Bas} {B D G : Nat} {vs : List Value} {m : List B8} {bad : Nat} {av avS : Value} {fr te wf : Nat} {aq : List Nat}
theorem Cst.fin {n : Nat} (h : Cst ⟨w, n⟩ B D G vs m bad av fr te wf aq A) : CEnd w B D vs m bad av aq A := by
  obtain ⟨av', h1, h2⟩ := h.sh
  exact ⟨av', h1, h2.chg, fun g hg => (h2.own g hg).imp id (Nat.le_trans h2.ws)⟩
theorem CEnd.out (h : CEnd w B D vs m bad av aq A) {F : Nat → Prop} (hc : Chg F A A') (hv : ∀ v ∈ vs, ∀ g, v.ownBlock = some g → ¬ F g) (hF : ∀ g, F g → w.heap.size ≤ g) (hD : ¬ F D) (ha : ∀ av, ShW A B D vs m bad av aq → ∀ g, av.ownBlock = some g → ¬ F g) : CEnd w B D vs m bad av aq A' := by
  obtain ⟨av', h1, h2⟩ := h
  exact ⟨av', h1.out hc hD (ha av' h1) hv, h2.chg.trans hc (fun i hi => .inr (hF i hi)), h2.own⟩
theorem CEnd.set (h : CEnd w B D vs m bad av aq A) {g : Nat} {cs : List Value} {t : TypeId} (hb : Blk A g cs t) (h1 : t ≠ 5) (h3 : t ≠ 33) (h2 : ∀ av, ShW A B D vs m bad av aq → av.ownBlock ≠ some g) (hg : w.heap.size ≤ g) (j : Nat) (v : Value) : CEnd w B D vs m bad av aq (A.setCell ⟨g, j, none⟩ v) := by
  obtain ⟨av', k1, k2⟩ := h
  exact CEnd.out ⟨av', k1, k2⟩ (chg1 A g j v) (k1.row_ne hb h1) (fun k e => by have e : k = g := e; omega) (fun e => by have e : D = g := e; subst e; exact h3 (hb.same k1.d)) (fun av' k1' k hk e => by have e : k = g := e; subst e; exact h2 _ k1' hk)
theorem CEnd.setT (h : CEnd w B D vs m bad av aq A) {g : Nat} {cs : List Value} {t : TypeId} (hb : Blk A g cs t) (h1 : t ≠ 5) (h3 : t ≠ 33) (h2 : t ≠ 34) (hg : w.heap.size ≤ g) (j : Nat) (v : Value) : CEnd w B D vs m bad av aq (A.setCell ⟨g, j, none⟩ v) :=
  h.set hb h1 h3 (fun _ k => c_own_ne k.q hb h2) hg j v
theorem CEnd.grown (h : CEnd w B D vs m bad av aq A) {row : Option Nat} (hg : A.grownBy A' row) (hr : ∀ r, row = some r → w.heap.size ≤ r ∧ ∃ o : Obj, A.heap[r]? = some o ∧ o.isCells = false) : CEnd w B D vs m bad av aq A' := by
  have hno : ∀ {g : Nat} {cs : List Value} {t : TypeId}, Blk A g cs t → ¬ (row = some g) := fun {g cs t} hb e => by
    obtain ⟨_, o, h1, h2⟩ := hr g e
    unfold Blk at hb
    rw [hb] at h1
    cases h1
    cases h2
  obtain ⟨av', k1, k2⟩ := h
  refine CEnd.out ⟨av', k1, k2⟩ (chg_grown hg) (fun v hv g hvg => ?_) (fun g e => (hr g e).1) (hno k1.d) (fun av' k1' g hk => ?_)
  · obtain ⟨i, hi, he⟩ := List.getElem_of_mem hv
    have him : i < m.length := by rw [k1.ml]; rw [k1.vl] at hi; exact hi
    obtain ⟨cs, hb⟩ := c_owns_ty (k1.row i v m[i] (by rw [List.getElem?_eq_getElem hi, he]) (List.getElem?_eq_getElem him)) hvg
    exact hno hb
  · obtain ⟨cs, hb⟩ := c_owns_ty k1'.q hk
    exact hno hb
theorem CEnd.of_below (h : ShW w B D vs m bad av aq) (hb : Below w.heap.size w A) : CEnd w B D vs m bad av aq A := ⟨av, h.below hb, CMv.of_below _ _ hb⟩
end
section
theorem c_upon {P : Program} {o : Oper} {a : Act} {K : Act → World → Prop} {Q : Exit → Act → World → Prop} (l n : Nat) : ∀ r : Result Next, o.upon P a K Q r → o.uponIn (Fence.wide.inRound l) n P a K Q r
  | .ok (.value _) _, h => h
  | .ok .skip _, h => h
  | .ok (.defer _) _, h => h
  | .ok (.enter _ _) _, h => ⟨fun hd => (by cases hd), CallsIn.inRound l (callsIn_wide.2 h)⟩
  | .ok (.row _ _) _, h => ⟨fun hd => (by cases hd), fun c cs _ => let ⟨v, w', r, s⟩ := h c cs; ⟨v, w', r, stepsIn_wide.2 s⟩⟩
  | .halt (.panic _) _, h => h
theorem c_opIn {P : Program} {o : Oper} {a : Act} {w : World} {K : Act → World → Prop} {Q : Exit → Act → World → Prop} (l n : Nat) (hd : ∀ c, o.op ≠ .defer c) (h : o.wp P a w K Q) : o.wpIn (Fence.wide.inRound l) n P a w K Q := by
  refine ⟨fun _ _ => trivial, ?_⟩
  rw [show (Fence.wide.inRound l).round = some l from rfl, Oper.semAt_some l a.eval o hd]
  exact c_upon l n _ h
theorem c_wpOp {P : Program} {ops : Array Oper} {i : Nat} {a : Act} {w : World} {K : Act → World → Prop} {Q : Exit → Act → World → Prop} (l n : Nat) (hd : ∀ o : Oper, ops[i]? = some o → ∀ c, o.op ≠ .defer c) (hQ : ¬ LetsOut Q) (h : wpOp P ops Q i K a w) : wpOpIn (Fence.wide.inRound l) n P ops Q i K a w := by
  unfold wpOp at h
  unfold wpOpIn
  cases ho : ops[i]? with
  | none => rw [ho] at h; exact h
  | some o =>
    rw [ho] at h
    simp only at h ⊢
    by_cases hw : Region.wanted o (yielded ops a.tmps) = true
    · rw [if_pos hw] at h ⊢
      rcases h with h | h
      · exact c_opIn l n (hd o ho) h
      · exact absurd h.2 hQ
    · rw [if_neg hw] at h ⊢
      exact ⟨fun _ _ => trivial, h⟩
theorem c_wpAny {P : Program} {md : Region.Mode} {ops : Array Oper} {Q : Exit → Act → World → Prop} (l n : Nat) (hd : ∀ (i : Nat) (o : Oper), ops[i]? = some o → ∀ c, o.op ≠ .defer c) (hQ : ¬ LetsOut Q) : ∀ (fuel : Nat) (listed : Array Bool) (a : Act) (w : World), wpAny P md ops Q fuel listed a w → wpAnyIn (Fence.wide.inRound l) n P md ops Q fuel listed a w
  | 0, _, _, _, h => h
  | fuel + 1, listed, _, _, h => ⟨h.1, fun i hi => wpOpIn_mono (fun a' w' h' => c_wpAny l n hd hQ fuel _ a' w' h') (c_wpOp l n (hd i) hQ (h.2 i hi))⟩
/-- Has a region no defer statement? -/
def noDef (ops : Array Oper) : Bool := ops.all fun (o : Oper) => match o.op with | .defer _ => false | _ => true
theorem noDef_at {ops : Array Oper} (h : noDef ops = true) : ∀ (i : Nat) (o : Oper), ops[i]? = some o → ∀ c, o.op ≠ .defer c := fun i o ho c e => by
  unfold noDef at h
  rw [Array.all_eq_true'] at h
  have := h o (Array.mem_of_getElem? ho)
  rw [e] at this
  cases this
/-- A region that draws, within a round. -/
theorem c_regionS {P : Program} {ops : Array Oper} {Q : Exit → Act → World → Prop} {n r : Nat} {id : Nat} {a : Act} {w : World} (l : Tr) (hm : P.follows .mixedOrders = true) (hB : schedB ops l = true) (hd : noDef ops = true) (hQ : ∀ d v c a w, Q (.panic c) (a.put d v) w → Q (.panic c) a w) (hL : ¬ LetsOut Q)
    (S : World → Prop) (hS : S w.drew) (h : wpG P ops Q l S a w.drew) : (Code.region id ops true).wpIn (Fence.wide.inRound r) n P Q a w := by
  simp only [schedB, Bool.and_eq_true, beq_iff_eq] at hB
  refine wpIn_region_any hm ?_
  have := wpAnyH_of_sched (P := P) hB.1 hQ l (Array.replicate ops.size false) S a w.drew hB.2.2 hS h
  rw [hB.2.1] at this
  exact c_wpAny r n (noDef_at hd) hL _ _ _ _ (wpAny_of_held _ _ _ _ this)
theorem c_listIn {P : Program} {ops : Array Oper} {Q : Exit → Act → World → Prop} (l n : Nat) (hL : ¬ LetsOut Q) : ∀ (rest : List Oper) (a : Act) (w : World), (∀ o ∈ rest, ∀ c, o.op ≠ .defer c) → wpList P ops Q rest a w → wpListIn (Fence.wide.inRound l) n P ops Q rest a w
  | [], _, _, _, h => h
  | o :: rest, a, w, hd, h => by
    unfold wpList at h
    unfold wpListIn
    by_cases hw : Region.wanted o (yielded ops a.tmps) = true
    · rw [if_pos hw] at h ⊢
      rcases h with h | h
      · exact c_opIn l n (hd o (by simp)) (Oper.wp_mono (fun a' w' h' => c_listIn l n hL rest a' w' (fun o ho => hd o (by simp [ho])) h') h)
      · exact absurd h.2 hL
    · rw [if_neg hw] at h ⊢
      exact ⟨fun _ _ => trivial, c_listIn l n hL rest _ _ (fun o ho => hd o (by simp [ho])) h⟩
/-- All orders come to one and the same. -/
theorem c_join {F : Fence} {n : Nat} {P : Program} {c : Code} {Q : Exit → Act → World → Prop} {a : Act} {w : World} (h : ∃ A W, c.wpIn F n P (fun e a w => e = .normal ∧ a = A ∧ w = W) a w ∧ Q .normal A W) : c.wpIn F n P Q a w := by
  obtain ⟨A, W, h1, h2⟩ := h
  exact wpIn_mono h1 (fun e a w ⟨e1, e2, e3⟩ => by subst e1 e2 e3; exact h2)
/-- From the operation of slot d on, within a round. -/
theorem c_listAt {P : Program} {ops : Array Oper} {Q : Exit → Act → World → Prop} {n r : Nat} (d : Nat) {o : Oper} {rest : List Oper} {a : Act} {w : World} (hd : o.dst = some d) (hn : (o :: rest).all (fun (o : Oper) => match o.op with | .defer _ => false | _ => true) = true) (hL : ¬ LetsOut Q) (h : wpList P ops Q (o :: rest) a w) : wpListIn (Fence.wide.inRound r) n P ops Q (o :: rest) a w :=
  c_listIn r n hL _ _ _ (fun o' ho c e => by
    have := List.all_eq_true.1 hn o' ho
    rw [e] at this
    cases this) h
/-- A region that draws nothing, within a round. -/
theorem c_regionL {P : Program} {ops : Array Oper} {Q : Exit → Act → World → Prop} {n r : Nat} (id : Nat) {a : Act} {w : World} (hd : noDef ops = true) (hL : ¬ LetsOut Q) (h : wpList P ops Q ops.toList a w) : (Code.region id ops false).wpIn (Fence.wide.inRound r) n P Q a w :=
  wpIn_region_list (c_listIn r n hL _ _ _ (fun o ho => by
    obtain ⟨i, hi⟩ := List.getElem?_of_mem ho
    exact noDef_at hd i o (by simpa using hi)) h)
end
end Go.Proofs.Ythionhliokhcgaa
