/- The program's mirror in memory: whose each block is, what turns. -/
import Derived.Test.YtmgagalhpkieoaaGreatDoorM26
import Derived.Maps.AppendAt
namespace Go.Proofs.YtmgagalhpkieoaaGreatDoor
open Go.RowKit

def prows (l : List Pt) : List Value := l.flatMap pcells
theorem prows_snoc (l : List Pt) (p : Pt) : prows (l ++ [p]) = prows l ++ pcells p := by simp [prows]
theorem prows_at : ∀ (l : List Pt) (i : Nat) (p : Pt), (∀ q ∈ l, q.OK) → l[i]? = some p → ∀ j, j < 41 → (prows l)[i * 41 + j]? = (pcells p)[j]?
  | [], i, p, _, h, _, _ => by simp at h
  | q :: l, 0, p, hq, h, j, hj => by
    simp only [List.getElem?_cons_zero, Option.some.injEq] at h
    subst h
    have := pcells_length (hq q (by simp))
    show (pcells q ++ prows l)[0 * 41 + j]? = _
    rw [Nat.zero_mul, Nat.zero_add, List.getElem?_append_left (by omega)]
  | q :: l, i + 1, p, hq, h, j, hj => by
    have := pcells_length (hq q (by simp))
    have ih := prows_at l i p (fun x hx => hq x (by simp [hx])) (by simpa using h) j hj
    show (pcells q ++ prows l)[(i + 1) * 41 + j]? = _
    rw [List.getElem?_append_right (by omega), ← ih]
    congr 1
    omega
abbrev OwnM (w : World) (B : Nat) (v : Value) (l : List Pt) : Prop := w.ownsRow B 58 41 v l.length (prows l)
theorem infoPt : (Tryz.prog.info? 58).map (fun i => (i.zero.map (·.cells.size), i.size, i.bytes)) = some (some 41, 41, 56) := by kernel_rfl
theorem info_partsPt : ∃ i z, Tryz.prog.info? 58 = some i ∧ i.zero = some z ∧ z.cells.size = 41 ∧ i.size = 41 ∧ i.bytes = 56 := by
  obtain ⟨i, h1, h2⟩ := Option.map_eq_some_iff.1 infoPt
  simp only [Prod.mk.injEq] at h2
  obtain ⟨z, hz, hz2⟩ := Option.map_eq_some_iff.1 h2.1
  exact ⟨i, z, h1, hz, hz2, h2.2.1, h2.2.2⟩
theorem one_pcells (p : Pt) : ∀ u ∈ pcells p, u.oneCell' = true := fun u hu => by
  have := one_pc p
  rw [Array.all_eq_true'] at this
  exact this u (by simpa using hu)
theorem ownM_app {w : World} {B : Nat} {v : Value} {l : List Pt} (h : OwnM w B v l) (hB : B ≤ w.heap.size) (hl : l.length < 1000000) {p : Pt} (hp : p.OK) {adr : Addr} {c : Nat} (hnews : ∀ j u, (pcells p)[j]? = some u → w.cell? (adr.add j) = some u) (ty : TypeId) :
    ∃ v' w', (Builtin.append_ #[43, 43] ty #[v, .slice (some adr) 1 c]).run Tryz.prog w = .ok v' w' ∧ OwnM w' B v' (l ++ [p]) ∧ w.grownBy w' v.ownBlock ∧ (v'.ownBlock = v.ownBlock ∨ v'.ownBlock = some w.heap.size) := by
  obtain ⟨i0, z, hi, hz0, hz1, hz2, hz3⟩ := info_partsPt
  obtain ⟨v', w', hr, h2, h3, _, h5⟩ := run_append_own_at (P := Tryz.prog) w B 43 ty 58 i0 z 41 56 Tryz.underlying43 hi hz0 hz2 hz3 hz1 (by decide) v l.length (prows l) h adr 1 c (pcells p) (by rw [pcells_length hp]) hnews (one_pcells p) (by unfold maxLen; omega) (by omega) hB
  refine ⟨v', w', hr, ?_, h3, h5⟩
  unfold OwnM
  rw [prows_snoc, List.length_append]
  exact h2
structure Pl where
  M : Nat
  D : Nat → Nat
  Q : Nat
  K : Nat
  B : Nat → Nat
def mcells (P : Pl) (v : Value) (x : Mi Dsk Sp) : List Value :=
  [.pointer (some ⟨P.D 0, 0, none⟩), .pointer (some ⟨P.D 1, 0, none⟩), .int .i64 (x.f 0 : Nat), .int .i64 (x.g 0 : Nat), .int .i64 (x.f 1 : Nat), .int .i64 (x.g 1 : Nat), .pointer (some ⟨P.K, 0, none⟩), v]
structure MiAt (w : World) (lab : Nat → Nat) (P : Pl) (x : Mi Dsk Sp) : Prop where
  mi : ∃ v, Blk w P.M (mcells P v x) 125 ∧ OwnM w 0 v x.mv ∧ ∀ g, v.ownBlock = some g → lab g = 7
  dk : ∀ k, k < 2 → DkAt w (P.D k) P.Q (fun b => lab b = k + 1) (x.d k)
  pw : PwAt w P.Q x.p
  sp : SpAt w P.K P.B x.s
  lq : lab P.Q = 3
  lm : lab P.M = 4
  lk : lab P.K = 5
  lb : ∀ b, Of P.B b → lab b = 6
  lt : ∀ b, lab b ≠ 0 → b < w.heap.size
  ok : ∀ q ∈ x.mv, q.OK
  tab : Tab w
  rt : RTab w
  l8 : lab 1 = 8 ∧ lab 0 = 8
def Foot8 (lab : Nat → Nat) (b : Nat) : Prop := lab b ≠ 0 ∧ lab b ≠ 8
structure Stp (w : World) (lab : Nat → Nat) (w' : World) (lab' : Nat → Nat) : Prop where
  chg : Chg (Foot8 lab) w w'
  eq : ∀ b, b < w.heap.size → lab' b = lab b ∨ lab' b = 0
theorem Stp.refl (w : World) (lab : Nat → Nat) : Stp w lab w lab := ⟨Chg.refl _ _, fun _ _ => .inl rfl⟩
theorem Stp.trans {w w1 w2 : World} {l l1 l2 : Nat → Nat} (h : Stp w l w1 l1) (k : Stp w1 l1 w2 l2) : Stp w l w2 l2 :=
  ⟨h.chg.trans k.chg (fun i hi => by
    by_cases hs : i < w.heap.size
    · left
      unfold Foot8 at *
      rcases h.eq i hs with e | e
      · rw [← e]; exact hi
      · exact absurd e hi.1
    · right; omega), fun b hb => by
    rcases k.eq b (Nat.lt_of_lt_of_le hb h.chg.size) with e | e
    · rw [e]; exact h.eq b hb
    · exact .inr e⟩
theorem Stp.below {w w' : World} {lab : Nat → Nat} (h : Below w.heap.size w w') : Stp w lab w' lab := ⟨Chg.of_below h, fun _ _ => .inl rfl⟩
def MiPost (w : World) (lab : Nat → Nat) (P : Pl) (x' : Mi Dsk Sp) (w' : World) : Prop := ∃ lab', MiAt w' lab' P x' ∧ Stp w lab w' lab'
section
variable {w w' : World} {lab : Nat → Nat} {P : Pl} {x : Mi Dsk Sp}
theorem Tab.chg {F : Nat → Prop} (h : Tab w) (hc : Chg F w w') (hn : ¬ F 1) : Tab w' := h.of_heap (hc.block _ h.lt hn)
theorem RTab.chg {F : Nat → Prop} (h : RTab w) (hc : Chg F w w') (hn : ¬ F 0) : RTab w' := h.of_heap (hc.block _ h.lt hn)
theorem OwnM.chg {F : Nat → Prop} {B : Nat} {v : Value} {l : List Pt} (h : OwnM w B v l) (hc : Chg F w w') (hn : ∀ g, v.ownBlock = some g → ¬ F g) : OwnM w' B v l := owns_chg h hc hn
theorem MiAt.out {F : Nat → Prop} (h : MiAt w lab P x) (hc : Chg F w w') (hF : ∀ b, F b → lab b = 0) : MiAt w' lab P x := by
  have n : ∀ b, lab b ≠ 0 → ¬ F b := fun b hb hf => hb (hF b hf)
  obtain ⟨v, h1, h2, h3⟩ := h.mi
  exact ⟨⟨v, h1.chg hc (n _ (by rw [h.lm]; omega)), h2.chg hc (fun g hg => n _ (by rw [h3 g hg]; omega)), h3⟩, fun k hk => (h.dk k hk).chg hc (fun b hb => n _ (by rw [hb]; omega)), h.pw.chg hc (n _ (by rw [h.lq]; omega)),
    h.sp.chg hc (n _ (by rw [h.lk]; omega)) (fun d hd => n _ (by rw [h.lb _ (of_at P.B hd)]; omega)), h.lq, h.lm, h.lk, h.lb, fun b hb => Nat.lt_of_lt_of_le (h.lt b hb) hc.size, h.ok,
    h.tab.chg hc (n _ (by rw [h.l8.1]; omega)), h.rt.chg hc (n _ (by rw [h.l8.2]; omega)), h.l8⟩
theorem MiAt.below (h : MiAt w lab P x) (hb : Below w.heap.size w w') : MiAt w' lab P x := h.out (F := fun _ => False) (Chg.of_below hb) (fun _ hf => hf.elim)
theorem MiAt.drew (h : MiAt w lab P x) : MiAt w.drew lab P x := h.below (Below.refl _ _).drew
theorem MiPost.refl (h : MiAt w lab P x) : MiPost w lab P x w := ⟨lab, h, Stp.refl _ _⟩
theorem MiPost.of_below (h : MiAt w lab P x) (hb : Below w.heap.size w w') : MiPost w lab P x w' := ⟨lab, h.below hb, Stp.below hb⟩
theorem Stp.post {w2 : World} {l1 : Nat → Nat} {y : Mi Dsk Sp} (h : Stp w lab w' l1) (k : MiPost w' l1 P y w2) : MiPost w lab P y w2 := by
  obtain ⟨l2, h2, k2⟩ := k
  exact ⟨l2, h2, h.trans k2⟩
open Classical in
noncomputable def relab (N : Nat → Prop) (lab : Nat → Nat) (c : Nat) : Nat → Nat := fun b => if N b then c else lab b
theorem relab_new {N : Nat → Prop} {c b : Nat} (hb : N b) : relab N lab c b = c := by unfold relab; rw [if_pos hb]
theorem relab_old {N : Nat → Prop} {c b : Nat} (hb : ¬ N b) : relab N lab c b = lab b := by unfold relab; rw [if_neg hb]
theorem MiAt.stepN (h : MiAt w lab P x) {k : Nat} (hk : k < 2) {s' : Dsk} {p' : Pw} {N : Nat → Prop} (hN : ∀ b, N b → w.heap.size ≤ b ∧ b < w'.heap.size) (hd : DkAt w' (P.D k) P.Q (fun b => lab b = k + 1 ∨ N b) s') (hp : PwAt w' P.Q p') (hc : Chg (fun b => lab b = k + 1 ∨ b = P.Q) w w') :
    MiAt w' (relab N lab (k + 1)) P { x with d := upk x.d k s', p := p' } ∧ Stp w lab w' (relab N lab (k + 1)) := by
  have n : ∀ b, lab b ≠ k + 1 → lab b ≠ 3 → ¬ (lab b = k + 1 ∨ b = P.Q) := fun b h1 h2 hf => by
    rcases hf with hf | rfl
    · exact h1 hf
    · exact h2 h.lq
  have old : ∀ b, lab b ≠ 0 → relab N lab (k + 1) b = lab b := fun b hb => relab_old (fun hn => by have := (hN b hn).1; have := h.lt b hb; omega)
  have new : ∀ b j, j ≠ k + 1 → relab N lab (k + 1) b = j → lab b = j := fun b j hj he => by
    by_cases hb : N b
    · rw [relab_new hb] at he; exact absurd he.symm hj
    · rw [relab_old hb] at he; exact he
  have own : ∀ b, relab N lab (k + 1) b = k + 1 ↔ (lab b = k + 1 ∨ N b) := fun b => by
    by_cases hb : N b
    · rw [relab_new hb]; simp [hb]
    · rw [relab_old hb]; simp [hb]
  refine ⟨?_, ⟨hc.mono (fun b hb => ?_), fun b hb => .inl (relab_old (fun hn => by have := (hN b hn).1; omega))⟩⟩
  · obtain ⟨v, h1, h2, h3⟩ := h.mi
    have nm : ¬ (lab P.M = k + 1 ∨ P.M = P.Q) := n _ (by rw [h.lm]; omega) (by rw [h.lm]; omega)
    refine ⟨⟨v, h1.chg hc nm, h2.chg hc (fun g hg => n _ (by rw [h3 g hg]; omega) (by rw [h3 g hg]; omega)), fun g hg => by rw [old _ (by rw [h3 g hg]; omega)]; exact h3 g hg⟩, fun i hi => ?_, hp,
      h.sp.chg hc (n _ (by rw [h.lk]; omega) (by rw [h.lk]; omega)) (fun d hd => n _ (by rw [h.lb _ (of_at P.B hd)]; omega) (by rw [h.lb _ (of_at P.B hd)]; omega)),
      by rw [old _ (by rw [h.lq]; omega)]; exact h.lq, by rw [old _ (by rw [h.lm]; omega)]; exact h.lm, by rw [old _ (by rw [h.lk]; omega)]; exact h.lk, fun b hb => by rw [old _ (by rw [h.lb b hb]; omega)]; exact h.lb b hb,
      fun b hb => ?_, h.ok, h.tab.chg hc (n _ (by rw [h.l8.1]; omega) (by rw [h.l8.1]; omega)), h.rt.chg hc (n _ (by rw [h.l8.2]; omega) (by rw [h.l8.2]; omega)),
      by rw [old _ (by rw [h.l8.1]; omega)]; exact h.l8.1, by rw [old _ (by rw [h.l8.2]; omega)]; exact h.l8.2⟩
    · by_cases e : i = k
      · subst e
        show DkAt w' (P.D i) P.Q _ (upk x.d i s' i)
        rw [upk_same]
        exact hd.mono (fun b hb => (own b).2 hb) (fun hb => by have hb : relab N lab (i + 1) P.Q = i + 1 := hb; rw [old _ (by rw [h.lq]; omega), h.lq] at hb; omega) (fun b hb => hd.lt b ((own b).1 hb))
      · show DkAt w' (P.D i) P.Q _ (upk x.d k s' i)
        rw [upk_other _ _ e]
        refine ((h.dk i hi).chg hc (fun b hb => n _ (by rw [hb]; omega) (by rw [hb]; omega))).mono (fun b hb => by have hb : lab b = i + 1 := hb; show relab N lab (k + 1) b = i + 1; rw [old _ (by omega)]; exact hb) (fun hb => by have hb : relab N lab (k + 1) P.Q = i + 1 := hb; rw [old _ (by rw [h.lq]; omega), h.lq] at hb; omega) (fun b hb => ?_)
        have := new b (i + 1) (by omega) hb
        exact Nat.lt_of_lt_of_le (h.lt b (by omega)) hc.size
    · by_cases hn : N b
      · exact (hN b hn).2
      · rw [relab_old hn] at hb
        exact Nat.lt_of_lt_of_le (h.lt b hb) hc.size
  · rcases hb with hb | rfl
    · exact ⟨by omega, by omega⟩
    · exact ⟨by rw [h.lq]; omega, by rw [h.lq]; omega⟩
theorem MiAt.stepD (h : MiAt w lab P x) {k : Nat} (hk : k < 2) {s' : Dsk} {p' : Pw} (hd : DkAt w' (P.D k) P.Q (Ext (fun b => lab b = k + 1) w w') s') (hp : PwAt w' P.Q p') (hc : Chg (fun b => lab b = k + 1 ∨ b = P.Q) w w') :
    MiPost w lab P { x with d := upk x.d k s', p := p' } w' := ⟨_, h.stepN hk (N := fun b => w.heap.size ≤ b ∧ b < w'.heap.size) (fun _ h => h) hd hp hc⟩
theorem MiAt.stayD (h : MiAt w lab P x) {k : Nat} (hk : k < 2) {s' : Dsk} {p' : Pw} (hd : DkAt w' (P.D k) P.Q (fun b => lab b = k + 1) s') (hp : PwAt w' P.Q p') (hc : Chg (fun b => lab b = k + 1 ∨ b = P.Q) w w') :
    MiPost w lab P { x with d := upk x.d k s', p := p' } w' := h.stepD hk (hd.ext (h.lt _ (by rw [h.lq]; omega))) hp hc
theorem MiAt.power (h : MiAt w lab P x) {p' : Pw} (hp : PwAt w' P.Q p') (hc : Chg (fun b => b = P.Q) w w') : MiPost w lab P { x with p := p' } w' := by
  have hd := (h.dk 0 (by omega)).power hc
  obtain ⟨l', h', s'⟩ := h.stayD (k := 0) (by omega) hd hp (hc.mono (fun _ hb => .inr hb))
  have e : upk x.d 0 (x.d 0) = x.d := by funext i; unfold upk; split <;> simp_all
  rw [e] at h'
  exact ⟨l', h', s'⟩
theorem MiAt.selfE (h : MiAt w lab P x) {lab' : Nat → Nat} {y : Mi Dsk Sp} (hd : y.d = x.d) (hpw : y.p = x.p) (hs : ∀ b, b < w.heap.size → lab' b = lab b) (hn : ∀ b, w.heap.size ≤ b → lab' b = 0 ∨ (lab' b = 7 ∧ b < w'.heap.size))
    (hmi : ∃ v, Blk w' P.M (mcells P v y) 125 ∧ OwnM w' 0 v y.mv ∧ ∀ g, v.ownBlock = some g → lab' g = 7) (hsp : SpAt w' P.K P.B y.s) (hok : ∀ q ∈ y.mv, q.OK) (hc : Chg (fun b => lab b = 4 ∨ lab b = 6 ∨ lab b = 7) w w') : MiAt w' lab' P y ∧ Stp w lab w' lab' := by
  have old : ∀ b, lab b ≠ 0 → lab' b = lab b := fun b hb => hs b (h.lt b hb)
  have n : ∀ b, lab b ≠ 4 → lab b ≠ 6 → lab b ≠ 7 → ¬ (lab b = 4 ∨ lab b = 6 ∨ lab b = 7) := fun b h1 h2 h3 hf => by omega
  refine ⟨⟨hmi, fun i hi => ?_, ?_, hsp, by rw [old _ (by rw [h.lq]; omega)]; exact h.lq, by rw [old _ (by rw [h.lm]; omega)]; exact h.lm, by rw [old _ (by rw [h.lk]; omega)]; exact h.lk, fun b hb => by rw [old _ (by rw [h.lb b hb]; omega)]; exact h.lb b hb,
    fun b hb => ?_, hok, h.tab.chg hc (n _ (by rw [h.l8.1]; omega) (by rw [h.l8.1]; omega) (by rw [h.l8.1]; omega)), h.rt.chg hc (n _ (by rw [h.l8.2]; omega) (by rw [h.l8.2]; omega) (by rw [h.l8.2]; omega)),
    by rw [old _ (by rw [h.l8.1]; omega)]; exact h.l8.1, by rw [old _ (by rw [h.l8.2]; omega)]; exact h.l8.2⟩, ⟨hc.mono (fun b hb => ⟨by omega, by omega⟩), fun b hb => .inl (hs b hb)⟩⟩
  · rw [hd]
    refine ((h.dk i hi).chg hc (fun b hb => n _ (by rw [hb]; omega) (by rw [hb]; omega) (by rw [hb]; omega))).mono (fun b hb => by have hb : lab b = i + 1 := hb; show lab' b = i + 1; rw [old _ (by omega)]; exact hb) (fun hb => by have hb : lab' P.Q = i + 1 := hb; rw [old _ (by rw [h.lq]; omega), h.lq] at hb; omega) (fun b hb => ?_)
    have hb : lab' b = i + 1 := hb
    by_cases hbs : b < w.heap.size
    · exact Nat.lt_of_lt_of_le hbs hc.size
    · have := hn b (by omega); omega
  · rw [hpw]
    exact h.pw.chg hc (n _ (by rw [h.lq]; omega) (by rw [h.lq]; omega) (by rw [h.lq]; omega))
  · by_cases hbs : b < w.heap.size
    · exact Nat.lt_of_lt_of_le hbs hc.size
    · have := hn b (by omega); omega
theorem MiAt.self (h : MiAt w lab P x) {lab' : Nat → Nat} {y : Mi Dsk Sp} (hd : y.d = x.d) (hpw : y.p = x.p) (hs : ∀ b, b < w.heap.size → lab' b = lab b) (hn : ∀ b, w.heap.size ≤ b → lab' b = 0 ∨ (lab' b = 7 ∧ b < w'.heap.size))
    (hmi : ∃ v, Blk w' P.M (mcells P v y) 125 ∧ OwnM w' 0 v y.mv ∧ ∀ g, v.ownBlock = some g → lab' g = 7) (hsp : SpAt w' P.K P.B y.s) (hok : ∀ q ∈ y.mv, q.OK) (hc : Chg (fun b => lab b = 4 ∨ lab b = 6 ∨ lab b = 7) w w') : MiPost w lab P y w' :=
  ⟨lab', h.selfE hd hpw hs hn hmi hsp hok hc⟩
theorem MiAt.cells (h : MiAt w lab P x) : w.cell? ⟨P.M, 0, none⟩ = some (.pointer (some ⟨P.D 0, 0, none⟩)) ∧ w.cell? ⟨P.M, 1, none⟩ = some (.pointer (some ⟨P.D 1, 0, none⟩)) ∧ w.cell? ⟨P.M, 2, none⟩ = some (.int .i64 (x.f 0 : Nat)) ∧ w.cell? ⟨P.M, 3, none⟩ = some (.int .i64 (x.g 0 : Nat)) ∧
    w.cell? ⟨P.M, 4, none⟩ = some (.int .i64 (x.f 1 : Nat)) ∧ w.cell? ⟨P.M, 5, none⟩ = some (.int .i64 (x.g 1 : Nat)) ∧ w.cell? ⟨P.M, 6, none⟩ = some (.pointer (some ⟨P.K, 0, none⟩)) := by
  obtain ⟨v, hb, _⟩ := h.mi
  exact ⟨hb.cell rfl, hb.cell rfl, hb.cell rfl, hb.cell rfl, hb.cell rfl, hb.cell rfl, hb.cell rfl⟩
theorem MiAt.foundE (h : MiAt w lab P x) {k : Nat} (hk : k < 2) : MiAt (w.setCell ⟨P.M, 2 + 2 * k, none⟩ (.int .i64 ((x.f k + 1 : Nat) : Int))) lab P { x with f := upk x.f k (x.f k + 1) } ∧ Stp w lab (w.setCell ⟨P.M, 2 + 2 * k, none⟩ (.int .i64 ((x.f k + 1 : Nat) : Int))) lab := by
  obtain ⟨v, hb, hm, h7⟩ := h.mi
  have hc : Chg (fun b => b = P.M) w (w.setCell ⟨P.M, 2 + 2 * k, none⟩ (.int .i64 ((x.f k + 1 : Nat) : Int))) := chg1 _ _ _ _
  refine h.selfE (lab' := lab) (y := { x with f := upk x.f k (x.f k + 1) }) rfl rfl (fun _ _ => rfl) (fun b hb => ?_) ⟨v, ?_, hm.chg hc (fun g hg e => ?_), h7⟩ (h.sp.chg hc (fun e => ?_) (fun d hd e => ?_)) h.ok (hc.mono (fun b e => by left; rw [e]; exact h.lm))
  · left
    by_cases e : lab b = 0
    · exact e
    · have := h.lt b e; omega
  · have h1 := hb.set (2 + 2 * k) (.int .i64 ((x.f k + 1 : Nat) : Int))
    obtain rfl | rfl : k = 0 ∨ k = 1 := by omega
    · exact h1
    · exact h1
  · have h1 := h7 g hg; rw [e] at h1; have := h.lm; omega
  · have h1 := h.lk; rw [e] at h1; have := h.lm; omega
  · have h1 := h.lb _ (of_at P.B hd); rw [e] at h1; have := h.lm; omega
theorem MiAt.mended (h : MiAt w lab P x) {k : Nat} (hk : k < 2) : MiPost w lab P { x with g := upk x.g k (x.g k + 1) } (w.setCell ⟨P.M, 3 + 2 * k, none⟩ (.int .i64 ((x.g k + 1 : Nat) : Int))) := by
  obtain ⟨v, hb, hm, h7⟩ := h.mi
  have hc : Chg (fun b => b = P.M) w (w.setCell ⟨P.M, 3 + 2 * k, none⟩ (.int .i64 ((x.g k + 1 : Nat) : Int))) := chg1 _ _ _ _
  refine h.self (lab' := lab) (y := { x with g := upk x.g k (x.g k + 1) }) rfl rfl (fun _ _ => rfl) (fun b hb => ?_) ⟨v, ?_, hm.chg hc (fun g hg e => ?_), h7⟩ (h.sp.chg hc (fun e => ?_) (fun d hd e => ?_)) h.ok (hc.mono (fun b e => by left; rw [e]; exact h.lm))
  · left
    by_cases e : lab b = 0
    · exact e
    · have := h.lt b e; omega
  · have h1 := hb.set (3 + 2 * k) (.int .i64 ((x.g k + 1 : Nat) : Int))
    obtain rfl | rfl : k = 0 ∨ k = 1 := by omega
    · exact h1
    · exact h1
  · have h1 := h7 g hg; rw [e] at h1; have := h.lm; omega
  · have h1 := h.lk; rw [e] at h1; have := h.lm; omega
  · have h1 := h.lb _ (of_at P.B hd); rw [e] at h1; have := h.lm; omega
theorem MiAt.space (h : MiAt w lab P x) {s' : Sp} (hs : SpAt w' P.K P.B s') (hc : Chg (Of P.B) w w') : MiPost w lab P { x with s := s' } w' := by
  obtain ⟨v, hb, hm, h7⟩ := h.mi
  refine h.self (lab' := lab) (y := { x with s := s' }) rfl rfl (fun _ _ => rfl) (fun b hb => ?_) ⟨v, hb.chg hc (fun e => ?_), hm.chg hc (fun g hg e => ?_), h7⟩ hs h.ok (hc.mono (fun b e => by right; left; exact h.lb b e))
  · left
    by_cases e : lab b = 0
    · exact e
    · have := h.lt b e; omega
  · have := h.lb _ e; have := h.lm; omega
  · have := h.lb _ e; have := h7 g hg; omega
theorem MiAt.moves (h : MiAt w lab P x) {F : Nat → Prop} {v' : Value} {l' : List Pt} (hc : Chg F w w') (hF : ∀ b, F b → lab b = 7) (hm : OwnM w' 0 v' l') (hok : ∀ q ∈ l', q.OK) (hv : ∀ g, v'.ownBlock = some g → lab g = 7 ∨ (w.heap.size ≤ g ∧ g < w'.heap.size)) :
    MiPost w lab P { x with mv := l' } (w'.setCell ⟨P.M, 7, none⟩ v') := by
  obtain ⟨v, hb, _, h7⟩ := h.mi
  have hc2 : Chg (fun b => lab b = 4 ∨ lab b = 6 ∨ lab b = 7) w (w'.setCell ⟨P.M, 7, none⟩ v') := (hc.mono (fun b hf => .inr (.inr (hF b hf)))).setCell (.inl (.inl h.lm)) 7 v'
  have hc3 : Chg (fun b => b = P.M) w' (w'.setCell ⟨P.M, 7, none⟩ v') := chg1 _ _ _ _
  have hms : P.M < w.heap.size := h.lt _ (by rw [h.lm]; omega)
  refine h.self (lab' := fun b => if w.heap.size ≤ b ∧ v'.ownBlock = some b then 7 else lab b) (y := { x with mv := l' }) rfl rfl (fun b hb => if_neg (by omega)) (fun b hb => ?_) ⟨v', ?_, hm.chg hc3 (fun g hg e => ?_), fun g hg => ?_⟩ ?_ hok hc2
  · by_cases e : v'.ownBlock = some b
    · right
      rw [if_pos ⟨hb, e⟩]
      refine ⟨rfl, ?_⟩
      rcases hv b e with h1 | h1
      · have := h.lt b (by omega); omega
      · simpa using h1.2
    · left
      rw [if_neg (fun hh => e hh.2)]
      by_cases e0 : lab b = 0
      · exact e0
      · have := h.lt b e0; omega
  · have h1 := (hb.chg hc (fun hf => by have := hF _ hf; have := h.lm; omega)).set 7 v'
    exact h1
  · rcases hv g hg with h1 | h1
    · have := h.lm; rw [e] at h1; omega
    · omega
  · rcases hv g hg with h1 | h1
    · have := h.lt g (by omega)
      rw [if_neg (by omega)]; exact h1
    · rw [if_pos ⟨h1.1, hg⟩]
  · refine (h.sp.chg hc (fun hf => by have := hF _ hf; have := h.lk; omega) (fun d hd hf => by have := hF _ hf; have := h.lb _ (of_at P.B hd); omega)).chg hc3 (fun e => ?_) (fun d hd e => ?_)
    · have h1 := h.lk; rw [e] at h1; have := h.lm; omega
    · have h1 := h.lb _ (of_at P.B hd); rw [e] at h1; have := h.lm; omega
end
end Go.Proofs.YtmgagalhpkieoaaGreatDoor
/- Operations of the mirror's functions by their values; has, refuse. -/
namespace Go.Proofs.YtmgagalhpkieoaaGreatDoor
open Go.RowKit

attribute [local go_sem] Oper.semAt_some

section
variable {ρ : Operand → Value} {o : Oper} {x y : Operand} {ad : Addr} {v : Value} {w : World}
theorem q_ldI (ho : o.op = .load 3 x) (hx : ρ x = .pointer (some ad)) (hc : w.cell? ad = some v) : (execOp ρ o).run Tryz.prog w = .ok (.value v) w := by
  unfold execOp; simp only [ho]; go_simp
theorem q_ldU (ho : o.op = .load 52 x) (hx : ρ x = .pointer (some ad)) (hc : w.cell? ad = some v) : (execOp ρ o).run Tryz.prog w = .ok (.value v) w := by
  unfold execOp; simp only [ho]; go_simp
theorem q_ldD (ho : o.op = .load 28 x) (hx : ρ x = .pointer (some ad)) (hc : w.cell? ad = some v) : (execOp ρ o).run Tryz.prog w = .ok (.value v) w := by
  unfold execOp; simp only [ho]; go_simp
theorem q_ldM (ho : o.op = .load 31 x) (hx : ρ x = .pointer (some ad)) (hc : w.cell? ad = some v) : (execOp ρ o).run Tryz.prog w = .ok (.value v) w := by
  unfold execOp; simp only [ho]; go_simp
theorem q_ldK (ho : o.op = .load 30 x) (hx : ρ x = .pointer (some ad)) (hc : w.cell? ad = some v) : (execOp ρ o).run Tryz.prog w = .ok (.value v) w := by
  unfold execOp; simp only [ho]; go_simp
theorem q_ldB (ho : o.op = .load 59 x) (hx : ρ x = .pointer (some ad)) (hc : w.cell? ad = some v) : (execOp ρ o).run Tryz.prog w = .ok (.value v) w := by
  unfold execOp; simp only [ho]; go_simp
theorem q_ldS (ho : o.op = .load 43 x) (hx : ρ x = .pointer (some ad)) (hc : w.cell? ad = some v) : (execOp ρ o).run Tryz.prog w = .ok (.value v) w := by
  unfold execOp; simp only [ho]; go_simp
theorem q_szPl : (Tryz.prog.info? 115).map (·.size) = some 2 := by kernel_rfl
theorem q_szCn : (Tryz.prog.info? 96).map (·.size) = some 2 := by kernel_rfl
theorem q_szA2 : (Tryz.prog.info? 29).map (·.size) = some 2 := by kernel_rfl
end
theorem q_valG {ops : Array Oper} {rest : List Oper} {o : Oper} {a : Act} {Q : Exit → Act → World → Prop} {w w' : World} {v : Value} (hw : Region.wanted o (yielded ops a.tmps) = true) (hrun : (execOp a.eval o).run Tryz.prog w = .ok (.value v) w')
    (hK : wpList Tryz.prog ops Q rest (a.put o.dst v) w') : wpList Tryz.prog ops Q (o :: rest) a w := by
  unfold wpList
  rw [if_pos hw]
  refine .inl ?_
  unfold Oper.wp
  rw [hrun]
  exact hK
def plc (c : Cpy) : List Value := [.int .i64 (c.1 : Int), .int .u16 (c.2 : Int)]
theorem has_any8 (k : Int) (M : Nat) (w : World) : Calls Tryz.prog 79 #[.pointer (some ⟨M, 0, none⟩), .int .i64 k] w fun e w' => e = .returned (.bool (decide (0 ≤ k ∧ k < 2))) ∧ w = w' := by
  by_cases h0 : 0 ≤ k
  · by_cases h1 : k < 2
    · go_enter Tryz.func79, Tryz.ntmps79
      go_wp2
      go_ret
      simp [h0, h1]
    · go_enter Tryz.func79, Tryz.ntmps79
      go_wp2
      go_ret
      simp [h1]
  · go_enter Tryz.func79, Tryz.ntmps79
    go_wp2
    go_ret
    exact ⟨by rw [show decide (0 ≤ k) = false from decide_eq_false (by omega)]; rfl, rfl⟩
def refuseE (p : Pt) : Int := if mayP p then 0 else 1
set_option maxRecDepth 100000 in
set_option maxHeartbeats 4000000 in
theorem refuse_any (p : Pt) (hp : p.OK) (M : Nat) (w : World) (hT : RTab w) : Calls Tryz.prog 42 #[.pointer (some ⟨M, 0, none⟩), .agg (pcells p).toArray] w fun e w' => e = .returned (.int .i64 (refuseE p)) ∧ Below w.heap.size w w' := by
  have HP := Lib.hid hp
  have HG : Hid ((w.alloc (.cells (pcells p).toArray 58)).heap[w.heap.size]? = some (.cells (pcells p).toArray 58 (0, 0))) := Lib.hid (Blk.new _ _ _)
  have HB : Hid (Below w.heap.size w (w.alloc (.cells (pcells p).toArray 58))) := Lib.hid ((Below.refl _ _).alloc (Nat.le_refl _) _)
  have HS : Hid ((Tryz.prog.info? 58).map (·.size) = some (pcells p).toArray.size) := Lib.hid (size_pc hp)
  have HT : Hid (RTab (w.alloc (.cells (pcells p).toArray 58))) := Lib.hid (hT.alloc _)
  obtain ⟨m, hm⟩ : ∃ m, mayP p = m := ⟨_, rfl⟩
  have he : refuseE p = if m then 0 else 1 := by unfold refuseE; rw [hm]
  rw [he]
  have HM := Lib.hid hm
  clear hp hT he hm
  go_enter Tryz.func42, Tryz.ntmps42
  cases m
  all_goals (
    go_wp2_with (first | (refine wpList_load_row rfl 58 (.tmp 3) rfl w.heap.size rfl 58 _ _ _ HG.out Tryz.underlying58 rfl HS.out ?_) | (go_at_call 22; refine (may_any p HP.out _ HT.out).mono ?_; rintro e w' ⟨rfl, hb⟩; rw [HM.out]) | fail)
    go_ret
    exact ⟨rfl, HB.out.trans (hb.mono HB.out.size)⟩)
end Go.Proofs.YtmgagalhpkieoaaGreatDoor
