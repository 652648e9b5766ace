/- One act on both sides; what the law keeps, step by step. -/
import Derived.Test.YtjfedhaafdfibaaKrs
namespace Go.Proofs.Ytjfedhaafdfibaa
open Go.RowKit

theorem RdIn.post {w : World} {lo : Nat} {lab : Nat → Nat} {b R : Nat} {v : Nat → Value} {rd : Rdk} (h : RdIn w lo lab b R v rd) : RdPost w lo lab b R rd w := ⟨lab, v, fun _ _ => rfl, h, Chg.refl _ _⟩
/-- What one call on both sides comes to: the space's lists, the document's disk. -/
structure Both (sp : Sp) (d : Nat) (rd' : Rdk) (sp' : Sp) : Prop where
  sim : SimD (sp' d) rd'
  rest : ∀ e, e ≠ d → sp' e = sp e
  len : (sp' d).length = (sp d).length
theorem Both.put {sp : Sp} {d : Nat} {rd' : Rdk} {l : List Ax} (h : SimD l rd') (hl : l.length = (sp d).length) : Both sp d rd' (put sp d l) := ⟨by rw [put_same]; exact h, fun e he => put_other sp l he, by rw [put_same]; exact hl⟩
theorem Both.same {sp : Sp} {d : Nat} {rd : Rdk} (h : SimD (sp d) rd) : Both sp d rd sp := ⟨h, fun _ _ => rfl, rfl⟩
theorem allocN_is {sp : Sp} {d i : Nat} {x : Ax} (h : firstF (sp d) = some i) (hx : (sp d)[i]? = some x) (h0 : x.is = 0) : allocN sp d = i + 1 ∧ allocS sp d = put sp d ((sp d).set i { x with is := 1 }) := by
  refine ⟨allocN_some h, ?_⟩
  rw [allocS_some h hx]
  unfold turnA
  rw [if_pos h0]
section
variable {w : World} {lo : Nat} {lab : Nat → Nat} {b R : Nat} {v : Nat → Value} {rd : Rdk} {sp : Sp} {d : Nat}
theorem alloc_pair (h : RdIn w lo lab b R v rd) (hs : SimD (sp d) rd) (hl : (sp d).length ≤ 900) :
    ∃ (z : Nat) (rd' : Rdk) (sp' : Sp), (Calls Try.prog 8 #[.pointer (some ⟨R, 0, none⟩)] w fun e w' => e = .returned (.int .u16 (z : Int)) ∧ RdPost w lo lab b R rd' w') ∧ allocN sp d = z ∧ allocS sp d = sp' ∧ Both sp d rd' sp' := by
  have hlen : ∀ i, i < 3 → (rd.l i).length ≤ 999 := fun i hi => by have := hs.len i hi; omega
  have hn := hs.n
  cases hf : firstF (sp d) with
  | none =>
    refine ⟨0, rd, sp, ?_, allocN_none hf, allocS_zero (allocN_none hf), Both.same hs⟩
    obtain ⟨s0, s1, s2, c0, c1, c2, _, _, _, hlk⟩ := h.look
    refine (ralloc_none w R rd s0 s1 s2 c0 c1 c2 hlk (by omega) (fun i hi => Nat.le_succ_of_le (hlen i hi)) (fun a h1 h2 => ?_)).mono ?_
    · obtain ⟨i, rfl⟩ : ∃ i, a = i + 1 := ⟨a - 1, by omega⟩
      obtain ⟨x, hx⟩ : ∃ x, (sp d)[i]? = some x := ⟨_, List.getElem?_eq_getElem (by omega)⟩
      rw [hs.free hx]
      exact firstF_no _ hf i x hx
    · rintro e w' ⟨rfl, rfl⟩
      exact ⟨rfl, h.post⟩
  | some i =>
    obtain ⟨x, hx, hfx, hnf⟩ := firstF_is _ _ hf
    have h0 : x.is = 0 := by
      unfold free? at hfx
      simp at hfx
      exact hfx.2
    have hil := (List.getElem?_eq_some_iff.1 hx).1
    obtain ⟨e1, e2⟩ := allocN_is hf hx h0
    refine ⟨i + 1, _, _, ?_, e1, e2, Both.put (hs.mark hx h0) (by simp)⟩
    exact ralloc_some w lo lab b R v rd h (by omega) hlen (i + 1) (by omega) (by omega) (by rw [hs.free hx]; exact hfx) (fun a h1 h2 => by
      obtain ⟨j, rfl⟩ : ∃ j, a = j + 1 := ⟨a - 1, by omega⟩
      obtain ⟨y, hy⟩ : ∃ y, (sp d)[j]? = some y := ⟨_, List.getElem?_eq_getElem (by omega)⟩
      rw [hs.free hy]
      exact hnf j y (by omega) hy)
/-- An address that there is not. -/
theorem act_off (h : RdIn w lo lab b R v rd) (hs : SimD (sp d) rd) (o : Int) (a : Nat) (ha : a < 65536) (E : Ax → Nat) (A : Ax → Ax) (hno : (sp d)[a - 1]? = none ∨ a = 0) :
    (Calls Try.prog 10 #[.pointer (some ⟨R, 0, none⟩), .int .i64 o, .int .u16 (a : Int)] w fun e w' => e = .returned (.int .i64 1) ∧ w = w') ∧ oneE sp d a E = 1 ∧ oneS sp d a A = sp := by
  have hn := hs.n
  by_cases h0 : a = 0
  · subst h0
    refine ⟨ract_zero w R o, ?_, ?_⟩
    · unfold oneE; cases (sp d)[0 - 1]? <;> rfl
    · unfold oneS; cases (sp d)[0 - 1]? <;> rfl
  · have hno' : (sp d)[a - 1]? = none := by rcases hno with h | h; exact h; exact absurd h h0
    have hfar : (sp d).length ≤ a - 1 := List.getElem?_eq_none_iff.1 hno'
    obtain ⟨s0, s1, s2, c0, c1, c2, _, _, _, hlk⟩ := h.look
    refine ⟨ract_far w R rd s0 s1 s2 c0 c1 c2 o a hlk (by omega) ha (by omega), ?_, ?_⟩
    · unfold oneE; rw [hno']
    · unfold oneS; rw [hno']
theorem one_at (sp : Sp) (d i : Nat) (x : Ax) (E : Ax → Nat) (A : Ax → Ax) (hx : (sp d)[i]? = some x) : oneE sp d (i + 1) E = E x ∧ oneS sp d (i + 1) A = put sp d ((sp d).set i (A x)) := by
  unfold oneE oneS
  rw [Nat.add_sub_cancel, hx]
  exact ⟨rfl, rfl⟩
/-- What both sides come to. -/
def Pair (w : World) (lo : Nat) (lab : Nat → Nat) (b R : Nat) (sp : Sp) (d : Nat) (o : Int) (a : Nat) (E : Ax → Nat) (A : Ax → Ax) : Prop :=
  ∃ (c : Nat) (rd' : Rdk) (sp' : Sp), (Calls Try.prog 10 #[.pointer (some ⟨R, 0, none⟩), .int .i64 o, .int .u16 (a : Int)] w fun e w' => e = .returned (.int .i64 (c : Int)) ∧ RdPost w lo lab b R rd' w') ∧ oneE sp d a E = c ∧ oneS sp d a A = sp' ∧ Both sp d rd' sp'
theorem pair_off (h : RdIn w lo lab b R v rd) (hs : SimD (sp d) rd) (o : Int) (a : Nat) (ha : a < 65536) (E : Ax → Nat) (A : Ax → Ax) (hno : (sp d)[a - 1]? = none ∨ a = 0) : Pair w lo lab b R sp d o a E A := by
  obtain ⟨h1, h2, h3⟩ := act_off h hs o a ha E A hno
  exact ⟨1, rd, sp, h1.mono fun e w' ⟨e1, e2⟩ => by subst e2; exact ⟨e1, h.post⟩, h2, h3, Both.same hs⟩
/-- It answers and leaves all as it was. -/
theorem pair_same (h : RdIn w lo lab b R v rd) (hs : SimD (sp d) rd) {o : Int} {i c : Nat} {x : Ax} {E : Ax → Nat} {A : Ax → Ax} (hx : (sp d)[i]? = some x) (hE : E x = c) (hA : A x = x)
    (hc : Calls Try.prog 10 #[.pointer (some ⟨R, 0, none⟩), .int .i64 o, .int .u16 ((i + 1 : Nat) : Int)] w fun e w' => e = .returned (.int .i64 (c : Int)) ∧ w = w') : Pair w lo lab b R sp d o (i + 1) E A := by
  obtain ⟨e1, e2⟩ := one_at sp d i x E A hx
  refine ⟨c, rd, sp, hc.mono fun e w' ⟨e1, e2⟩ => by subst e2; exact ⟨e1, h.post⟩, by rw [e1, hE], ?_, Both.same hs⟩
  rw [e2, hA, set_same _ _ _ hx, put_self]
theorem pair_in {rd' : Rdk} {o : Int} {i c : Nat} {x y : Ax} {E : Ax → Nat} {A : Ax → Ax} (hx : (sp d)[i]? = some x) (hE : E x = c) (hA : A x = y) (hs : SimD ((sp d).set i y) rd')
    (hc : Calls Try.prog 10 #[.pointer (some ⟨R, 0, none⟩), .int .i64 o, .int .u16 ((i + 1 : Nat) : Int)] w fun e w' => e = .returned (.int .i64 (c : Int)) ∧ RdPost w lo lab b R rd' w') : Pair w lo lab b R sp d o (i + 1) E A := by
  obtain ⟨e1, e2⟩ := one_at sp d i x E A hx
  exact ⟨c, rd', _, hc, by rw [e1, hE], by rw [e2, hA], Both.put hs (by simp)⟩
theorem at_or (l : List Ax) (a : Nat) : (l[a - 1]? = none ∨ a = 0) ∨ ∃ i x, a = i + 1 ∧ l[i]? = some x := by
  cases a with
  | zero => exact .inl (.inr rfl)
  | succ i =>
    cases hx : l[i]? with
    | none => exact .inl (.inl (by rw [Nat.add_sub_cancel]; exact hx))
    | some x => exact .inr ⟨i, x, rfl, hx⟩
theorem SimD.used (hs : SimD (sp d) rd) {i : Nat} {x : Ax} (hx : (sp d)[i]? = some x) : hasB (rd.l 0) (i + 1) = isB 1 x := by rw [hs.u.has, atB_succ _ hx]
theorem SimD.held (hs : SimD (sp d) rd) {i : Nat} {x : Ax} (hx : (sp d)[i]? = some x) : hasB (rd.l 1) (i + 1) = isB 2 x := by rw [hs.h.has, atB_succ _ hx]
theorem pair_mark (h : RdIn w lo lab b R v rd) (hs : SimD (sp d) rd) (hl : (sp d).length ≤ 900) (a : Nat) (ha : a < 65536) : Pair w lo lab b R sp d 0 a (turnE 0) (turnA 0 1) := by
  have hlen : ∀ i, i < 3 → (rd.l i).length ≤ 999 := fun i hi => by have := hs.len i hi; omega
  have hn := hs.n
  rcases at_or (sp d) a with hno | ⟨i, x, rfl, hx⟩
  · exact pair_off h hs 0 a ha _ _ hno
  · have hil := (List.getElem?_eq_some_iff.1 hx).1
    have h3 := hs.is i x hx
    have hu := hs.used hx; have hh := hs.held hx
    have h4 : x.is = 0 ∨ x.is = 1 ∨ x.is = 2 := by omega
    rcases h4 with e | e | e
    · exact pair_in hx (by simp [turnE, e]) (by simp [turnA, e]) (hs.mark hx e) (ract_mark w lo lab b R v rd (i + 1) h hlen (by omega) ha (by omega) (by rw [hu]; simp [isB, e]) (by rw [hh]; simp [isB, e]))
    · exact pair_same h hs (c := 5) hx (by simp [turnE, e]) (by simp [turnA, e]) (ract_mark_used w lo lab b R v rd (i + 1) h hlen (by omega) ha (by omega) (by rw [hu]; simp [isB, e]))
    · exact pair_same h hs (c := 5) hx (by simp [turnE, e]) (by simp [turnA, e]) (ract_mark_held w lo lab b R v rd (i + 1) h hlen (by omega) ha (by omega) (by rw [hu]; simp [isB, e]) (by rw [hh]; simp [isB, e]))
theorem pair_give (h : RdIn w lo lab b R v rd) (hs : SimD (sp d) rd) (hl : (sp d).length ≤ 900) (a : Nat) (ha : a < 65536) : Pair w lo lab b R sp d 1 a (turnE 1) (turnA 1 0) := by
  have hlen : ∀ i, i < 3 → (rd.l i).length ≤ 999 := fun i hi => by have := hs.len i hi; omega
  have hn := hs.n
  rcases at_or (sp d) a with hno | ⟨i, x, rfl, hx⟩
  · exact pair_off h hs 1 a ha _ _ hno
  · have hil := (List.getElem?_eq_some_iff.1 hx).1
    have hu := hs.used hx
    by_cases e : x.is = 1
    · exact pair_in hx (by simp [turnE, e]) (by simp [turnA, e]) (hs.give hx e) (ract_give w lo lab b R v rd (i + 1) h hlen (by omega) ha (by omega) (by rw [hu]; simp [isB, e]))
    · exact pair_same h hs (c := 5) hx (by simp [turnE, e]) (by simp [turnA, e]) (ract_no1 w lo lab b R v rd (i + 1) h hlen (by omega) ha (by omega) (by rw [hu]; simp [isB, e]))
theorem pair_hold (h : RdIn w lo lab b R v rd) (hs : SimD (sp d) rd) (hl : (sp d).length ≤ 900) (a : Nat) (ha : a < 65536) : Pair w lo lab b R sp d 2 a (turnE 1) (turnA 1 2) := by
  have hlen : ∀ i, i < 3 → (rd.l i).length ≤ 999 := fun i hi => by have := hs.len i hi; omega
  have hn := hs.n
  rcases at_or (sp d) a with hno | ⟨i, x, rfl, hx⟩
  · exact pair_off h hs 2 a ha _ _ hno
  · have hil := (List.getElem?_eq_some_iff.1 hx).1
    have hu := hs.used hx
    by_cases e : x.is = 1
    · exact pair_in hx (by simp [turnE, e]) (by simp [turnA, e]) (hs.hold hx e) (ract_hold w lo lab b R v rd (i + 1) h hlen (by omega) ha (by omega) (by rw [hu]; simp [isB, e]))
    · exact pair_same h hs (c := 5) hx (by simp [turnE, e]) (by simp [turnA, e]) (ract_no2 w lo lab b R v rd (i + 1) h hlen (by omega) ha (by omega) (by rw [hu]; simp [isB, e]))
theorem pair_sick (h : RdIn w lo lab b R v rd) (hs : SimD (sp d) rd) (hl : (sp d).length ≤ 900) (a : Nat) (ha : a < 65536) : Pair w lo lab b R sp d 3 a (fun _ => 0) (fun x => { x with sick := true }) := by
  have hlen : ∀ i, i < 3 → (rd.l i).length ≤ 999 := fun i hi => by have := hs.len i hi; omega
  have hn := hs.n
  rcases at_or (sp d) a with hno | ⟨i, x, rfl, hx⟩
  · exact pair_off h hs 3 a ha _ _ hno
  · have hil := (List.getElem?_eq_some_iff.1 hx).1
    exact pair_in hx rfl rfl (hs.fall hx) (ract_sick w lo lab b R v rd (i + 1) h hlen (by omega) ha (by omega))
end

/-- The memory alone. -/
structure Pm (w0 w : World) (D : Nat) (B : Nat → Nat) (sp : Sp) (G : Nat) (lab : Nat → Nat) (R : Nat → Nat) (v : Nat → Nat → Value) (rd : Nat → Rdk) : Prop where
  live : Live w0 w D B sp
  g : Blk w G [.pointer (some ⟨R 0, 0, none⟩), .pointer (some ⟨R 1, 0, none⟩)] 28
  rds : ∀ d, d < 2 → RdIn w w0.heap.size lab (3 * d) (R d) (v d) (rd d)
  ne : R 0 ≠ R 1
  gl : w0.heap.size ≤ G
section
variable {w0 w w' : World} {D : Nat} {B : Nat → Nat} {sp sp' : Sp} {G : Nat} {lab : Nat → Nat} {R : Nat → Nat} {v : Nat → Nat → Value} {rd : Nat → Rdk}
theorem Pl.mem (h : Pl w0 w D B sp G lab R v rd) : Pm w0 w D B sp G lab R v rd := ⟨h.live, h.g, h.rds, h.ne, h.gl⟩
theorem Pm.pl (h : Pm w0 w D B sp G lab R v rd) (hs : ∀ d, d < 2 → SimD (sp d) (rd d)) : Pl w0 w D B sp G lab R v rd := ⟨h.live, h.g, h.rds, h.ne, h.gl, hs⟩
theorem Pm.ptr (h : Pm w0 w D B sp G lab R v rd) {d : Nat} (hd : d < 2) : w.cell? ⟨G, d, none⟩ = some (.pointer (some ⟨R d, 0, none⟩)) := by
  obtain rfl | rfl : d = 0 ∨ d = 1 := by omega
  · exact h.g.cell rfl
  · exact h.g.cell rfl
theorem Pm.below (h : Pm w0 w D B sp G lab R v rd) (hb : Below w.heap.size w w') : Pm w0 w' D B sp G lab R v rd :=
  ⟨h.live.below hb, h.g.below hb h.g.lt, fun d hd => (h.rds d hd).below hb, h.ne, h.gl⟩
theorem Live.of_ty (h : Live w0 w D B sp) {g : Nat} {cs : List Value} {t : TypeId} (hb : Blk w g cs t) (ht : t ≠ 61) : ¬ Of B g := fun hf => by
  rcases hf with hf | hf
  · exact (hb.not (h.at'.ax 0 (by omega)) ht) hf
  · exact (hb.not (h.at'.ax 1 (by omega)) ht) hf
/-- The space is turned. -/
theorem Pm.space (h : Pm w0 w D B sp G lab R v rd) (h1 : SpAt w' D B sp' ∧ Chg (Of B) w w') : Pm w0 w' D B sp' G lab R v rd :=
  ⟨h.live.step h1, h.g.chg h1.2 (h.live.of_ty h.g (by decide)), fun d hd => (h.rds d hd).chg h1.2 (fun _ _ => rfl) (fun g hg hf => by
    rcases hf with rfl | ⟨_, _, _, cs, hb⟩
    · exact h.live.of_ty (h.rds d hd).blk (by decide) hg
    · exact h.live.of_ty hb (by decide) hg), h.ne, h.gl⟩
def upR (rd : Nat → Rdk) (d : Nat) (r : Rdk) : Nat → Rdk := fun x => if x = d then r else rd x
theorem foot_ty {lo b r : Nat} {lab : Nat → Nat} {g : Nat} {cs0 : List Value} (hR : Blk w r cs0 31) (hf : Foot w lo lab b r g) {cs : List Value} {t : TypeId} (hb : Blk w g cs t) : t = 31 ∨ t = 33 := by
  rcases hf with rfl | ⟨_, _, _, cs', hb'⟩
  · exact .inl (hb.same hR)
  · exact .inr (hb.same hb')
/-- One of the document's disks is turned. -/
theorem Pm.ref (h : Pm w0 w D B sp G lab R v rd) {d : Nat} (hd : d < 2) {rd' : Rdk} (hp : RdPost w w0.heap.size lab (3 * d) (R d) rd' w') : ∃ lab' v', Pm w0 w' D B sp G lab' R v' (upR rd d rd') := by
  obtain ⟨lab', v', h1, h2, h3⟩ := hp
  have hRd := (h.rds d hd).blk
  have nof : ∀ {g : Nat} {cs : List Value} {t : TypeId}, Blk w g cs t → t ≠ 31 → t ≠ 33 → ¬ Foot w w0.heap.size lab (3 * d) (R d) g := fun hb h1 h2 hf => by
    rcases foot_ty hRd hf hb with e | e
    · exact h1 e
    · exact h2 e
  have hlo : ∀ g, Foot w w0.heap.size lab (3 * d) (R d) g → w0.heap.size ≤ g := fun g hf => by
    rcases hf with rfl | ⟨h, _⟩
    · exact (h.rds d hd).loR
    · exact h
  refine ⟨lab', fun e => if e = d then v' else v e, ⟨⟨h.live.at'.chg h3 (nof h.live.at'.blk (by decide) (by decide)) (fun e he => nof (h.live.at'.ax e he) (by decide) (by decide)), h.live.own, h.live.bel.trans (h3.below hlo h.live.bel.size)⟩, h.g.chg h3 (nof h.g (by decide) (by decide)), fun e he => ?_, h.ne, h.gl⟩⟩
  unfold upR
  by_cases hed : e = d
  · subst hed
    simp only [if_pos]
    exact h2
  · simp only [if_neg hed]
    refine (h.rds e he).chg h3 h1 (fun g hf hg => ?_)
    have hre : R e ≠ R d := by
      have hx : (e = 0 ∧ d = 1) ∨ (e = 1 ∧ d = 0) := by omega
      rcases hx with ⟨rfl, rfl⟩ | ⟨rfl, rfl⟩
      · exact h.ne
      · exact h.ne.symm
    rcases hf with rfl | ⟨_, f1, f2, cs1, fb⟩
    · rcases hg with hg | ⟨_, _, _, cs2, gb⟩
      · exact hre hg.symm
      · exact absurd (hRd.same gb) (by decide)
    · rcases hg with rfl | ⟨_, g1, g2, _⟩
      · exact absurd ((h.rds e he).blk.same fb) (by decide)
      · omega
theorem sims_up {d : Nat} {rd' : Rdk} (hs : ∀ e, e < 2 → SimD (sp e) (rd e)) (hb : Both sp d rd' sp') : ∀ e, e < 2 → SimD (sp' e) (upR rd d rd' e) := fun e he => by
  unfold upR
  by_cases h : e = d
  · subst h; simp only [if_pos]; exact hb.sim
  · simp only [if_neg h]; rw [hb.rest e h]; exact hs e he
end
section
variable {w w' : World} {lo b r : Nat} {lab : Nat → Nat} {rd' : Rdk}
theorem RdPost.blk (hp : RdPost w lo lab b r rd' w') {cs0 : List Value} (hR : Blk w r cs0 31) {g : Nat} {cs : List Value} {t : TypeId} (hb : Blk w g cs t) (h1 : t ≠ 31) (h2 : t ≠ 33) : Blk w' g cs t := by
  obtain ⟨_, _, _, _, h3⟩ := hp
  exact hb.chg h3 fun hf => by
    rcases foot_ty hR hf hb with e | e
    · exact h1 e
    · exact h2 e
end
/-- Both disks up to k: all that are held are used. -/
def Rdk.back (r : Rdk) : Rdk := (r.set 0 (r.l 0 ++ r.l 1)).set 1 []
def backRd (rd : Nat → Rdk) (k : Nat) : Nat → Rdk := fun d => if d < k then (rd d).back else rd d
theorem backRd_at (rd : Nat → Rdk) (k : Nat) : backRd rd k k = rd k := by simp [backRd]
theorem backRd_succ (rd : Nat → Rdk) (k : Nat) : upR (upR (backRd rd k) k ((rd k).set 0 ((rd k).l 0 ++ (rd k).l 1))) k (((rd k).set 0 ((rd k).l 0 ++ (rd k).l 1)).set 1 []) = backRd rd (k + 1) := by
  funext d
  unfold upR backRd
  by_cases h : d = k
  · subst h; simp [Rdk.back]
  · by_cases h1 : d < k
    · simp [h, h1, show d < k + 1 by omega]
    · simp [h, h1, show ¬ d < k + 1 by omega]
theorem upR_at (rd : Nat → Rdk) (d : Nat) (r : Rdk) : upR rd d r d = r := by simp [upR]
theorem exk_sts {ρ : Operand → Value} {o : Oper} {x y : Operand} {w : World} {ad : Addr} {u : Value} {sp : Option Addr} {n c : Nat} (ho : o.op = .store 29 x y) (hx : ρ x = .pointer (some ad)) (hy : ρ y = .slice sp n c) (hc : w.cell? ad = some u) (hf : w.frozen? ad = false) : (execOp ρ o).run Try.prog w = .ok .skip (w.setCell ad (.slice sp n c)) := by
  unfold execOp
  simp only [ho]
  go_simp
theorem Both.lens {sp sp' : Sp} {d : Nat} {rd' : Rdk} (hb : Both sp d rd' sp') {k : Nat} (h : ∀ e, e < 2 → (sp e).length ≤ k) : ∀ e, e < 2 → (sp' e).length ≤ k := fun e he => by
  by_cases hed : e = d
  · subst hed; rw [hb.len]; exact h e he
  · rw [hb.rest e hed]; exact h e he
end Go.Proofs.Ytjfedhaafdfibaa
