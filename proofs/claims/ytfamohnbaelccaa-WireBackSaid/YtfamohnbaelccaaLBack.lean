/- What was put behind one another is read so: the law, walked. -/
import Derived.Test.YtfamohnbaelccaaReg
import Derived.Test.YtfamohnbaelccaaPairs
import Derived.Test.YtfamohnbaelccaaLWrites
import Derived.Test.YtfamohnbaelccaaRdRest
import Derived.Deep.DeepCutAuto
import Derived.Deep.QuietTactic
import Derived.BigQuiet
namespace Go.Proofs.Ytfamohnbaelccaa
open Go.RowKit

/-- How wide a part is; its bytes; all parts' bytes. -/
def wid (x : BitVec 8) : Nat := if x.toNat % 3 = 0 then 2 else if x.toNat % 3 = 1 then 4 else 8
def pb (p : BitVec 8 × Int) : List (BitVec 8) := leb p.2.toNat (wid p.1)
def allB (ps : List (BitVec 8 × Int)) : List (BitVec 8) := ps.flatMap pb
theorem pb_length (p : BitVec 8 × Int) : (pb p).length = wid p.1 := leb_length _ _
theorem wid_le (x : BitVec 8) : wid x ≤ 8 ∧ 2 ≤ wid x := by unfold wid; split <;> (try split) <;> omega
theorem allB_le (ps : List (BitVec 8 × Int)) : (allB ps).length ≤ 8 * ps.length := by
  induction ps with
  | nil => simp [allB]
  | cons p ps ih =>
    have h : allB (p :: ps) = pb p ++ allB ps := rfl
    have := wid_le p.1
    rw [h, List.length_append, pb_length, List.length_cons]; omega
theorem allB_ge (ps : List (BitVec 8 × Int)) (h : 0 < ps.length) : 2 ≤ (allB ps).length := by
  cases ps with
  | nil => simp at h
  | cons p ps =>
    have h : allB (p :: ps) = pb p ++ allB ps := rfl
    have := wid_le p.1
    rw [h, List.length_append, pb_length]; omega
theorem getD_int (ps : List (BitVec 8 × Int)) (i : Nat) (h : i < ps.length) : ps.getD i (0, 0) = ps[i] := by simp [List.getD_eq_getElem?_getD, h]
theorem allB_take (ps : List (BitVec 8 × Int)) (i : Nat) (h : i < ps.length) : allB (ps.take (i + 1)) = allB (ps.take i) ++ pb (ps.getD i (0, 0)) := by
  unfold allB
  rw [List.take_succ_eq_append_getElem h, List.flatMap_append, getD_int ps i h]
  simp
theorem allB_drop (ps : List (BitVec 8 × Int)) (i : Nat) (h : i < ps.length) : allB (ps.drop i) = pb (ps.getD i (0, 0)) ++ allB (ps.drop (i + 1)) := by
  unfold allB
  rw [List.drop_eq_getElem_cons h, getD_int ps i h, List.flatMap_cons]
theorem mod3 (x : BitVec 8) (d : Nat) (h : x.toNat % 3 = d) : (N8 x).tmod 3 = (d : Int) ∧ N8 x % 3 = (d : Int) := by
  unfold N8
  rw [Int.tmod_eq_emod_of_nonneg (by omega)]
  omega

/-- What is read of a part, and what is left. -/
theorem next_part (p : BitVec 8 × Int) (t : List (BitVec 8)) : nextRes (pb p ++ t) 0 (wid p.1 : Int) = (pb p, t, 0) := by
  have h := wid_le p.1
  have hp := pb_length p
  unfold nextRes
  rw [if_neg (by omega), if_neg (by rw [List.length_append, hp]; omega), Int.toNat_natCast, ← hp, List.take_left', List.drop_left'] <;> rfl
theorem next_half (p : BitVec 8 × Int) : nextRes (pb p).dropLast 0 (wid p.1 : Int) = ([], (pb p).dropLast, 4) := by
  have h := wid_le p.1
  have hp := pb_length p
  unfold nextRes
  rw [if_neg (by omega), if_pos (by rw [List.length_dropLast, hp]; omega)]
theorem allB_nil (ps : List (BitVec 8 × Int)) : allB (ps.drop ps.length) = [] := by simp [allB]
/-- The reader that lacks a byte, behind k parts. -/
def yst (ps : List (BitVec 8 × Int)) (k : Nat) : List (BitVec 8) × Nat :=
  if k < ps.length then ((allB (ps.drop k)).dropLast, 0) else ((pb (ps.getD (ps.length - 1) (0, 0))).dropLast, 4)
theorem yst_next (ps : List (BitVec 8 × Int)) (k : Nat) (h : k + 1 < ps.length) : nextRes (yst ps k).1 (yst ps k).2 (wid (ps.getD k (0, 0)).1 : Int) = (pb (ps.getD k (0, 0)), yst ps (k + 1)) := by
  have h1 := allB_ge (ps.drop (k + 1)) (by simp; omega)
  have e1 : yst ps k = ((allB (ps.drop k)).dropLast, 0) := if_pos (by omega)
  have e2 : yst ps (k + 1) = ((allB (ps.drop (k + 1))).dropLast, 0) := if_pos h
  rw [e1, e2]
  simp only
  rw [allB_drop ps k (by omega), List.dropLast_append_of_ne_nil (by intro e; rw [e] at h1; simp at h1)]
  exact next_part _ _
theorem yst_last (ps : List (BitVec 8 × Int)) (k : Nat) (h : k + 1 = ps.length) : nextRes (yst ps k).1 (yst ps k).2 (wid (ps.getD k (0, 0)).1 : Int) = ([], yst ps (k + 1)) := by
  have e1 : yst ps k = ((allB (ps.drop k)).dropLast, 0) := if_pos (by omega)
  have e2 : yst ps (k + 1) = ((pb (ps.getD k (0, 0))).dropLast, 4) := by
    unfold yst
    rw [if_neg (by omega), show ps.length - 1 = k by omega]
  rw [e1, e2]
  simp only
  rw [allB_drop ps k (by omega), show k + 1 = ps.length from h, allB_nil, List.append_nil]
  exact next_half _
theorem val_pb (x : BitVec 8) (n : Nat) (d b : Nat) (hd : wid x = d) (hb : b = 2 ^ (8 * d)) : val (pb (x, (n : Int))) = n % b := by
  unfold pb
  rw [hb, ← hd]
  exact val_leb _ _

/-- Three readers that lie apart. -/
def I (lo hi g : Nat) : Prop := lo ≤ g ∧ g < hi
structure Ord (B lo1 H1 lo2 H2 lo3 H3 : Nat) : Prop where
  a : B ≤ lo1
  b : lo1 ≤ H1
  c : H1 < lo2
  d : lo2 ≤ H2
  e : H2 < lo3
  f : lo3 ≤ H3
structure R3 (w : World) (lo1 H1 lo2 H2 lo3 H3 : Nat) (x y z : List (BitVec 8) × Nat) (W : World) : Prop where
  x : RdAt W H1 (I lo1 H1) x.1 x.2
  y : RdAt W H2 (I lo2 H2) y.1 y.2
  z : RdAt W H3 (I lo3 H3) z.1 z.2
  b : Below w.heap.size w W
section
variable {w W W1 : World} {lo1 H1 lo2 H2 lo3 H3 : Nat} {x y z x' y' z' : List (BitVec 8) × Nat}
theorem R3.goX (o : Ord w.heap.size lo1 H1 lo2 H2 lo3 H3) (h : R3 w lo1 H1 lo2 H2 lo3 H3 x y z W) (h1 : RdAt W1 H1 (I lo1 H1) x'.1 x'.2) (hb : ButFor H1 W W1) : R3 w lo1 H1 lo2 H2 lo3 H3 x' y z W1 := by
  obtain ⟨a, b, c, d, e, f⟩ := o
  exact ⟨h1, h.y.other hb (by omega) (by unfold I; omega), h.z.other hb (by omega) (by unfold I; omega), h.b.trans (hb.below (by omega) h.b.size)⟩
theorem R3.goY (o : Ord w.heap.size lo1 H1 lo2 H2 lo3 H3) (h : R3 w lo1 H1 lo2 H2 lo3 H3 x y z W) (h1 : RdAt W1 H2 (I lo2 H2) y'.1 y'.2) (hb : ButFor H2 W W1) : R3 w lo1 H1 lo2 H2 lo3 H3 x y' z W1 := by
  obtain ⟨a, b, c, d, e, f⟩ := o
  exact ⟨h.x.other hb (by omega) (by unfold I; omega), h1, h.z.other hb (by omega) (by unfold I; omega), h.b.trans (hb.below (by omega) h.b.size)⟩
theorem R3.goZ (o : Ord w.heap.size lo1 H1 lo2 H2 lo3 H3) (h : R3 w lo1 H1 lo2 H2 lo3 H3 x y z W) (h1 : RdAt W1 H3 (I lo3 H3) z'.1 z'.2) (hb : ButFor H3 W W1) : R3 w lo1 H1 lo2 H2 lo3 H3 x y z' W1 := by
  obtain ⟨a, b, c, d, e, f⟩ := o
  exact ⟨h.x.other hb (by omega) (by unfold I; omega), h.y.other hb (by omega) (by unfold I; omega), h1, h.b.trans (hb.below (by omega) h.b.size)⟩
theorem R3.below (h : R3 w lo1 H1 lo2 H2 lo3 H3 x y z W) (hb : Below W.heap.size W W1) : R3 w lo1 H1 lo2 H2 lo3 H3 x y z W1 :=
  ⟨h.x.below hb (Nat.le_refl _), h.y.below hb (Nat.le_refl _), h.z.below hb (Nat.le_refl _), h.b.trans (hb.mono h.b.size)⟩
end

theorem src_init {w : World} {sp : Option Addr} {l : List (BitVec 8)} (h : SrcA w sp l) : SrcA w sp l.dropLast := fun h0 => by
  obtain ⟨g, o, e, hg, hc⟩ := h (by simp at h0; omega)
  refine ⟨g, o, e, hg, fun j hj => ?_⟩
  have hj' : j < l.length - 1 := by simpa using hj
  rw [hc j (by omega)]
  have hl : j < l.length := by omega
  simp [List.getD_eq_getElem?_getD, hj', hl]
/-- The three readers are made. -/
def Made (bs : List (BitVec 8)) (w : World) (p1 p2 p3 : Value) (W : World) : Prop :=
  ∃ lo1 H1 lo2 H2 lo3 H3, p1 = .pointer (some ⟨H1, 0, none⟩) ∧ p2 = .pointer (some ⟨H2, 0, none⟩) ∧ p3 = .pointer (some ⟨H3, 0, none⟩) ∧ Ord w.heap.size lo1 H1 lo2 H2 lo3 H3 ∧ R3 w lo1 H1 lo2 H2 lo3 H3 (bs, 0) (bs.dropLast, 0) (bs ++ [0#8], 0) W
/-- What is known along the way: each part of it stays where only new memory is written. -/
def RdF (lo H : Nat) (l : List (BitVec 8)) (W : World) : Prop := RdAt W H (I lo H) l 0
def CellF (g : Nat) (W : World) : Prop := W.cell? ⟨g, 0, none⟩ = some (V8 0#8) ∧ g < W.heap.size
def OwnF (B : Nat) (v : Value) (l : List (BitVec 8)) (W : World) : Prop := OwnB W B v l ∧ B ≤ W.heap.size
theorem stAny : Stable Any := fun _ _ _ _ => trivial
theorem stRd (lo H : Nat) (l : List (BitVec 8)) : Stable (RdF lo H l) := fun _ _ h hb => RdAt.below h hb (Nat.le_refl _)
theorem stCell (g : Nat) : Stable (CellF g) := fun _ _ h hb => ⟨(hb.cell (p := ⟨g, 0, none⟩) h.2).trans h.1, Nat.lt_of_lt_of_le h.2 hb.size⟩
theorem stOwn (B : Nat) (v : Value) (l : List (BitVec 8)) : Stable (OwnF B v l) := fun _ _ h hb => ⟨OwnB.below h.1 hb (Nat.le_refl _), Nat.le_trans h.2 hb.size⟩
structure St (w : World) (sb : Option Addr) (bs : List (BitVec 8)) (r1 r2 c o : World → Prop) (W : World) : Prop where
  src : SrcA W sb bs
  below : Below w.heap.size w W
  f1 : r1 W
  f2 : r2 W
  fc : c W
  fo : o W
  s1 : Stable r1
  s2 : Stable r2
  sc : Stable c
  so : Stable o
theorem St.grown {w : World} {sb : Option Addr} {bs : List (BitVec 8)} {r1 r2 c o : World → Prop} {W W' : World} (h : St w sb bs r1 r2 c o W) (hb : Below W.heap.size W W') : St w sb bs r1 r2 c o W' :=
  ⟨h.src.grown hb, h.below.trans (hb.mono h.below.size), h.s1 _ _ h.f1 hb, h.s2 _ _ h.f2 hb, h.sc _ _ h.fc hb, h.so _ _ h.fo hb, h.s1, h.s2, h.sc, h.so⟩
theorem rd_low {W W' : World} {lo H B e : Nat} {l : List (BitVec 8)} (h : RdAt W H (I lo H) l e) (hb : Below B W W') (hB : H < B) : RdAt W' H (I lo H) l e := by
  obtain ⟨sp, cap, h1, h2, h3, h5, h4, h6⟩ := h
  refine ⟨sp, cap, h1.below hb hB, h2, h3, h5, fun h0 => ?_, h6⟩
  obtain ⟨g, o, e1, hn, hg, hc⟩ := h4 h0
  have hgB : g < B := by unfold I at hn; omega
  exact ⟨g, o, e1, hn, Nat.lt_of_lt_of_le hg hb.size, fun j hj => (hb.cell (p := ⟨g, o + j, none⟩) hgB).trans (hc j hj)⟩
theorem ex_sliceTo {ρ : Operand → Value} {o : Oper} {x h : Operand} {sp : Option Addr} {l c n : Nat} {w : World} (ho : o.op = .slice 22 x none (some h) none) (hx : ρ x = .slice sp l c) (hh : ρ h = .int .i64 (n : Int)) (hn : n ≤ c) :
    (execOp ρ o).run Try.prog w = .ok (.value (.slice sp n c)) w := by
  have e := sliceTo sp l c n hn w
  unfold execOp
  simp only [ho, hx, hh, Option.map_some, Option.map_none, Sem.run_bind, e, Result.andThen_ok, Sem.run_pure]
/-- A new reader, as a step tells it. -/
def NewC (l : List (BitVec 8)) (w : World) (v : Value) (w' : World) : Prop := ∃ H, v = .pointer (some ⟨H, 0, none⟩) ∧ RdAt w' H (I w.heap.size H) l 0 ∧ w.heap.size ≤ H ∧ Below w.heap.size w w'
theorem new_c {l : List (BitVec 8)} {w : World} {f : FuncId} {args : Array Value} (h : Calls Try.prog f args w (RetRd l w)) : Calls Try.prog f args w fun e w' => ∃ v, e = .returned v ∧ NewC l w v w' :=
  h.mono fun _ _ ⟨H, e, h1, h2, h3⟩ => ⟨_, e, H, rfl, h1, h2, h3⟩
theorem rd16 (H : Nat) {K : Nat → Prop} {l out : List (BitVec 8)} {e : Nat} {q : List (BitVec 8) × Nat} {w : World} (hR : RdAt w H K l e) (hn : nextRes l e 2 = (out, q)) :
    Calls Try.prog 21 #[.pointer (some ⟨H, 0, none⟩)] w fun x w' => x = .returned (.int .u16 (val out : Int)) ∧ RdAt w' H K q.1 q.2 ∧ ButFor H w w' :=
  (ru16_any H l e w hR).mono fun _ _ h => by unfold TakePost at h; rw [hn] at h; exact h
theorem rd32 (H : Nat) {K : Nat → Prop} {l out : List (BitVec 8)} {e : Nat} {q : List (BitVec 8) × Nat} {w : World} (hR : RdAt w H K l e) (hn : nextRes l e 4 = (out, q)) :
    Calls Try.prog 22 #[.pointer (some ⟨H, 0, none⟩)] w fun x w' => x = .returned (.int .u32 (val out : Int)) ∧ RdAt w' H K q.1 q.2 ∧ ButFor H w w' :=
  (ru32_any H l e w hR).mono fun _ _ h => by unfold TakePost at h; rw [hn] at h; exact h
theorem rd64 (H : Nat) {K : Nat → Prop} {l out : List (BitVec 8)} {e : Nat} {q : List (BitVec 8) × Nat} {w : World} (hR : RdAt w H K l e) (hn : nextRes l e 8 = (out, q)) :
    Calls Try.prog 23 #[.pointer (some ⟨H, 0, none⟩)] w fun x w' => x = .returned (.int .u64 (val out : Int)) ∧ RdAt w' H K q.1 q.2 ∧ ButFor H w w' :=
  (ru64_any H l e w hR).mono fun _ _ h => by unfold TakePost at h; rw [hn] at h; exact h
theorem R3.drewN {w W : World} {lo1 H1 lo2 H2 lo3 H3 : Nat} {x y z : List (BitVec 8) × Nat} (h : R3 w lo1 H1 lo2 H2 lo3 H3 x y z W) (n : Nat) : R3 w lo1 H1 lo2 H2 lo3 H3 x y z (W.drewN n) :=
  ⟨h.x, h.y, h.z, ⟨h.b.os, h.b.tape, h.b.output, h.b.size, h.b.block⟩⟩
theorem yst_zero (ps : List (BitVec 8 × Int)) (h : 0 < ps.length) : yst ps 0 = ((allB ps).dropLast, 0) := by
  unfold yst; rw [if_pos h]; rfl
theorem yst_end (ps : List (BitVec 8 × Int)) : (yst ps ps.length).2 = 4 := by
  unfold yst; rw [if_neg (by omega)]
def upto (m i : Nat) {α : Type} (a b : α) : α := if m < i then b else a
theorem run_b0 (ρ : Operand → Value) (o : Oper) (x : Operand) (w : World) (ho : o.op = .buildSlice 22 1 #[(0, x)]) (hx : ρ x = .int .u8 0) : (execOp ρ o).run Try.prog w = .ok (.value (.slice (some ⟨w.heap.size, 0, none⟩) 1 1)) (w.alloc (.cells #[.int .u8 0] 5)) := by
  unfold execOp
  simp [go_sem, ho, hx]

/-- The first loop: what stands behind i parts. -/
def PutsAt (ps : List (BitVec 8 × Int)) (w : World) (i : Nat) (s : Value) (wr : World) : Prop :=
  ∃ sp cap, s = .slice sp (allB (ps.take i)).length cap ∧ (allB (ps.take i)).length ≤ cap ∧ (sp = none → cap = 0) ∧ SrcA wr sp (allB (ps.take i)) ∧ Below w.heap.size w wr
theorem puts_next {ps : List (BitVec 8 × Int)} {w wr w1 : World} {i : Nat} {v : Value} (hi : i < ps.length) (hb : Below w.heap.size w wr) (ho : OwnB w1 wr.heap.size v (allB (ps.take i) ++ pb (ps.getD i (0, 0)))) (hb1 : Below wr.heap.size wr w1) : PutsAt ps w (i + 1) v w1 := by
  rw [← allB_take ps i hi] at ho
  obtain ⟨sp, cap, rfl, hc, _, hs, hz, _⟩ := OwnB.form ho
  exact ⟨sp, cap, rfl, hc, hz, hs, hb.trans (hb1.mono hb.size)⟩

set_option maxRecDepth 100000 in
set_option maxHeartbeats 2000000 in
theorem wireBack_body (ps : List (BitVec 8 × Int)) (sp : Option Addr) (cap : Nat) (w : World) (h0 : 0 < ps.length) (hl : ps.length ≤ 100) (hP : PairsAt .u64 w sp ps) (hN : ∀ i, i < ps.length → ∃ n : Nat, (ps.getD i (0, 0)).2 = (n : Int) ∧ n < 18446744073709551616) :
    Calls Try.prog 6 #[.slice sp ps.length cap] w fun e w' => e = .returned (.bool true) ∧ Below w.heap.size w w' := by
  obtain ⟨g, o, rfl, hg, hc⟩ := hP h0
  have HC := Lib.hid hc
  have HN := Lib.hid hN
  obtain ⟨N, hNl⟩ : ∃ N, ps.length = N := ⟨_, rfl⟩
  have HL := Lib.hid hNl
  rw [hNl] at h0 hl ⊢
  have i0 : ¬ ((N : Int) = 0) := by omega
  have i1 : ((N : Int) == 0) = false := by rw [beq_eq_false_iff_ne]; omega
  clear hc hN hP hNl
  go_enter Try.func6, Try.ntmps6
  go_wp2
  go_loopw [3, 4] (fun s i wr => ∃ k : Nat, k ≤ N ∧ i = .int .i64 k ∧ PutsAt ps w k s wr) (fun _ i _ => N - (intOf i).toNat)
  case atStart => exact ⟨0, by omega, rfl, none, 0, rfl, by simp [allB], fun _ => rfl, SrcA.nil _ _, Below.refl _ _⟩
  case round =>
    obtain ⟨k, hk, rfl, sb, cb, rfl, hcb, hzb, hsb, hbel⟩ := hrel
    have HCB := Lib.hid hcb
    have HZB := Lib.hid hzb
    have HSB := Lib.hid hsb
    have HB := Lib.hid hbel
    have hle : (allB (ps.take k)).length ≤ 800 := Nat.le_trans (allB_le _) (by rw [List.length_take, HL.out]; omega)
    by_cases hlt : k < N
    · obtain ⟨x, hx⟩ : ∃ x, ps.getD k (0, 0) = x := ⟨_, rfl⟩
      obtain ⟨q0, q1⟩ := HC.out k (by rw [HL.out]; exact hlt)
      obtain ⟨n, hn, hn64⟩ := HN.out k (by rw [HL.out]; exact hlt)
      have c0 := (hbel.cell (p := ⟨g, o + k * 2, none⟩) hg).trans q0
      have c1 := (hbel.cell (p := ⟨g, o + k * 2 + 1, none⟩) hg).trans q1
      rw [hx] at c0 hn
      rw [hx, hn] at c1
      have HX := Lib.hid hx
      have HNN := Lib.hid hn
      have HN64 := Lib.hid hn64
      have HPB : Hid (∀ v w1, OwnB w1 wr.heap.size v (allB (ps.take k) ++ leb n (wid x.1)) → Below wr.heap.size wr w1 → PutsAt ps w (k + 1) v w1) := Lib.hid (fun v w1 h1 h2 => puts_next (by rw [HL.out]; exact hlt) HB.out (by rw [HX.out]; unfold pb; rw [HNN.out]; exact h1) h2)
      clear hcb hzb hsb hbel hx hn hn64 q0 q1
      obtain ⟨d, hd⟩ : ∃ d, x.1.toNat % 3 = d := ⟨_, rfl⟩
      obtain ⟨m1, m2⟩ := mod3 x.1 d hd
      have hd3 : d = 0 ∨ d = 1 ∨ d = 2 := by omega
      have HD := Lib.hid hd
      clear hd
      rcases hd3 with rfl | rfl | rfl
      · have HLB : Hid (leb (n % 65536) 2 = leb n (wid x.1)) := Lib.hid (by rw [show wid x.1 = 2 from by unfold wid; rw [HD.out]; rfl]; exact leb_mod n 2)
        have m1' : (N8 x.1).tmod 3 = 0 := m1
        have m2' : N8 x.1 % 3 = 0 := m2
        clear m1 m2
        have r0 : IntKind.u16.wrap (n : Int) = ((n % 65536 : Nat) : Int) := by simp only [IntKind.wrap_u16]; omega
        go_wp2_with (first
          | (go_at_call 8; refine (pu16_own (allB (ps.take k)) sb cb (n % 65536) _ (by omega) (Nat.mod_lt _ (by omega)) HSB.out).mono ?_; rintro e w1 ⟨v, rfl, ho, hb1⟩; rw [HLB.out] at ho; have HR := Lib.hid (HPB.out v w1 ho hb1); clear ho hb1)
          | fail)
        go_roundw
        case rel => exact ⟨k + 1, by omega, by go_num, HR.out⟩
        case measure => simp [intOf]; omega
      · have HLB : Hid (leb (n % 4294967296) 4 = leb n (wid x.1)) := Lib.hid (by rw [show wid x.1 = 4 from by unfold wid; rw [HD.out]; rfl]; exact leb_mod n 4)
        have m1' : (N8 x.1).tmod 3 = 1 := m1
        have m2' : N8 x.1 % 3 = 1 := m2
        clear m1 m2
        have r0 : IntKind.u32.wrap (n : Int) = ((n % 4294967296 : Nat) : Int) := by simp only [IntKind.wrap_u32]; omega
        go_wp2_with (first
          | (go_at_call 10; refine (pu32_own (allB (ps.take k)) sb cb (n % 4294967296) _ (by omega) (Nat.mod_lt _ (by omega)) HSB.out).mono ?_; rintro e w1 ⟨v, rfl, ho, hb1⟩; rw [HLB.out] at ho; have HR := Lib.hid (HPB.out v w1 ho hb1); clear ho hb1)
          | fail)
        go_roundw
        case rel => exact ⟨k + 1, by omega, by go_num, HR.out⟩
        case measure => simp [intOf]; omega
      · have HLB : Hid (leb n 8 = leb n (wid x.1)) := Lib.hid (by rw [show wid x.1 = 8 from by unfold wid; rw [HD.out]; rfl])
        have m1' : (N8 x.1).tmod 3 = 2 := m1
        have m2' : N8 x.1 % 3 = 2 := m2
        clear m1 m2
        go_wp2_with (first
          | (go_at_call 11; refine (pu64_own (allB (ps.take k)) sb cb (n) _ (by omega) HN64.out HSB.out).mono ?_; rintro e w1 ⟨v, rfl, ho, hb1⟩; rw [HLB.out] at ho; have HR := Lib.hid (HPB.out v w1 ho hb1); clear ho hb1)
          | fail)
        go_roundw
        case rel => exact ⟨k + 1, by omega, by go_num, HR.out⟩
        case measure => simp [intOf]; omega
    · obtain rfl : k = N := by omega
      have HE : Hid (ps.take k = ps) := Lib.hid (List.take_of_length_le (by have := HL.out; omega))
      rw [HE.out] at hcb HSB hle ⊢
      have hge := allB_ge ps (by rw [HL.out]; exact h0)
      obtain ⟨bs, hbs⟩ : ∃ bs, allB ps = bs := ⟨_, rfl⟩
      rw [hbs] at hcb HSB hle hge ⊢
      have HBS := Lib.hid hbs
      have HZ := HZB
      clear hzb hsb hbel hlt hk hbs HZB HCB
      have hge2 : ¬ ((bs.length : Int) < 2) := by omega
      have HDL : Hid (bs.dropLast.length = bs.length - 1) := Lib.hid (by simp)
      have HZL : Hid ((bs ++ [0#8]).length = bs.length + 1) := Lib.hid (by simp)
      go_wp2
      go_cut [5, 6, 7] (fun s5 s6 s7 wx => Made bs w s5 s6 s7 wx)
      case first =>
        have HS00 : Hid (St w sb bs Any Any Any Any wr.drew) := Lib.hid ⟨HSB.out, HB.out.drew, trivial, trivial, trivial, trivial, stAny, stAny, stAny, stAny⟩
        refine wp_region_sched (.take 0 (.take 2 (.take 3 (.take 4 (.take 5 (.take 6 (.take 8 (.fork 1 (.fork 7 (.fork 9 (.step 10 (.step 11 (.step 12 (.take 13 (.take 14 (.take 15 (.nil))))))) 10 (.step 9 (.step 11 (.step 12 (.take 13 (.take 14 (.take 15 (.nil)))))))) 10 (.step 7 (.step 9 (.step 11 (.step 12 (.take 13 (.take 14 (.take 15 (.nil))))))))) 10 (.step 1 (.step 7 (.step 9 (.step 11 (.step 12 (.take 13 (.take 14 (.take 15 (.nil))))))))))))))))) (by kernel_rfl) (by kernel_rfl) (fun d _ _ _ _ h => by cases d <;> exact h) Any trivial ?_
        obtain ⟨w1, hw1⟩ : ∃ w1, wr.drew = w1 := ⟨_, rfl⟩
        rw [hw1] at HS00 ⊢
        have HS1 := HS00
        clear hw1 HS00
        have l1 : ((bs.length - 1 : Nat) : Int) = (bs.length : Int) - 1 := by omega
        have e2 := IntWalk.i64_in ((bs.length : Int) - 1) (by omega)
        refine wpG_take _ (Value.slice sb bs.length cb) rfl (by rfl) (fun _ _ => by rfl) ?_
        (try simp only [Act.put, List.setIfInBounds_toArray, List.set_cons_zero, List.set_cons_succ])
        refine wpG_take _ (Value.slice sb bs.length cb) rfl (by rfl) (fun _ _ => by rfl) ?_
        (try simp only [Act.put, List.setIfInBounds_toArray, List.set_cons_zero, List.set_cons_succ])
        refine wpG_take _ (Value.slice sb bs.length cb) rfl (by rfl) (fun _ _ => by rfl) ?_
        (try simp only [Act.put, List.setIfInBounds_toArray, List.set_cons_zero, List.set_cons_succ])
        refine wpG_take _ (.int .i64 (bs.length : Int)) rfl (by rfl) (fun _ _ => by go_simp) ?_
        (try simp only [Act.put, List.setIfInBounds_toArray, List.set_cons_zero, List.set_cons_succ])
        refine wpG_take _ (.int .i64 (bs.length - 1 : Nat)) rfl (by rfl) (fun _ _ => by go_simp) ?_
        (try simp only [Act.put, List.setIfInBounds_toArray, List.set_cons_zero, List.set_cons_succ])
        refine wpG_take _ (Value.slice sb (bs.length - 1) cb) rfl (by rfl) (fun _ _ => ex_sliceTo rfl rfl rfl (by omega)) ?_
        (try simp only [Act.put, List.setIfInBounds_toArray, List.set_cons_zero, List.set_cons_succ])
        refine wpG_take _ (Value.slice sb bs.length cb) rfl (by rfl) (fun _ _ => by rfl) ?_
        (try simp only [Act.put, List.setIfInBounds_toArray, List.set_cons_zero, List.set_cons_succ])
        clear e2
        refine wpG_fork ?_ ?_
        · refine wpG_callT _ rfl (by rfl) 14 #[.slice sb bs.length cb] (fun _ => by go_simp) (NewC (bs) w1) (new_c (new_any bs sb cb _ (by omega) HZ.out hcb HS1.out.src)) ?_
          rintro _ w2 ⟨H1, rfl, hr, hh, hb⟩
          (try simp only [Act.put, List.setIfInBounds_toArray, List.set_cons_zero, List.set_cons_succ])
          have HS2 : Hid (St w sb bs (RdF w1.heap.size H1 bs) Any Any Any w2) := Lib.hid ⟨HS1.out.grown hb |>.src, (HS1.out.grown hb).below, hr, (HS1.out.grown hb).f2, (HS1.out.grown hb).fc, (HS1.out.grown hb).fo, stRd _ _ _, HS1.out.s2, HS1.out.sc, HS1.out.so⟩
          have HH1 : Hid (w1.heap.size ≤ H1) := Lib.hid hh
          have HO1 : Hid (w.heap.size ≤ w1.heap.size) := Lib.hid HS1.out.below.size
          clear hr hh hb
          refine wpG_fork ?_ ?_
          · refine wpG_callT _ rfl (by rfl) 14 #[.slice sb (bs.length - 1) cb] (fun _ => by go_simp) (NewC (bs.dropLast) w2) (new_c ((by have h := new_any bs.dropLast sb cb w2 (by rw [HDL.out]; omega) HZ.out (by rw [HDL.out]; omega) (src_init HS2.out.src); rw [HDL.out] at h; exact h))) ?_
            rintro _ w3 ⟨H2, rfl, hr, hh, hb⟩
            (try simp only [Act.put, List.setIfInBounds_toArray, List.set_cons_zero, List.set_cons_succ])
            have HS3 : Hid (St w sb bs (RdF w1.heap.size H1 bs) (RdF w2.heap.size H2 bs.dropLast) Any Any w3) := Lib.hid ⟨HS2.out.grown hb |>.src, (HS2.out.grown hb).below, (HS2.out.grown hb).f1, hr, (HS2.out.grown hb).fc, (HS2.out.grown hb).fo, HS2.out.s1, stRd _ _ _, HS2.out.sc, HS2.out.so⟩
            have HH2 : Hid (w2.heap.size ≤ H2) := Lib.hid hh
            have HO2 : Hid (H1 < w2.heap.size) := Lib.hid HS2.out.f1.lt
            clear hr hh hb
            refine wpG_fork ?_ ?_
            · refine wpG_appT _ rfl (by rfl) _ (.tmp 72) rfl rfl sb cb bs rfl hcb HZ.out (by omega) HS3.out.src ?_
              intro v w4 ho hb
              (try simp only [Act.put, List.setIfInBounds_toArray, List.set_cons_zero, List.set_cons_succ])
              have HS4 : Hid (St w sb bs (RdF w1.heap.size H1 bs) (RdF w2.heap.size H2 bs.dropLast) Any (OwnF w3.heap.size v bs) w4) := Lib.hid ⟨(HS3.out.grown hb).src, (HS3.out.grown hb).below, (HS3.out.grown hb).f1, (HS3.out.grown hb).f2, (HS3.out.grown hb).fc, ⟨ho, hb.size⟩, HS3.out.s1, HS3.out.s2, HS3.out.sc, stOwn _ _ _⟩
              have HL1 : Hid (H1 < w3.heap.size) := Lib.hid HS3.out.f1.lt
              have HL2 : Hid (H2 < w3.heap.size) := Lib.hid HS3.out.f2.lt
              have HLB : Hid (w.heap.size ≤ w3.heap.size) := Lib.hid HS3.out.below.size
              clear ho hb
              refine wpG_valT _ rfl (by rfl) _ _ (run_b0 _ _ _ _ rfl rfl) ?_
              (try simp only [Act.put, List.setIfInBounds_toArray, List.set_cons_zero, List.set_cons_succ])
              obtain ⟨w5, hw⟩ : ∃ W, w4.alloc (.cells #[.int .u8 0] 5) = W := ⟨_, rfl⟩
              have hb : Below w4.heap.size w4 w5 := by rw [← hw]; exact (Below.refl _ _).alloc (Nat.le_refl _) _
              have hce : CellF w4.heap.size w5 := by rw [← hw]; exact ⟨(Blk.new' w4 _ [V8 0#8] 5 w4.heap.size rfl rfl).cell rfl, by simp⟩
              have HS5 : Hid (St w sb bs (RdF w1.heap.size H1 bs) (RdF w2.heap.size H2 bs.dropLast) (CellF w4.heap.size) (OwnF w3.heap.size v bs) w5) := Lib.hid ⟨(HS4.out.grown hb).src, (HS4.out.grown hb).below, (HS4.out.grown hb).f1, (HS4.out.grown hb).f2, hce, (HS4.out.grown hb).fo, HS4.out.s1, HS4.out.s2, stCell _, HS4.out.so⟩
              rw [hw]; clear hw hb hce
              refine wpG_app1 _ rfl (by rfl) (.tmp 73) (.tmp 74) rfl v rfl w3.heap.size bs HS5.out.fo.1 0#8 ⟨w4.heap.size, 0, none⟩ 1 rfl HS5.out.fc.1 (by omega) HS5.out.fo.2 ?_
              intro v2 w6 ho hg
              (try simp only [Act.put, List.setIfInBounds_toArray, List.set_cons_zero, List.set_cons_succ])
              have hb : Below w3.heap.size w5 w6 := (Below.refl _ _).grown hg HS5.out.fo.2 (fun k hk => (HS5.out.fo.1.lt k hk).1)
              have HR1 : Hid ((RdF w1.heap.size H1 bs) w6) := Lib.hid (rd_low HS5.out.f1 hb HL1.out)
              have HR2 : Hid ((RdF w2.heap.size H2 bs.dropLast) w6) := Lib.hid (rd_low HS5.out.f2 hb HL2.out)
              have HBL : Hid (Below w.heap.size w w6) := Lib.hid (HS5.out.below.trans (hb.mono HLB.out))
              obtain ⟨sz, cz, rfl, hcz, _, hsz, hzz, _⟩ := OwnB.form ho
              have HSZ := Lib.hid hsz
              have HZZ := Lib.hid hzz
              clear ho hg hb hsz hzz
              refine wpG_callT _ rfl (by rfl) 14 #[.slice sz (bs ++ [0#8]).length cz] (fun _ => by go_simp) (NewC (bs ++ [0#8]) w6) (new_c (new_any (bs ++ [0#8]) sz cz _ (by rw [HZL.out]; omega) HZZ.out hcz HSZ.out)) ?_
              rintro _ w7 ⟨H3, rfl, hr, hh, hb⟩
              (try simp only [Act.put, List.setIfInBounds_toArray, List.set_cons_zero, List.set_cons_succ])
              refine wpG_take _ (.pointer (some ⟨H1, 0, none⟩)) rfl (by rfl) (fun _ _ => by rfl) ?_
              (try simp only [Act.put, List.setIfInBounds_toArray, List.set_cons_zero, List.set_cons_succ])
              refine wpG_take _ (.pointer (some ⟨H2, 0, none⟩)) rfl (by rfl) (fun _ _ => by rfl) ?_
              (try simp only [Act.put, List.setIfInBounds_toArray, List.set_cons_zero, List.set_cons_succ])
              refine wpG_take _ (.pointer (some ⟨H3, 0, none⟩)) rfl (by rfl) (fun _ _ => by rfl) ?_
              (try simp only [Act.put, List.setIfInBounds_toArray, List.set_cons_zero, List.set_cons_succ])
              refine wpG_nil ?_
              have HM : Hid (Made bs w (.pointer (some ⟨H1, 0, none⟩)) (.pointer (some ⟨H2, 0, none⟩)) (.pointer (some ⟨H3, 0, none⟩)) w7) := Lib.hid ⟨_, H1, _, H2, _, H3, rfl, rfl, rfl, ⟨HO1.out, HH1.out, HO2.out, HH2.out, HR2.out.lt, hh⟩, ⟨HR1.out.below hb (Nat.le_refl _), HR2.out.below hb (Nat.le_refl _), hr, HBL.out.trans (hb.mono HBL.out.size)⟩⟩
              clear hr hh hb
              go_wp2_with fail
              go_meet
              exact HM.out
            · refine wpG_valT _ rfl (by rfl) _ _ (run_b0 _ _ _ _ rfl rfl) ?_
              (try simp only [Act.put, List.setIfInBounds_toArray, List.set_cons_zero, List.set_cons_succ])
              obtain ⟨w4, hw⟩ : ∃ W, w3.alloc (.cells #[.int .u8 0] 5) = W := ⟨_, rfl⟩
              have hb : Below w3.heap.size w3 w4 := by rw [← hw]; exact (Below.refl _ _).alloc (Nat.le_refl _) _
              have hce : CellF w3.heap.size w4 := by rw [← hw]; exact ⟨(Blk.new' w3 _ [V8 0#8] 5 w3.heap.size rfl rfl).cell rfl, by simp⟩
              have HS4 : Hid (St w sb bs (RdF w1.heap.size H1 bs) (RdF w2.heap.size H2 bs.dropLast) (CellF w3.heap.size) Any w4) := Lib.hid ⟨(HS3.out.grown hb).src, (HS3.out.grown hb).below, (HS3.out.grown hb).f1, (HS3.out.grown hb).f2, hce, (HS3.out.grown hb).fo, HS3.out.s1, HS3.out.s2, stCell _, HS3.out.so⟩
              rw [hw]; clear hw hb hce
              refine wpG_appT _ rfl (by rfl) _ (.tmp 72) rfl rfl sb cb bs rfl hcb HZ.out (by omega) HS4.out.src ?_
              intro v w5 ho hb
              (try simp only [Act.put, List.setIfInBounds_toArray, List.set_cons_zero, List.set_cons_succ])
              have HS5 : Hid (St w sb bs (RdF w1.heap.size H1 bs) (RdF w2.heap.size H2 bs.dropLast) (CellF w3.heap.size) (OwnF w4.heap.size v bs) w5) := Lib.hid ⟨(HS4.out.grown hb).src, (HS4.out.grown hb).below, (HS4.out.grown hb).f1, (HS4.out.grown hb).f2, (HS4.out.grown hb).fc, ⟨ho, hb.size⟩, HS4.out.s1, HS4.out.s2, HS4.out.sc, stOwn _ _ _⟩
              have HL1 : Hid (H1 < w4.heap.size) := Lib.hid HS4.out.f1.lt
              have HL2 : Hid (H2 < w4.heap.size) := Lib.hid HS4.out.f2.lt
              have HLB : Hid (w.heap.size ≤ w4.heap.size) := Lib.hid HS4.out.below.size
              clear ho hb
              refine wpG_app1 _ rfl (by rfl) (.tmp 73) (.tmp 74) rfl v rfl w4.heap.size bs HS5.out.fo.1 0#8 ⟨w3.heap.size, 0, none⟩ 1 rfl HS5.out.fc.1 (by omega) HS5.out.fo.2 ?_
              intro v2 w6 ho hg
              (try simp only [Act.put, List.setIfInBounds_toArray, List.set_cons_zero, List.set_cons_succ])
              have hb : Below w4.heap.size w5 w6 := (Below.refl _ _).grown hg HS5.out.fo.2 (fun k hk => (HS5.out.fo.1.lt k hk).1)
              have HR1 : Hid ((RdF w1.heap.size H1 bs) w6) := Lib.hid (rd_low HS5.out.f1 hb HL1.out)
              have HR2 : Hid ((RdF w2.heap.size H2 bs.dropLast) w6) := Lib.hid (rd_low HS5.out.f2 hb HL2.out)
              have HBL : Hid (Below w.heap.size w w6) := Lib.hid (HS5.out.below.trans (hb.mono HLB.out))
              obtain ⟨sz, cz, rfl, hcz, _, hsz, hzz, _⟩ := OwnB.form ho
              have HSZ := Lib.hid hsz
              have HZZ := Lib.hid hzz
              clear ho hg hb hsz hzz
              refine wpG_callT _ rfl (by rfl) 14 #[.slice sz (bs ++ [0#8]).length cz] (fun _ => by go_simp) (NewC (bs ++ [0#8]) w6) (new_c (new_any (bs ++ [0#8]) sz cz _ (by rw [HZL.out]; omega) HZZ.out hcz HSZ.out)) ?_
              rintro _ w7 ⟨H3, rfl, hr, hh, hb⟩
              (try simp only [Act.put, List.setIfInBounds_toArray, List.set_cons_zero, List.set_cons_succ])
              refine wpG_take _ (.pointer (some ⟨H1, 0, none⟩)) rfl (by rfl) (fun _ _ => by rfl) ?_
              (try simp only [Act.put, List.setIfInBounds_toArray, List.set_cons_zero, List.set_cons_succ])
              refine wpG_take _ (.pointer (some ⟨H2, 0, none⟩)) rfl (by rfl) (fun _ _ => by rfl) ?_
              (try simp only [Act.put, List.setIfInBounds_toArray, List.set_cons_zero, List.set_cons_succ])
              refine wpG_take _ (.pointer (some ⟨H3, 0, none⟩)) rfl (by rfl) (fun _ _ => by rfl) ?_
              (try simp only [Act.put, List.setIfInBounds_toArray, List.set_cons_zero, List.set_cons_succ])
              refine wpG_nil ?_
              have HM : Hid (Made bs w (.pointer (some ⟨H1, 0, none⟩)) (.pointer (some ⟨H2, 0, none⟩)) (.pointer (some ⟨H3, 0, none⟩)) w7) := Lib.hid ⟨_, H1, _, H2, _, H3, rfl, rfl, rfl, ⟨HO1.out, HH1.out, HO2.out, HH2.out, HR2.out.lt, hh⟩, ⟨HR1.out.below hb (Nat.le_refl _), HR2.out.below hb (Nat.le_refl _), hr, HBL.out.trans (hb.mono HBL.out.size)⟩⟩
              clear hr hh hb
              go_wp2_with fail
              go_meet
              exact HM.out
          · refine wpG_valT _ rfl (by rfl) _ _ (run_b0 _ _ _ _ rfl rfl) ?_
            (try simp only [Act.put, List.setIfInBounds_toArray, List.set_cons_zero, List.set_cons_succ])
            obtain ⟨w3, hw⟩ : ∃ W, w2.alloc (.cells #[.int .u8 0] 5) = W := ⟨_, rfl⟩
            have hb : Below w2.heap.size w2 w3 := by rw [← hw]; exact (Below.refl _ _).alloc (Nat.le_refl _) _
            have hce : CellF w2.heap.size w3 := by rw [← hw]; exact ⟨(Blk.new' w2 _ [V8 0#8] 5 w2.heap.size rfl rfl).cell rfl, by simp⟩
            have HS3 : Hid (St w sb bs (RdF w1.heap.size H1 bs) Any (CellF w2.heap.size) Any w3) := Lib.hid ⟨(HS2.out.grown hb).src, (HS2.out.grown hb).below, (HS2.out.grown hb).f1, (HS2.out.grown hb).f2, hce, (HS2.out.grown hb).fo, HS2.out.s1, HS2.out.s2, stCell _, HS2.out.so⟩
            rw [hw]; clear hw hb hce
            refine wpG_callT _ rfl (by rfl) 14 #[.slice sb (bs.length - 1) cb] (fun _ => by go_simp) (NewC (bs.dropLast) w3) (new_c ((by have h := new_any bs.dropLast sb cb w3 (by rw [HDL.out]; omega) HZ.out (by rw [HDL.out]; omega) (src_init HS3.out.src); rw [HDL.out] at h; exact h))) ?_
            rintro _ w4 ⟨H2, rfl, hr, hh, hb⟩
            (try simp only [Act.put, List.setIfInBounds_toArray, List.set_cons_zero, List.set_cons_succ])
            have HS4 : Hid (St w sb bs (RdF w1.heap.size H1 bs) (RdF w3.heap.size H2 bs.dropLast) (CellF w2.heap.size) Any w4) := Lib.hid ⟨HS3.out.grown hb |>.src, (HS3.out.grown hb).below, (HS3.out.grown hb).f1, hr, (HS3.out.grown hb).fc, (HS3.out.grown hb).fo, HS3.out.s1, stRd _ _ _, HS3.out.sc, HS3.out.so⟩
            have HH2 : Hid (w3.heap.size ≤ H2) := Lib.hid hh
            have HO2 : Hid (H1 < w3.heap.size) := Lib.hid HS3.out.f1.lt
            clear hr hh hb
            refine wpG_appT _ rfl (by rfl) _ (.tmp 72) rfl rfl sb cb bs rfl hcb HZ.out (by omega) HS4.out.src ?_
            intro v w5 ho hb
            (try simp only [Act.put, List.setIfInBounds_toArray, List.set_cons_zero, List.set_cons_succ])
            have HS5 : Hid (St w sb bs (RdF w1.heap.size H1 bs) (RdF w3.heap.size H2 bs.dropLast) (CellF w2.heap.size) (OwnF w4.heap.size v bs) w5) := Lib.hid ⟨(HS4.out.grown hb).src, (HS4.out.grown hb).below, (HS4.out.grown hb).f1, (HS4.out.grown hb).f2, (HS4.out.grown hb).fc, ⟨ho, hb.size⟩, HS4.out.s1, HS4.out.s2, HS4.out.sc, stOwn _ _ _⟩
            have HL1 : Hid (H1 < w4.heap.size) := Lib.hid HS4.out.f1.lt
            have HL2 : Hid (H2 < w4.heap.size) := Lib.hid HS4.out.f2.lt
            have HLB : Hid (w.heap.size ≤ w4.heap.size) := Lib.hid HS4.out.below.size
            clear ho hb
            refine wpG_app1 _ rfl (by rfl) (.tmp 73) (.tmp 74) rfl v rfl w4.heap.size bs HS5.out.fo.1 0#8 ⟨w2.heap.size, 0, none⟩ 1 rfl HS5.out.fc.1 (by omega) HS5.out.fo.2 ?_
            intro v2 w6 ho hg
            (try simp only [Act.put, List.setIfInBounds_toArray, List.set_cons_zero, List.set_cons_succ])
            have hb : Below w4.heap.size w5 w6 := (Below.refl _ _).grown hg HS5.out.fo.2 (fun k hk => (HS5.out.fo.1.lt k hk).1)
            have HR1 : Hid ((RdF w1.heap.size H1 bs) w6) := Lib.hid (rd_low HS5.out.f1 hb HL1.out)
            have HR2 : Hid ((RdF w3.heap.size H2 bs.dropLast) w6) := Lib.hid (rd_low HS5.out.f2 hb HL2.out)
            have HBL : Hid (Below w.heap.size w w6) := Lib.hid (HS5.out.below.trans (hb.mono HLB.out))
            obtain ⟨sz, cz, rfl, hcz, _, hsz, hzz, _⟩ := OwnB.form ho
            have HSZ := Lib.hid hsz
            have HZZ := Lib.hid hzz
            clear ho hg hb hsz hzz
            refine wpG_callT _ rfl (by rfl) 14 #[.slice sz (bs ++ [0#8]).length cz] (fun _ => by go_simp) (NewC (bs ++ [0#8]) w6) (new_c (new_any (bs ++ [0#8]) sz cz _ (by rw [HZL.out]; omega) HZZ.out hcz HSZ.out)) ?_
            rintro _ w7 ⟨H3, rfl, hr, hh, hb⟩
            (try simp only [Act.put, List.setIfInBounds_toArray, List.set_cons_zero, List.set_cons_succ])
            refine wpG_take _ (.pointer (some ⟨H1, 0, none⟩)) rfl (by rfl) (fun _ _ => by rfl) ?_
            (try simp only [Act.put, List.setIfInBounds_toArray, List.set_cons_zero, List.set_cons_succ])
            refine wpG_take _ (.pointer (some ⟨H2, 0, none⟩)) rfl (by rfl) (fun _ _ => by rfl) ?_
            (try simp only [Act.put, List.setIfInBounds_toArray, List.set_cons_zero, List.set_cons_succ])
            refine wpG_take _ (.pointer (some ⟨H3, 0, none⟩)) rfl (by rfl) (fun _ _ => by rfl) ?_
            (try simp only [Act.put, List.setIfInBounds_toArray, List.set_cons_zero, List.set_cons_succ])
            refine wpG_nil ?_
            have HM : Hid (Made bs w (.pointer (some ⟨H1, 0, none⟩)) (.pointer (some ⟨H2, 0, none⟩)) (.pointer (some ⟨H3, 0, none⟩)) w7) := Lib.hid ⟨_, H1, _, H2, _, H3, rfl, rfl, rfl, ⟨HO1.out, HH1.out, HO2.out, HH2.out, HR2.out.lt, hh⟩, ⟨HR1.out.below hb (Nat.le_refl _), HR2.out.below hb (Nat.le_refl _), hr, HBL.out.trans (hb.mono HBL.out.size)⟩⟩
            clear hr hh hb
            go_wp2_with fail
            go_meet
            exact HM.out
        · refine wpG_valT _ rfl (by rfl) _ _ (run_b0 _ _ _ _ rfl rfl) ?_
          (try simp only [Act.put, List.setIfInBounds_toArray, List.set_cons_zero, List.set_cons_succ])
          obtain ⟨w2, hw⟩ : ∃ W, w1.alloc (.cells #[.int .u8 0] 5) = W := ⟨_, rfl⟩
          have hb : Below w1.heap.size w1 w2 := by rw [← hw]; exact (Below.refl _ _).alloc (Nat.le_refl _) _
          have hce : CellF w1.heap.size w2 := by rw [← hw]; exact ⟨(Blk.new' w1 _ [V8 0#8] 5 w1.heap.size rfl rfl).cell rfl, by simp⟩
          have HS2 : Hid (St w sb bs Any Any (CellF w1.heap.size) Any w2) := Lib.hid ⟨(HS1.out.grown hb).src, (HS1.out.grown hb).below, (HS1.out.grown hb).f1, (HS1.out.grown hb).f2, hce, (HS1.out.grown hb).fo, HS1.out.s1, HS1.out.s2, stCell _, HS1.out.so⟩
          rw [hw]; clear hw hb hce
          refine wpG_callT _ rfl (by rfl) 14 #[.slice sb bs.length cb] (fun _ => by go_simp) (NewC (bs) w2) (new_c (new_any bs sb cb _ (by omega) HZ.out hcb HS2.out.src)) ?_
          rintro _ w3 ⟨H1, rfl, hr, hh, hb⟩
          (try simp only [Act.put, List.setIfInBounds_toArray, List.set_cons_zero, List.set_cons_succ])
          have HS3 : Hid (St w sb bs (RdF w2.heap.size H1 bs) Any (CellF w1.heap.size) Any w3) := Lib.hid ⟨HS2.out.grown hb |>.src, (HS2.out.grown hb).below, hr, (HS2.out.grown hb).f2, (HS2.out.grown hb).fc, (HS2.out.grown hb).fo, stRd _ _ _, HS2.out.s2, HS2.out.sc, HS2.out.so⟩
          have HH1 : Hid (w2.heap.size ≤ H1) := Lib.hid hh
          have HO1 : Hid (w.heap.size ≤ w2.heap.size) := Lib.hid HS2.out.below.size
          clear hr hh hb
          refine wpG_callT _ rfl (by rfl) 14 #[.slice sb (bs.length - 1) cb] (fun _ => by go_simp) (NewC (bs.dropLast) w3) (new_c ((by have h := new_any bs.dropLast sb cb w3 (by rw [HDL.out]; omega) HZ.out (by rw [HDL.out]; omega) (src_init HS3.out.src); rw [HDL.out] at h; exact h))) ?_
          rintro _ w4 ⟨H2, rfl, hr, hh, hb⟩
          (try simp only [Act.put, List.setIfInBounds_toArray, List.set_cons_zero, List.set_cons_succ])
          have HS4 : Hid (St w sb bs (RdF w2.heap.size H1 bs) (RdF w3.heap.size H2 bs.dropLast) (CellF w1.heap.size) Any w4) := Lib.hid ⟨HS3.out.grown hb |>.src, (HS3.out.grown hb).below, (HS3.out.grown hb).f1, hr, (HS3.out.grown hb).fc, (HS3.out.grown hb).fo, HS3.out.s1, stRd _ _ _, HS3.out.sc, HS3.out.so⟩
          have HH2 : Hid (w3.heap.size ≤ H2) := Lib.hid hh
          have HO2 : Hid (H1 < w3.heap.size) := Lib.hid HS3.out.f1.lt
          clear hr hh hb
          refine wpG_appT _ rfl (by rfl) _ (.tmp 72) rfl rfl sb cb bs rfl hcb HZ.out (by omega) HS4.out.src ?_
          intro v w5 ho hb
          (try simp only [Act.put, List.setIfInBounds_toArray, List.set_cons_zero, List.set_cons_succ])
          have HS5 : Hid (St w sb bs (RdF w2.heap.size H1 bs) (RdF w3.heap.size H2 bs.dropLast) (CellF w1.heap.size) (OwnF w4.heap.size v bs) w5) := Lib.hid ⟨(HS4.out.grown hb).src, (HS4.out.grown hb).below, (HS4.out.grown hb).f1, (HS4.out.grown hb).f2, (HS4.out.grown hb).fc, ⟨ho, hb.size⟩, HS4.out.s1, HS4.out.s2, HS4.out.sc, stOwn _ _ _⟩
          have HL1 : Hid (H1 < w4.heap.size) := Lib.hid HS4.out.f1.lt
          have HL2 : Hid (H2 < w4.heap.size) := Lib.hid HS4.out.f2.lt
          have HLB : Hid (w.heap.size ≤ w4.heap.size) := Lib.hid HS4.out.below.size
          clear ho hb
          refine wpG_app1 _ rfl (by rfl) (.tmp 73) (.tmp 74) rfl v rfl w4.heap.size bs HS5.out.fo.1 0#8 ⟨w1.heap.size, 0, none⟩ 1 rfl HS5.out.fc.1 (by omega) HS5.out.fo.2 ?_
          intro v2 w6 ho hg
          (try simp only [Act.put, List.setIfInBounds_toArray, List.set_cons_zero, List.set_cons_succ])
          have hb : Below w4.heap.size w5 w6 := (Below.refl _ _).grown hg HS5.out.fo.2 (fun k hk => (HS5.out.fo.1.lt k hk).1)
          have HR1 : Hid ((RdF w2.heap.size H1 bs) w6) := Lib.hid (rd_low HS5.out.f1 hb HL1.out)
          have HR2 : Hid ((RdF w3.heap.size H2 bs.dropLast) w6) := Lib.hid (rd_low HS5.out.f2 hb HL2.out)
          have HBL : Hid (Below w.heap.size w w6) := Lib.hid (HS5.out.below.trans (hb.mono HLB.out))
          obtain ⟨sz, cz, rfl, hcz, _, hsz, hzz, _⟩ := OwnB.form ho
          have HSZ := Lib.hid hsz
          have HZZ := Lib.hid hzz
          clear ho hg hb hsz hzz
          refine wpG_callT _ rfl (by rfl) 14 #[.slice sz (bs ++ [0#8]).length cz] (fun _ => by go_simp) (NewC (bs ++ [0#8]) w6) (new_c (new_any (bs ++ [0#8]) sz cz _ (by rw [HZL.out]; omega) HZZ.out hcz HSZ.out)) ?_
          rintro _ w7 ⟨H3, rfl, hr, hh, hb⟩
          (try simp only [Act.put, List.setIfInBounds_toArray, List.set_cons_zero, List.set_cons_succ])
          refine wpG_take _ (.pointer (some ⟨H1, 0, none⟩)) rfl (by rfl) (fun _ _ => by rfl) ?_
          (try simp only [Act.put, List.setIfInBounds_toArray, List.set_cons_zero, List.set_cons_succ])
          refine wpG_take _ (.pointer (some ⟨H2, 0, none⟩)) rfl (by rfl) (fun _ _ => by rfl) ?_
          (try simp only [Act.put, List.setIfInBounds_toArray, List.set_cons_zero, List.set_cons_succ])
          refine wpG_take _ (.pointer (some ⟨H3, 0, none⟩)) rfl (by rfl) (fun _ _ => by rfl) ?_
          (try simp only [Act.put, List.setIfInBounds_toArray, List.set_cons_zero, List.set_cons_succ])
          refine wpG_nil ?_
          have HM : Hid (Made bs w (.pointer (some ⟨H1, 0, none⟩)) (.pointer (some ⟨H2, 0, none⟩)) (.pointer (some ⟨H3, 0, none⟩)) w7) := Lib.hid ⟨_, H1, _, H2, _, H3, rfl, rfl, rfl, ⟨HO1.out, HH1.out, HO2.out, HH2.out, HR2.out.lt, hh⟩, ⟨HR1.out.below hb (Nat.le_refl _), HR2.out.below hb (Nat.le_refl _), hr, HBL.out.trans (hb.mono HBL.out.size)⟩⟩
          clear hr hh hb
          go_wp2_with fail
          go_meet
          exact HM.out
      case rest =>
        obtain ⟨wx, rfl⟩ : ∃ W : World, W = wc := ⟨_, rfl⟩
        obtain ⟨lo1, H1, lo2, H2, lo3, H3, rfl, rfl, rfl, hord, hr⟩ := hcut
        have HORD := Lib.hid hord
        have HR0 : Hid (R3 w lo1 H1 lo2 H2 lo3 H3 (allB (ps.drop 0), 0) (yst ps 0) (allB (ps.drop 0) ++ [0#8], 0) wx) := Lib.hid (by rw [yst_zero ps (by rw [HL.out]; exact h0), List.drop_zero, HBS.out]; exact hr)
        clear hord hr hge hge2 hle hcb
        go_wp2
        go_loopw [8] (fun i wr2 => ∃ j : Nat, j ≤ k ∧ i = .int .i64 j ∧ R3 w lo1 H1 lo2 H2 lo3 H3 (allB (ps.drop j), 0) (yst ps j) (allB (ps.drop j) ++ [0#8], 0) wr2) (fun i _ => k - (intOf i).toNat)
        case atStart => exact ⟨0, by omega, rfl, HR0.out⟩
        case round =>
          clear HR0
          obtain ⟨wr2, rfl⟩ : ∃ W : World, W = wr := ⟨_, rfl⟩
          obtain ⟨j, hj, rfl, hr2⟩ := hrel
          have HR2 := Lib.hid hr2
          by_cases hlt : j < k
          · obtain ⟨x, hx⟩ : ∃ x, ps.getD j (0, 0) = x := ⟨_, rfl⟩
            obtain ⟨q0, q1⟩ := HC.out j (by rw [HL.out]; exact hlt)
            obtain ⟨n, hn, hn64⟩ := HN.out j (by rw [HL.out]; exact hlt)
            rw [hx] at q0 q1 hn
            rw [hn] at q1
            have HX := Lib.hid hx
            have HNN := Lib.hid hn
            have HN64 := Lib.hid hn64
            have HQ := Lib.hid (And.intro q0 q1)
            have HDR : Hid (allB (ps.drop j) = pb x ++ allB (ps.drop (j + 1))) := Lib.hid (by rw [← hx]; exact allB_drop ps j (by rw [HL.out]; exact hlt))
            obtain ⟨d, hd⟩ : ∃ d, x.1.toNat % 3 = d := ⟨_, rfl⟩
            obtain ⟨m1, m2⟩ := mod3 x.1 d hd
            have hd3 : d = 0 ∨ d = 1 ∨ d = 2 := by omega
            have HD := Lib.hid hd
            clear hd hx hn hn64 q0 q1 hr2
            go_wp2
            obtain ⟨A, hA⟩ : ∃ A, wr2.heap.size = A := ⟨_, rfl⟩
            have HAB : Hid (H3 < A) := Lib.hid (by rw [← hA]; exact HR2.out.z.lt)
            have HAN : Hid (A ≠ H1 ∧ A ≠ H2 ∧ A ≠ H3) := Lib.hid (by obtain ⟨_, _, _, _, _, _⟩ := HORD.out; have := HAB.out; omega)
            have HI0 : Hid (Blk (wr2.alloc (.cells #[.pointer (some ⟨H1, 0, none⟩), .pointer (some ⟨H2, 0, none⟩), .pointer (some ⟨H3, 0, none⟩)] 34)) A [.pointer (some ⟨H1, 0, none⟩), .pointer (some ⟨H2, 0, none⟩), .pointer (some ⟨H3, 0, none⟩)] 34 ∧ R3 w lo1 H1 lo2 H2 lo3 H3 (allB (ps.drop j), 0) (yst ps j) (allB (ps.drop j) ++ [0#8], 0) (wr2.alloc (.cells #[.pointer (some ⟨H1, 0, none⟩), .pointer (some ⟨H2, 0, none⟩), .pointer (some ⟨H3, 0, none⟩)] 34))) :=
              Lib.hid ⟨Blk.new' _ _ _ _ _ hA.symm rfl, HR2.out.below ((Below.refl _ _).alloc (Nat.le_refl _) _)⟩
            rw [hA]
            clear hA
            go_loopw [10] (fun i wr3 => ∃ m : Nat, m ≤ 3 ∧ i = .int .i64 m ∧ Blk wr3 A [.pointer (some ⟨H1, 0, none⟩), .pointer (some ⟨H2, 0, none⟩), .pointer (some ⟨H3, 0, none⟩)] 34 ∧ R3 w lo1 H1 lo2 H2 lo3 H3 (upto 0 m (allB (ps.drop j), 0) (allB (ps.drop (j + 1)), 0)) (upto 1 m (yst ps j) (yst ps (j + 1))) (upto 2 m (allB (ps.drop j) ++ [0#8], 0) (allB (ps.drop (j + 1)) ++ [0#8], 0)) wr3) (fun i _ => 3 - (intOf i).toNat)
            case atStart => exact ⟨0, by omega, rfl, HI0.out⟩
            case round =>
              clear HI0
              obtain ⟨wr3, rfl⟩ : ∃ W : World, W = wr := ⟨_, rfl⟩
              obtain ⟨m, hm, rfl, ha, hrr⟩ := hrel
              have hm4 : m = 0 ∨ m = 1 ∨ m = 2 ∨ m = 3 := by omega
              have z0 := (hrr.b.cell (p := ⟨g, o + j * 2, none⟩) hg).trans HQ.out.1
              have z1 := (hrr.b.cell (p := ⟨g, o + j * 2 + 1, none⟩) hg).trans HQ.out.2
              have HA := Lib.hid ha
              have cA0 := ha.cell (j := 0) rfl
              have cA1 := ha.cell (j := 1) rfl
              have cA2 := ha.cell (j := 2) rfl
              clear hm ha
              rcases hm4 with rfl | rfl | rfl | rfl
              · have HRR : Hid (R3 w lo1 H1 lo2 H2 lo3 H3 (allB (ps.drop j), 0) (yst ps j) (allB (ps.drop j) ++ [0#8], 0) wr3) := Lib.hid hrr
                clear hrr cA1 cA2
                rcases hd3 with rfl | rfl | rfl
                · -- reader 1, width 2
                  have m1' : (N8 x.1).tmod 3 = 0 := m1
                  have m2' : N8 x.1 % 3 = 0 := m2
                  have hwid : wid x.1 = 2 := by unfold wid; rw [HD.out]; rfl
                  have hval : val (pb x) = n % 65536 := by rw [show x = (x.1, (n : Int)) from Prod.ext rfl HNN.out]; exact val_pb x.1 n 2 65536 hwid rfl
                  have HNX : Hid (nextRes (allB (ps.drop j)) 0 2 = ((pb x), (allB (ps.drop (j + 1)), 0))) := Lib.hid (by have h := next_part x (allB (ps.drop (j + 1))); rw [← HDR.out, hwid] at h; exact h)
                  have HVL : Hid ((val (pb x) : Int) = ((n % 65536 : Nat) : Int)) := Lib.hid (by rw [hval])
                  have r1 : (n : Int).tmod 65536 = ((n % 65536 : Nat) : Int) := by rw [Int.tmod_eq_emod_of_nonneg (by omega)]; omega
                  have r2 : (n : Int) % 65536 = ((n % 65536 : Nat) : Int) := by omega
                  have r3 := u64_in (n % 65536) (by omega)
                  generalize n % 65536 = qq at *
                  clear m1 m2 hwid hval
                  go_wp2_with fail
                  go_quiet (fail)
                  go_wp2_with fail
                  refine (rd16 H1 (l := (allB (ps.drop j))) (e := 0) (out := (pb x)) (q := (allB (ps.drop (j + 1)), 0)) (w := wr3.drewN nq) HRR.out.x HNX.out).mono ?_
                  rintro e4 w4 ⟨rfl, h4, b4⟩
                  rw [HVL.out]
                  have HA4 := Lib.hid (b4.blk (show Blk (wr3.drewN nq) A _ _ from HA.out) HAN.out.1)
                  have HR4 := Lib.hid (R3.goX HORD.out (HRR.out.drewN nq) (x' := (allB (ps.drop (j + 1)), 0)) h4 b4)
                  clear h4 b4
                  go_wp2_with fail
                  go_roundw
                  case rel => exact ⟨1, by omega, rfl, HA4.out, HR4.out⟩
                  case measure => simp [intOf]
                · -- reader 1, width 4
                  have m1' : (N8 x.1).tmod 3 = 1 := m1
                  have m2' : N8 x.1 % 3 = 1 := m2
                  have hwid : wid x.1 = 4 := by unfold wid; rw [HD.out]; rfl
                  have hval : val (pb x) = n % 4294967296 := by rw [show x = (x.1, (n : Int)) from Prod.ext rfl HNN.out]; exact val_pb x.1 n 4 4294967296 hwid rfl
                  have HNX : Hid (nextRes (allB (ps.drop j)) 0 4 = ((pb x), (allB (ps.drop (j + 1)), 0))) := Lib.hid (by have h := next_part x (allB (ps.drop (j + 1))); rw [← HDR.out, hwid] at h; exact h)
                  have HVL : Hid ((val (pb x) : Int) = ((n % 4294967296 : Nat) : Int)) := Lib.hid (by rw [hval])
                  have r1 : (n : Int).tmod 4294967296 = ((n % 4294967296 : Nat) : Int) := by rw [Int.tmod_eq_emod_of_nonneg (by omega)]; omega
                  have r2 : (n : Int) % 4294967296 = ((n % 4294967296 : Nat) : Int) := by omega
                  have r3 := u64_in (n % 4294967296) (by omega)
                  generalize n % 4294967296 = qq at *
                  clear m1 m2 hwid hval
                  go_wp2_with fail
                  go_quiet (fail)
                  go_wp2_with fail
                  refine (rd32 H1 (l := (allB (ps.drop j))) (e := 0) (out := (pb x)) (q := (allB (ps.drop (j + 1)), 0)) (w := wr3.drewN nq) HRR.out.x HNX.out).mono ?_
                  rintro e4 w4 ⟨rfl, h4, b4⟩
                  rw [HVL.out]
                  have HA4 := Lib.hid (b4.blk (show Blk (wr3.drewN nq) A _ _ from HA.out) HAN.out.1)
                  have HR4 := Lib.hid (R3.goX HORD.out (HRR.out.drewN nq) (x' := (allB (ps.drop (j + 1)), 0)) h4 b4)
                  clear h4 b4
                  go_wp2_with fail
                  go_roundw
                  case rel => exact ⟨1, by omega, rfl, HA4.out, HR4.out⟩
                  case measure => simp [intOf]
                · -- reader 1, width 8
                  have m1' : (N8 x.1).tmod 3 = 2 := m1
                  have m2' : N8 x.1 % 3 = 2 := m2
                  have hwid : wid x.1 = 8 := by unfold wid; rw [HD.out]; rfl
                  have hval : val (pb x) = n := by rw [show x = (x.1, (n : Int)) from Prod.ext rfl HNN.out, val_pb x.1 n 8 18446744073709551616 hwid rfl]; exact Nat.mod_eq_of_lt HN64.out
                  have HNX : Hid (nextRes (allB (ps.drop j)) 0 8 = ((pb x), (allB (ps.drop (j + 1)), 0))) := Lib.hid (by have h := next_part x (allB (ps.drop (j + 1))); rw [← HDR.out, hwid] at h; exact h)
                  have HVL : Hid ((val (pb x) : Int) = ((n : Nat) : Int)) := Lib.hid (by rw [hval])
                  clear m1 m2 hwid hval
                  go_wp2_with fail
                  go_quiet (fail)
                  go_wp2_with fail
                  refine (rd64 H1 (l := (allB (ps.drop j))) (e := 0) (out := (pb x)) (q := (allB (ps.drop (j + 1)), 0)) (w := wr3.drewN nq) HRR.out.x HNX.out).mono ?_
                  rintro e4 w4 ⟨rfl, h4, b4⟩
                  rw [HVL.out]
                  have HA4 := Lib.hid (b4.blk (show Blk (wr3.drewN nq) A _ _ from HA.out) HAN.out.1)
                  have HR4 := Lib.hid (R3.goX HORD.out (HRR.out.drewN nq) (x' := (allB (ps.drop (j + 1)), 0)) h4 b4)
                  clear h4 b4
                  go_wp2_with fail
                  go_roundw
                  case rel => exact ⟨1, by omega, rfl, HA4.out, HR4.out⟩
                  case measure => simp [intOf]
              · have HRR : Hid (R3 w lo1 H1 lo2 H2 lo3 H3 (allB (ps.drop (j + 1)), 0) (yst ps j) (allB (ps.drop j) ++ [0#8], 0) wr3) := Lib.hid hrr
                clear hrr cA0 cA2
                rcases hd3 with rfl | rfl | rfl
                · by_cases hlast : j + 1 = k
                  · -- reader 2, width 2, the last part
                    have m1' : (N8 x.1).tmod 3 = 0 := m1
                    have m2' : N8 x.1 % 3 = 0 := m2
                    have hwid : wid x.1 = 2 := by unfold wid; rw [HD.out]; rfl
                    have hval : val (pb x) = n % 65536 := by rw [show x = (x.1, (n : Int)) from Prod.ext rfl HNN.out]; exact val_pb x.1 n 2 65536 hwid rfl
                    have HNX : Hid (nextRes (yst ps j).1 (yst ps j).2 2 = (([] : List (BitVec 8)), (yst ps (j + 1)))) := Lib.hid (by have h := yst_last ps j (by rw [HL.out]; omega); rw [HX.out, hwid] at h; exact h)
                    have HVL : Hid ((val ([] : List (BitVec 8)) : Int) = 0) := Lib.hid rfl
                    have r1 : (n : Int).tmod 65536 = ((n % 65536 : Nat) : Int) := by rw [Int.tmod_eq_emod_of_nonneg (by omega)]; omega
                    have r2 : (n : Int) % 65536 = ((n % 65536 : Nat) : Int) := by omega
                    have r3 := u64_in (n % 65536) (by omega)
                    generalize n % 65536 = qq at *
                    have t1 : ((j : Int) == (k : Int) - 1) = true := by rw [beq_iff_eq]; omega
                    have t2 := IntWalk.i64_in ((k : Int) - 1) (by omega)
                    have t3 : (j : Int) = (k : Int) - 1 := by omega
                    have T3 := Lib.hid t3
                    clear t3
                    clear m1 m2 hwid hval
                    go_wp2_with fail
                    go_quiet (fail)
                    go_wp2_with fail
                    refine (rd16 H2 (l := (yst ps j).1) (e := (yst ps j).2) (out := ([] : List (BitVec 8))) (q := (yst ps (j + 1))) (w := wr3.drewN nq) HRR.out.y HNX.out).mono ?_
                    rintro e4 w4 ⟨rfl, h4, b4⟩
                    rw [HVL.out]
                    have HA4 := Lib.hid (b4.blk (show Blk (wr3.drewN nq) A _ _ from HA.out) HAN.out.2.1)
                    have HR4 := Lib.hid (R3.goY HORD.out (HRR.out.drewN nq) (y' := (yst ps (j + 1))) h4 b4)
                    clear h4 b4
                    go_wp2_with fail
                    go_roundw
                    case rel => exact ⟨2, by omega, rfl, HA4.out, HR4.out⟩
                    case measure => simp [intOf]
                  · -- reader 2, width 2
                    have m1' : (N8 x.1).tmod 3 = 0 := m1
                    have m2' : N8 x.1 % 3 = 0 := m2
                    have hwid : wid x.1 = 2 := by unfold wid; rw [HD.out]; rfl
                    have hval : val (pb x) = n % 65536 := by rw [show x = (x.1, (n : Int)) from Prod.ext rfl HNN.out]; exact val_pb x.1 n 2 65536 hwid rfl
                    have HNX : Hid (nextRes (yst ps j).1 (yst ps j).2 2 = ((pb x), (yst ps (j + 1)))) := Lib.hid (by have h := yst_next ps j (by rw [HL.out]; omega); rw [HX.out, hwid] at h; exact h)
                    have HVL : Hid ((val (pb x) : Int) = ((n % 65536 : Nat) : Int)) := Lib.hid (by rw [hval])
                    have r1 : (n : Int).tmod 65536 = ((n % 65536 : Nat) : Int) := by rw [Int.tmod_eq_emod_of_nonneg (by omega)]; omega
                    have r2 : (n : Int) % 65536 = ((n % 65536 : Nat) : Int) := by omega
                    have r3 := u64_in (n % 65536) (by omega)
                    generalize n % 65536 = qq at *
                    have t1 : ((j : Int) == (k : Int) - 1) = false := by rw [beq_eq_false_iff_ne]; omega
                    have t2 := IntWalk.i64_in ((k : Int) - 1) (by omega)
                    have t3 : ¬ (j : Int) = (k : Int) - 1 := by omega
                    clear m1 m2 hwid hval
                    go_wp2_with fail
                    go_quiet (fail)
                    go_wp2_with fail
                    refine (rd16 H2 (l := (yst ps j).1) (e := (yst ps j).2) (out := (pb x)) (q := (yst ps (j + 1))) (w := wr3.drewN nq) HRR.out.y HNX.out).mono ?_
                    rintro e4 w4 ⟨rfl, h4, b4⟩
                    rw [HVL.out]
                    have HA4 := Lib.hid (b4.blk (show Blk (wr3.drewN nq) A _ _ from HA.out) HAN.out.2.1)
                    have HR4 := Lib.hid (R3.goY HORD.out (HRR.out.drewN nq) (y' := (yst ps (j + 1))) h4 b4)
                    clear h4 b4
                    go_wp2_with fail
                    go_roundw
                    case rel => exact ⟨2, by omega, rfl, HA4.out, HR4.out⟩
                    case measure => simp [intOf]
                · by_cases hlast : j + 1 = k
                  · -- reader 2, width 4, the last part
                    have m1' : (N8 x.1).tmod 3 = 1 := m1
                    have m2' : N8 x.1 % 3 = 1 := m2
                    have hwid : wid x.1 = 4 := by unfold wid; rw [HD.out]; rfl
                    have hval : val (pb x) = n % 4294967296 := by rw [show x = (x.1, (n : Int)) from Prod.ext rfl HNN.out]; exact val_pb x.1 n 4 4294967296 hwid rfl
                    have HNX : Hid (nextRes (yst ps j).1 (yst ps j).2 4 = (([] : List (BitVec 8)), (yst ps (j + 1)))) := Lib.hid (by have h := yst_last ps j (by rw [HL.out]; omega); rw [HX.out, hwid] at h; exact h)
                    have HVL : Hid ((val ([] : List (BitVec 8)) : Int) = 0) := Lib.hid rfl
                    have r1 : (n : Int).tmod 4294967296 = ((n % 4294967296 : Nat) : Int) := by rw [Int.tmod_eq_emod_of_nonneg (by omega)]; omega
                    have r2 : (n : Int) % 4294967296 = ((n % 4294967296 : Nat) : Int) := by omega
                    have r3 := u64_in (n % 4294967296) (by omega)
                    generalize n % 4294967296 = qq at *
                    have t1 : ((j : Int) == (k : Int) - 1) = true := by rw [beq_iff_eq]; omega
                    have t2 := IntWalk.i64_in ((k : Int) - 1) (by omega)
                    have t3 : (j : Int) = (k : Int) - 1 := by omega
                    have T3 := Lib.hid t3
                    clear t3
                    clear m1 m2 hwid hval
                    go_wp2_with fail
                    go_quiet (fail)
                    go_wp2_with fail
                    refine (rd32 H2 (l := (yst ps j).1) (e := (yst ps j).2) (out := ([] : List (BitVec 8))) (q := (yst ps (j + 1))) (w := wr3.drewN nq) HRR.out.y HNX.out).mono ?_
                    rintro e4 w4 ⟨rfl, h4, b4⟩
                    rw [HVL.out]
                    have HA4 := Lib.hid (b4.blk (show Blk (wr3.drewN nq) A _ _ from HA.out) HAN.out.2.1)
                    have HR4 := Lib.hid (R3.goY HORD.out (HRR.out.drewN nq) (y' := (yst ps (j + 1))) h4 b4)
                    clear h4 b4
                    go_wp2_with fail
                    go_roundw
                    case rel => exact ⟨2, by omega, rfl, HA4.out, HR4.out⟩
                    case measure => simp [intOf]
                  · -- reader 2, width 4
                    have m1' : (N8 x.1).tmod 3 = 1 := m1
                    have m2' : N8 x.1 % 3 = 1 := m2
                    have hwid : wid x.1 = 4 := by unfold wid; rw [HD.out]; rfl
                    have hval : val (pb x) = n % 4294967296 := by rw [show x = (x.1, (n : Int)) from Prod.ext rfl HNN.out]; exact val_pb x.1 n 4 4294967296 hwid rfl
                    have HNX : Hid (nextRes (yst ps j).1 (yst ps j).2 4 = ((pb x), (yst ps (j + 1)))) := Lib.hid (by have h := yst_next ps j (by rw [HL.out]; omega); rw [HX.out, hwid] at h; exact h)
                    have HVL : Hid ((val (pb x) : Int) = ((n % 4294967296 : Nat) : Int)) := Lib.hid (by rw [hval])
                    have r1 : (n : Int).tmod 4294967296 = ((n % 4294967296 : Nat) : Int) := by rw [Int.tmod_eq_emod_of_nonneg (by omega)]; omega
                    have r2 : (n : Int) % 4294967296 = ((n % 4294967296 : Nat) : Int) := by omega
                    have r3 := u64_in (n % 4294967296) (by omega)
                    generalize n % 4294967296 = qq at *
                    have t1 : ((j : Int) == (k : Int) - 1) = false := by rw [beq_eq_false_iff_ne]; omega
                    have t2 := IntWalk.i64_in ((k : Int) - 1) (by omega)
                    have t3 : ¬ (j : Int) = (k : Int) - 1 := by omega
                    clear m1 m2 hwid hval
                    go_wp2_with fail
                    go_quiet (fail)
                    go_wp2_with fail
                    refine (rd32 H2 (l := (yst ps j).1) (e := (yst ps j).2) (out := (pb x)) (q := (yst ps (j + 1))) (w := wr3.drewN nq) HRR.out.y HNX.out).mono ?_
                    rintro e4 w4 ⟨rfl, h4, b4⟩
                    rw [HVL.out]
                    have HA4 := Lib.hid (b4.blk (show Blk (wr3.drewN nq) A _ _ from HA.out) HAN.out.2.1)
                    have HR4 := Lib.hid (R3.goY HORD.out (HRR.out.drewN nq) (y' := (yst ps (j + 1))) h4 b4)
                    clear h4 b4
                    go_wp2_with fail
                    go_roundw
                    case rel => exact ⟨2, by omega, rfl, HA4.out, HR4.out⟩
                    case measure => simp [intOf]
                · by_cases hlast : j + 1 = k
                  · -- reader 2, width 8, the last part
                    have m1' : (N8 x.1).tmod 3 = 2 := m1
                    have m2' : N8 x.1 % 3 = 2 := m2
                    have hwid : wid x.1 = 8 := by unfold wid; rw [HD.out]; rfl
                    have hval : val (pb x) = n := by rw [show x = (x.1, (n : Int)) from Prod.ext rfl HNN.out, val_pb x.1 n 8 18446744073709551616 hwid rfl]; exact Nat.mod_eq_of_lt HN64.out
                    have HNX : Hid (nextRes (yst ps j).1 (yst ps j).2 8 = (([] : List (BitVec 8)), (yst ps (j + 1)))) := Lib.hid (by have h := yst_last ps j (by rw [HL.out]; omega); rw [HX.out, hwid] at h; exact h)
                    have HVL : Hid ((val ([] : List (BitVec 8)) : Int) = 0) := Lib.hid rfl
                    have t1 : ((j : Int) == (k : Int) - 1) = true := by rw [beq_iff_eq]; omega
                    have t2 := IntWalk.i64_in ((k : Int) - 1) (by omega)
                    have t3 : (j : Int) = (k : Int) - 1 := by omega
                    have T3 := Lib.hid t3
                    clear t3
                    clear m1 m2 hwid hval
                    go_wp2_with fail
                    go_quiet (fail)
                    go_wp2_with fail
                    refine (rd64 H2 (l := (yst ps j).1) (e := (yst ps j).2) (out := ([] : List (BitVec 8))) (q := (yst ps (j + 1))) (w := wr3.drewN nq) HRR.out.y HNX.out).mono ?_
                    rintro e4 w4 ⟨rfl, h4, b4⟩
                    rw [HVL.out]
                    have HA4 := Lib.hid (b4.blk (show Blk (wr3.drewN nq) A _ _ from HA.out) HAN.out.2.1)
                    have HR4 := Lib.hid (R3.goY HORD.out (HRR.out.drewN nq) (y' := (yst ps (j + 1))) h4 b4)
                    clear h4 b4
                    go_wp2_with fail
                    go_roundw
                    case rel => exact ⟨2, by omega, rfl, HA4.out, HR4.out⟩
                    case measure => simp [intOf]
                  · -- reader 2, width 8
                    have m1' : (N8 x.1).tmod 3 = 2 := m1
                    have m2' : N8 x.1 % 3 = 2 := m2
                    have hwid : wid x.1 = 8 := by unfold wid; rw [HD.out]; rfl
                    have hval : val (pb x) = n := by rw [show x = (x.1, (n : Int)) from Prod.ext rfl HNN.out, val_pb x.1 n 8 18446744073709551616 hwid rfl]; exact Nat.mod_eq_of_lt HN64.out
                    have HNX : Hid (nextRes (yst ps j).1 (yst ps j).2 8 = ((pb x), (yst ps (j + 1)))) := Lib.hid (by have h := yst_next ps j (by rw [HL.out]; omega); rw [HX.out, hwid] at h; exact h)
                    have HVL : Hid ((val (pb x) : Int) = ((n : Nat) : Int)) := Lib.hid (by rw [hval])
                    have t1 : ((j : Int) == (k : Int) - 1) = false := by rw [beq_eq_false_iff_ne]; omega
                    have t2 := IntWalk.i64_in ((k : Int) - 1) (by omega)
                    have t3 : ¬ (j : Int) = (k : Int) - 1 := by omega
                    clear m1 m2 hwid hval
                    go_wp2_with fail
                    go_quiet (fail)
                    go_wp2_with fail
                    refine (rd64 H2 (l := (yst ps j).1) (e := (yst ps j).2) (out := (pb x)) (q := (yst ps (j + 1))) (w := wr3.drewN nq) HRR.out.y HNX.out).mono ?_
                    rintro e4 w4 ⟨rfl, h4, b4⟩
                    rw [HVL.out]
                    have HA4 := Lib.hid (b4.blk (show Blk (wr3.drewN nq) A _ _ from HA.out) HAN.out.2.1)
                    have HR4 := Lib.hid (R3.goY HORD.out (HRR.out.drewN nq) (y' := (yst ps (j + 1))) h4 b4)
                    clear h4 b4
                    go_wp2_with fail
                    go_roundw
                    case rel => exact ⟨2, by omega, rfl, HA4.out, HR4.out⟩
                    case measure => simp [intOf]
              · have HRR : Hid (R3 w lo1 H1 lo2 H2 lo3 H3 (allB (ps.drop (j + 1)), 0) (yst ps (j + 1)) (allB (ps.drop j) ++ [0#8], 0) wr3) := Lib.hid hrr
                clear hrr cA0 cA1
                rcases hd3 with rfl | rfl | rfl
                · -- reader 3, width 2
                  have m1' : (N8 x.1).tmod 3 = 0 := m1
                  have m2' : N8 x.1 % 3 = 0 := m2
                  have hwid : wid x.1 = 2 := by unfold wid; rw [HD.out]; rfl
                  have hval : val (pb x) = n % 65536 := by rw [show x = (x.1, (n : Int)) from Prod.ext rfl HNN.out]; exact val_pb x.1 n 2 65536 hwid rfl
                  have HNX : Hid (nextRes (allB (ps.drop j) ++ [0#8]) 0 2 = ((pb x), (allB (ps.drop (j + 1)) ++ [0#8], 0))) := Lib.hid (by have h := next_part x (allB (ps.drop (j + 1)) ++ [0#8]); rw [← List.append_assoc, ← HDR.out, hwid] at h; exact h)
                  have HVL : Hid ((val (pb x) : Int) = ((n % 65536 : Nat) : Int)) := Lib.hid (by rw [hval])
                  have r1 : (n : Int).tmod 65536 = ((n % 65536 : Nat) : Int) := by rw [Int.tmod_eq_emod_of_nonneg (by omega)]; omega
                  have r2 : (n : Int) % 65536 = ((n % 65536 : Nat) : Int) := by omega
                  have r3 := u64_in (n % 65536) (by omega)
                  generalize n % 65536 = qq at *
                  clear m1 m2 hwid hval
                  go_wp2_with fail
                  go_quiet (fail)
                  go_wp2_with fail
                  refine (rd16 H3 (l := (allB (ps.drop j) ++ [0#8])) (e := 0) (out := (pb x)) (q := (allB (ps.drop (j + 1)) ++ [0#8], 0)) (w := wr3.drewN nq) HRR.out.z HNX.out).mono ?_
                  rintro e4 w4 ⟨rfl, h4, b4⟩
                  rw [HVL.out]
                  have HA4 := Lib.hid (b4.blk (show Blk (wr3.drewN nq) A _ _ from HA.out) HAN.out.2.2)
                  have HR4 := Lib.hid (R3.goZ HORD.out (HRR.out.drewN nq) (z' := (allB (ps.drop (j + 1)) ++ [0#8], 0)) h4 b4)
                  clear h4 b4
                  go_wp2_with fail
                  go_roundw
                  case rel => exact ⟨3, by omega, rfl, HA4.out, HR4.out⟩
                  case measure => simp [intOf]
                · -- reader 3, width 4
                  have m1' : (N8 x.1).tmod 3 = 1 := m1
                  have m2' : N8 x.1 % 3 = 1 := m2
                  have hwid : wid x.1 = 4 := by unfold wid; rw [HD.out]; rfl
                  have hval : val (pb x) = n % 4294967296 := by rw [show x = (x.1, (n : Int)) from Prod.ext rfl HNN.out]; exact val_pb x.1 n 4 4294967296 hwid rfl
                  have HNX : Hid (nextRes (allB (ps.drop j) ++ [0#8]) 0 4 = ((pb x), (allB (ps.drop (j + 1)) ++ [0#8], 0))) := Lib.hid (by have h := next_part x (allB (ps.drop (j + 1)) ++ [0#8]); rw [← List.append_assoc, ← HDR.out, hwid] at h; exact h)
                  have HVL : Hid ((val (pb x) : Int) = ((n % 4294967296 : Nat) : Int)) := Lib.hid (by rw [hval])
                  have r1 : (n : Int).tmod 4294967296 = ((n % 4294967296 : Nat) : Int) := by rw [Int.tmod_eq_emod_of_nonneg (by omega)]; omega
                  have r2 : (n : Int) % 4294967296 = ((n % 4294967296 : Nat) : Int) := by omega
                  have r3 := u64_in (n % 4294967296) (by omega)
                  generalize n % 4294967296 = qq at *
                  clear m1 m2 hwid hval
                  go_wp2_with fail
                  go_quiet (fail)
                  go_wp2_with fail
                  refine (rd32 H3 (l := (allB (ps.drop j) ++ [0#8])) (e := 0) (out := (pb x)) (q := (allB (ps.drop (j + 1)) ++ [0#8], 0)) (w := wr3.drewN nq) HRR.out.z HNX.out).mono ?_
                  rintro e4 w4 ⟨rfl, h4, b4⟩
                  rw [HVL.out]
                  have HA4 := Lib.hid (b4.blk (show Blk (wr3.drewN nq) A _ _ from HA.out) HAN.out.2.2)
                  have HR4 := Lib.hid (R3.goZ HORD.out (HRR.out.drewN nq) (z' := (allB (ps.drop (j + 1)) ++ [0#8], 0)) h4 b4)
                  clear h4 b4
                  go_wp2_with fail
                  go_roundw
                  case rel => exact ⟨3, by omega, rfl, HA4.out, HR4.out⟩
                  case measure => simp [intOf]
                · -- reader 3, width 8
                  have m1' : (N8 x.1).tmod 3 = 2 := m1
                  have m2' : N8 x.1 % 3 = 2 := m2
                  have hwid : wid x.1 = 8 := by unfold wid; rw [HD.out]; rfl
                  have hval : val (pb x) = n := by rw [show x = (x.1, (n : Int)) from Prod.ext rfl HNN.out, val_pb x.1 n 8 18446744073709551616 hwid rfl]; exact Nat.mod_eq_of_lt HN64.out
                  have HNX : Hid (nextRes (allB (ps.drop j) ++ [0#8]) 0 8 = ((pb x), (allB (ps.drop (j + 1)) ++ [0#8], 0))) := Lib.hid (by have h := next_part x (allB (ps.drop (j + 1)) ++ [0#8]); rw [← List.append_assoc, ← HDR.out, hwid] at h; exact h)
                  have HVL : Hid ((val (pb x) : Int) = ((n : Nat) : Int)) := Lib.hid (by rw [hval])
                  clear m1 m2 hwid hval
                  go_wp2_with fail
                  go_quiet (fail)
                  go_wp2_with fail
                  refine (rd64 H3 (l := (allB (ps.drop j) ++ [0#8])) (e := 0) (out := (pb x)) (q := (allB (ps.drop (j + 1)) ++ [0#8], 0)) (w := wr3.drewN nq) HRR.out.z HNX.out).mono ?_
                  rintro e4 w4 ⟨rfl, h4, b4⟩
                  rw [HVL.out]
                  have HA4 := Lib.hid (b4.blk (show Blk (wr3.drewN nq) A _ _ from HA.out) HAN.out.2.2)
                  have HR4 := Lib.hid (R3.goZ HORD.out (HRR.out.drewN nq) (z' := (allB (ps.drop (j + 1)) ++ [0#8], 0)) h4 b4)
                  clear h4 b4
                  go_wp2_with fail
                  go_roundw
                  case rel => exact ⟨3, by omega, rfl, HA4.out, HR4.out⟩
                  case measure => simp [intOf]
              · have HRR : Hid (R3 w lo1 H1 lo2 H2 lo3 H3 (allB (ps.drop (j + 1)), 0) (yst ps (j + 1)) (allB (ps.drop (j + 1)) ++ [0#8], 0) wr3) := Lib.hid hrr
                clear hrr cA0 cA1 cA2 z0 z1 m1 m2
                go_wp2
                go_roundw
                case rel => exact ⟨j + 1, by omega, by go_num, HRR.out⟩
                case measure => simp [intOf]; omega
          · obtain rfl : j = k := by omega
            have HF : Hid (R3 w lo1 H1 lo2 H2 lo3 H3 ([], 0) (yst ps j) ([0#8], 0) wr2) := Lib.hid (by have h := HR2.out; rw [← HL.out, allB_nil] at h; rw [← HL.out]; exact h)
            have HY : Hid ((((yst ps j).2 : Nat) : Int) = 4) := Lib.hid (by rw [← HL.out, yst_end]; rfl)
            have HE0 : Hid (((endOf [] 0 : Nat) : Int) = 0) := Lib.hid rfl
            have HE5 : Hid (((endOf [0#8] 0 : Nat) : Int) = 5) := Lib.hid rfl
            have HL1 : Hid (((leftOf [0#8] 0 : Nat) : Int) = 1) := Lib.hid rfl
            clear hr2 hlt hj HR2
            go_wp2_with fail
            refine (end_any H1 [] 0 _ HF.out.x).mono ?_
            rintro e4 w4 ⟨rfl, h4, b4⟩
            rw [HE0.out]
            have HF4 := Lib.hid (R3.goX HORD.out HF.out (x' := ([], endOf [] 0)) h4 b4)
            clear h4 b4
            go_wp2_with fail
            refine (err_any H2 (yst ps j).1 (yst ps j).2 _ HF4.out.y).mono ?_
            rintro e5 w5 ⟨rfl, rfl⟩
            rw [HY.out]
            go_wp2_with fail
            refine (err_any H3 [0#8] 0 _ HF4.out.z).mono ?_
            rintro e6 w6 ⟨rfl, rfl⟩
            go_wp2_with fail
            refine (left_any H3 [0#8] 0 _ HF4.out.z).mono ?_
            rintro e7 w7 ⟨rfl, rfl⟩
            rw [HL1.out]
            go_wp2_with fail
            refine (end_any H3 [0#8] 0 _ HF4.out.z).mono ?_
            rintro e8 w8 ⟨rfl, h8, b8⟩
            rw [HE5.out]
            have HF8 := Lib.hid (R3.goZ HORD.out HF4.out (z' := ([0#8], endOf [0#8] 0)) h8 b8)
            clear h8 b8
            go_wp2_with fail
            refine (wakes_any _).mono ?_
            rintro e9 w9 ⟨rfl, b9⟩
            have HB9 := Lib.hid (HF8.out.b.trans (b9.mono HF8.out.b.size))
            clear b9
            go_wp2
            go_ret
            exact ⟨rfl, HB9.out⟩

set_option maxRecDepth 100000 in
theorem wireBack_walk (ps : List (BitVec 8 × Int)) (sp : Option Addr) (cap : Nat) (w : World) (hP : PairsAt .u64 w sp ps) (hN : ∀ x ∈ ps, (Lit.int .u64 x.2).wf = true) :
    Calls Try.prog 6 #[.slice sp ps.length cap] w fun e w' => e = .returned (.bool true) ∧ Below w.heap.size w w' := by
  by_cases h : 0 < ps.length ∧ ps.length ≤ 100
  · refine wireBack_body ps sp cap w h.1 h.2 hP fun i hi => ?_
    rw [getD_int ps i hi]
    have hb := bounds_u64 (hN _ (List.getElem_mem hi))
    obtain ⟨n, hn⟩ := Int.eq_ofNat_of_zero_le hb.1
    exact ⟨n, hn, by omega⟩
  · obtain ⟨L, hL⟩ : ∃ L, ps.length = L := ⟨_, rfl⟩
    rw [hL] at h ⊢
    clear hL hP hN
    by_cases h1 : (100 : Int) < (L : Int)
    · have h2 : ((L : Int) == 0) = false := by rw [beq_eq_false_iff_ne]; omega
      have h3 : ¬ (L : Int) = 0 := by omega
      clear h
      go_enter Try.func6, Try.ntmps6
      go_wp2_with (go_at_call 7; refine (wakes_any _).mono ?_; rintro x w2 ⟨rfl, hb2⟩; have HB2 := Lib.hid hb2; clear hb2)
      go_ret
      exact ⟨rfl, HB2.out⟩
    · obtain rfl : L = 0 := by omega
      clear h h1
      go_enter Try.func6, Try.ntmps6
      go_wp2_with (go_at_call 7; refine (wakes_any _).mono ?_; rintro x w2 ⟨rfl, hb2⟩; have HB2 := Lib.hid hb2; clear hb2)
      go_ret
      exact ⟨rfl, HB2.out⟩
end Go.Proofs.Ytfamohnbaelccaa
