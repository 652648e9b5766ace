/- A state's numbers as bytes. -/
import Derived.Test.YtlibdcgpjglcpaaDoorHTake
namespace Go.Proofs.YtlibdcgpjglcpaaDoor
open Go.RowKit

def Z8 : Value := .int .u8 0
def lo8 (x : BitVec 32) : BitVec 8 := BitVec.ofNat 8 x.toNat
theorem lo8_eq (x : BitVec 32) : IntKind.u8.wrap (N32 x) = N8 (lo8 x) := by
  unfold N32 N8 lo8
  rw [IntKind.wrap_u8', BitVec.toNat_ofNat]
  simp
def wb (x : BitVec 32) (i : Nat) : BitVec 8 := lo8 (x >>> (24 - 8 * i))
def wbs (x : BitVec 32) (k : Nat) : List (BitVec 8) := (List.range k).map (wb x)
theorem wbs_length (x : BitVec 32) (k : Nat) : (wbs x k).length = k := by simp [wbs]
theorem wbs_succ (x : BitVec 32) (k : Nat) : wbs x (k + 1) = wbs x k ++ [wb x k] := by simp [wbs, List.range_succ]
def outBytes (l : List (BitVec 32)) : List (BitVec 8) := l.flatMap (wbs · 4)

def RelP (dn : List (BitVec 8)) (n m : Nat) (B d t : Nat) (w wr : World) : Prop :=
  Blk wr d (dn.map V8 ++ List.replicate m Z8) 25 ∧ Blk wr t [.int .i64 (n : Int)] 3 ∧ Below B w wr
theorem relP_step {dn : List (BitVec 8)} {n m m' : Nat} {B d t : Nat} {w wr : World} (h : RelP dn n m B d t w wr) (hd : B ≤ d) (hne : d ≠ t) (hm : m = m' + 1) (x : BitVec 8) {k : Nat} (hk : k = dn.length) :
    RelP (dn ++ [x]) n m' B d t w (wr.setCell ⟨d, k, none⟩ (V8 x)).drew := by
  obtain ⟨h1, h2, h4⟩ := h
  refine ⟨?_, (h2.other (fun e => hne e.symm) _).drew, (h4.setCell hd _).drew⟩
  have := (h1.set k (V8 x)).drew
  rw [set_next' (dn.map V8) m m' Z8 (V8 x) k (by simpa using hk) hm] at this
  simpa using this

set_option maxRecDepth 100000 in
set_option maxHeartbeats 1000000 in
theorem put_any (x : BitVec 32) (dn : List (BitVec 8)) (n m B d t : Nat) (w0 w : World) (hn : dn.length = n) (hm : n + 4 + m = 32) (hd : B ≤ d) (ht : B ≤ t) (hne : d ≠ t) (h : RelP dn n (m + 4) B d t w0 w) :
    Calls Tryd.prog 71 #[V32 x, .pointer (some ⟨d, 0, none⟩), .pointer (some ⟨t, 0, none⟩)] w fun e w' => e = .returned (.tuple #[]) ∧ RelP (dn ++ wbs x 4) (n + 4) m B d t w0 w' := by
  have H := Lib.hid h
  have HN := Lib.hid hn
  clear h hn
  go_enter Tryd.func71, Tryd.ntmps71
  go_wp2
  go_loopw [5] (fun i wr => ∃ j : Nat, j ≤ 4 ∧ i = .int .i64 j ∧ RelP (dn ++ wbs x j) n (m + 4 - j) B d t w0 wr) (fun i _ => 4 - (intOf i).toNat)
  case atStart =>
    refine ⟨0, by omega, rfl, ?_⟩
    have e : dn ++ wbs x 0 = dn := by simp [wbs]
    rw [e]; exact H.out
  case round =>
    clear H
    obtain ⟨j, hj, rfl, hR⟩ := hrel
    have HR := Lib.hid hR
    obtain ⟨h1, h2, h3⟩ := hR
    have ct : wr.cell? ⟨t, 0, none⟩ = some (.int .i64 (n : Int)) := h2.cell rfl
    have ft := h2.free 0
    have hdl : d < wr.heap.size := h1.lt
    have htl : t < wr.heap.size := h2.lt
    by_cases hlt : j < 4
    · obtain ⟨v, cw⟩ := h1.has (n + j) (by simp [wbs_length, HN.out]; omega)
      have fw := h1.free (n + j)
      clear h1 h2 h3
      have e1 := IntWalk.i64_in ((n : Int) + (j : Int)) (by omega)
      have e2 := IntWalk.i64_in (8 * (j : Int)) (by omega)
      have e3 := IntWalk.i64_in (24 - 8 * (j : Int)) (by omega)
      have p1 : 0 ≤ (n : Int) + (j : Int) := by omega
      have p3 : 0 ≤ 24 - 8 * (j : Int) := by omega
      have p3' : 8 * (j : Int) ≤ 24 := by omega
      have q1 : (n : Int) + (j : Int) < 32 := by omega
      have r1 : ((n : Int) + (j : Int)).toNat = n + j := by omega
      have r3 : (24 - 8 * (j : Int)).toNat = 24 - 8 * j := by omega
      have m3 : min (24 - 8 * j) 32 = 24 - 8 * j := by omega
      have s3 := shr32 x (24 - 8 * j)
      have l3 := lo8_eq (x >>> (24 - 8 * j))
      go_wp2
      go_still_tail 10, (by kernel_rfl)
      clear e1 e2 e3 p1 p3 p3' q1 r1 r3 m3 s3 l3
      go_wp2
      go_roundw
      case rel =>
        refine ⟨j + 1, by omega, by go_num, ?_⟩
        rw [wbs_succ, ← List.append_assoc]
        exact relP_step HR.out hd hne (by omega) _ (by simp [wbs_length, HN.out])
      case measure => simp [intOf]; omega
    · obtain rfl : j = 4 := by omega
      clear h1 h2 h3 hlt hj
      have e1 := IntWalk.i64_in ((n : Int) + 4) (by omega)
      go_wp2
      go_end0
      refine ⟨rfl, ?_⟩
      obtain ⟨h1, h2, h3⟩ := HR.out
      refine ⟨?_, ?_, h3.setCell ht _⟩
      · have := h1.other (a := ⟨t, 0, none⟩) (by simpa using hne) (.int .i64 ((n : Int) + 4))
        rw [show m + 4 - 4 = m by omega] at this
        exact this
      · have := h2.set 0 (.int .i64 ((n : Int) + 4))
        simpa using this

theorem info24 : (Tryd.prog.info? 25).map (·.size) = some 32 := by kernel_rfl
theorem outBytes_length (l : List (BitVec 32)) : (outBytes l).length = 4 * l.length := by
  induction l with
  | nil => rfl
  | cons x l ih => simp only [outBytes, List.flatMap_cons, List.length_append, wbs_length, List.length_cons] at ih ⊢; omega
theorem outBytes_snoc (l : List (BitVec 32)) (j : Nat) (hj : j < l.length) : outBytes (l.take (j + 1)) = outBytes (l.take j) ++ wbs (l.getD j 0) 4 := by
  have e : l.getD j 0 = l[j] := by simp [List.getD_eq_getElem?_getD, hj]
  rw [List.take_succ_eq_append_getElem hj, e]
  unfold outBytes
  rw [List.flatMap_append]
  simp
theorem size24 (l : List (BitVec 32)) (h : l.length = 8) : (Tryd.prog.info? 25).map (·.size) = some ((outBytes l).map V8).toArray.size := by
  rw [info24]; simp [outBytes_length, h]

def FactsB (w W1 : World) : Prop :=
  Below w.heap.size w W1 ∧ Blk W1 (w.heap.size + 1) (List.replicate 32 Z8) 25 ∧ RelP [] 0 32 (w.heap.size + 1 + 1) (w.heap.size + 1 + 1) (w.heap.size + 1 + 1 + 1) W1 W1
theorem factsB_start (w : World) (s z1 z2 z3 : Array Value) (h1 : z1 = (List.replicate 32 Z8).toArray) (h2 : z2 = z1) (h3 : z3 = #[.int .i64 0] := by rfl) :
    FactsB w ((((w.alloc (.cells s 97)).alloc (.cells z1 25)).alloc (.cells z2 25)).alloc (.cells z3 3)) := by
  subst h2 h1 h3
  refine ⟨((((Below.refl _ _).alloc (Nat.le_refl _) _).alloc (by simp) _).alloc (by simp; omega) _).alloc (by simp; omega) _, ?_, ?_, ?_, Below.refl _ _⟩
  · exact ((Blk.new' _ _ _ _ _ (by simp) rfl).alloc _).alloc _
  · exact (Blk.new' _ _ _ _ _ (by simp) rfl).alloc _
  · exact Blk.new' _ _ _ _ _ (by simp) rfl

set_option maxRecDepth 100000 in
set_option maxHeartbeats 1000000 in
theorem bytesOf_any (l : List (BitVec 32)) (hl : l.length = 8) (w : World) :
    Calls Tryd.prog 60 #[.agg (l.map V32).toArray] w fun e w' => e = .returned (.agg ((outBytes l).map V8).toArray) ∧ Below w.heap.size w w' := by
  have hmf : ∀ (fn : Fn) (first cap : Array Value) (w : World), (Instr.makeFunc fn first cap).run Tryd.prog w = .ok (.func fn first cap) w := fun _ _ _ _ => rfl
  go_enter Tryd.func60, Tryd.ntmps60
  go_wp2_with (first
    | (refine wpList_load_row rfl 97 (.tmp 1) rfl w.heap.size rfl 97 _ _ _ ((((Blk.new _ (l.map V32) 97).alloc _).alloc _).alloc _) Tryd.underlying97 rfl (by rw [info42]; simp [hl]) ?_)
    | fail)
  refine (fun (k : ∀ W1, FactsB w W1 → Code.wp _ _ _ _ W1) => k _ (factsB_start w _ _ _ _ rfl rfl)) ?_
  intro W1 hF
  have HF := Lib.hid hF
  clear hF
  go_loopw [10] (fun i wr => ∃ j : Nat, j ≤ 8 ∧ i = .int .i64 j ∧ RelP (outBytes (l.take j)) (4 * j) (32 - 4 * j) (w.heap.size + 1 + 1) (w.heap.size + 1 + 1) (w.heap.size + 1 + 1 + 1) W1 wr) (fun i _ => 8 - (intOf i).toNat)
  case atStart => exact ⟨0, by omega, rfl, HF.out.2.2⟩
  case round =>
    obtain ⟨j, hj, rfl, hR⟩ := hrel
    have HR := Lib.hid hR
    clear hR
    by_cases hlt : j < 8
    · have hx : ∀ W : World, (Instr.index 97 (.agg (l.map V32).toArray) (.int .i64 (j : Int))).run Tryd.prog W = .ok (V32 (l.getD j 0)) W := fun W => index42 l hl j hlt W
      obtain ⟨y, hy⟩ : ∃ y, l.getD j 0 = y := ⟨_, rfl⟩
      simp only [hy] at hx
      have HY := Lib.hid hy
      clear hy
      go_wp2_with (go_at_call 71; refine (put_any y (outBytes (l.take j)) (4 * j) (28 - 4 * j) (w.heap.size + 1 + 1) (w.heap.size + 1 + 1) (w.heap.size + 1 + 1 + 1) W1 _ (by rw [outBytes_length]; simp [hl]; omega) (by omega) (Nat.le_refl _) (by omega) (by omega) (by have := HR.out; rw [show 32 - 4 * j = 28 - 4 * j + 4 by omega] at this; exact this)).mono ?_; rintro e w2 ⟨rfl, hR2⟩; have HR2 := Lib.hid hR2; clear hR2)
      go_roundw
      case rel =>
        refine ⟨j + 1, by omega, by go_num, ?_⟩
        rw [outBytes_snoc l j (by omega), HY.out, show 32 - 4 * (j + 1) = 28 - 4 * j by omega, show 4 * (j + 1) = 4 * j + 4 by omega]
        exact HR2.out
      case measure => simp [intOf]; omega
    · obtain rfl : j = 8 := by omega
      obtain ⟨hB, hz, _⟩ := HF.out
      obtain ⟨h1, _, h3⟩ := HR.out
      have e8 : l.take 8 = l := List.take_of_length_le (by omega)
      rw [e8] at h1
      have h1' : Blk wr (w.heap.size + 1 + 1) ((outBytes l).map V8) 25 := by simpa using h1
      have H1 := Lib.hid h1'
      have HZ := Lib.hid (hz.below h3 (by omega))
      have HB := Lib.hid (hB.trans (h3.mono (by omega)))
      clear hB hz h1 h3 h1' HR HF e8 hlt hj
      go_wp2_with (first
        | (refine wpList_load_row rfl 25 (.tmp 3) rfl (w.heap.size + 1 + 1) rfl 25 _ _ _ H1.out Tryd.underlying25 rfl (size24 l hl) ?_)
        | (refine wpList_store_row rfl 25 (.tmp 2) (.tmp 17) rfl (w.heap.size + 1) _ rfl rfl 25 _ HZ.out (size24 l hl) (by simp [outBytes_length, hl]) (one_ints V8 (fun _ => rfl) _) ?_)
        | fail)
      exact bodyPost_ret (results_cell_row Tryd.results60 _ _ (w.heap.size + 1) 25 _ _ _ rfl (HZ.out.row _) Tryd.underlying25 rfl (size24 l hl)) rfl ⟨rfl, below_row HB.out (by omega) _⟩

end Go.Proofs.YtlibdcgpjglcpaaDoor
