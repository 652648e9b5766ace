/- Whether a pointer may be, as the document says it. -/
import Derived.Test.YtkbkmfmekjpleaaDoorM07
import Derived.Deep.DeepCutAuto
import Derived.Test.YtkbkmfmekjpleaaDoorM36
import Derived.Test.YtkbkmfmekjpleaaDoorM18
import Derived.Test.YtkbkmfmekjpleaaDoorM16
import Derived.RegionTactic
import Derived.Test.YtkbkmfmekjpleaaDoorM31
import Derived.Test.YtkbkmfmekjpleaaDoorM05
import Derived.Test.YtkbkmfmekjpleaaDoorM10
namespace Go.Proofs.YtkbkmfmekjpleaaDoor
open Go.RowKit

set_option maxRecDepth 100000 in
set_option maxHeartbeats 8000000 in
theorem qmay_any (p : Pt) (hp : p.OK) (w : World) : Calls Tryd.prog 15 #[.agg (pcells p).toArray] w fun e w' => e = .returned (.bool (mayR p)) ∧ Below w.heap.size w w' := by
  have HB0 : Hid (Below w.heap.size w (w.alloc (.cells (pcells p).toArray 37))) := Lib.hid ((Below.refl _ _).alloc (Nat.le_refl _) _)
  have hG : Blk (w.alloc (.cells (pcells p).toArray 37)) w.heap.size (pcells p) 37 := Blk.new _ _ _
  have hA := rng_ats hG hp.hash
  obtain ⟨k, lv, ob, off, bi, hs, ats⟩ := p
  have hl := hp.len
  match ats, hl with
  | [a, b, c, d], _ =>
  have hh := hp.hash
  clear hp hl
  have cK := hG.cell (j := 0) rfl
  have cL := hG.cell (j := 1) rfl
  have cA : (w.alloc (.cells (pcells ⟨k, lv, ob, off, bi, hs, [a, b, c, d]⟩).toArray 37)).cell? ⟨w.heap.size, 37, none⟩ = some (.int .u16 (a : Int)) := cell_ats hG hh (k := 0) rfl
  have cB : (w.alloc (.cells (pcells ⟨k, lv, ob, off, bi, hs, [a, b, c, d]⟩).toArray 37)).cell? ⟨w.heap.size, 38, none⟩ = some (.int .u16 (b : Int)) := cell_ats hG hh (k := 1) rfl
  have cC : (w.alloc (.cells (pcells ⟨k, lv, ob, off, bi, hs, [a, b, c, d]⟩).toArray 37)).cell? ⟨w.heap.size, 39, none⟩ = some (.int .u16 (c : Int)) := cell_ats hG hh (k := 2) rfl
  have cD : (w.alloc (.cells (pcells ⟨k, lv, ob, off, bi, hs, [a, b, c, d]⟩).toArray 37)).cell? ⟨w.heap.size, 40, none⟩ = some (.int .u16 (d : Int)) := cell_ats hG hh (k := 3) rfl
  have HG := Lib.hid hA
  have HB := HB0
  obtain ⟨P, hP⟩ : ∃ P, (pcells ⟨k, lv, ob, off, bi, hs, [a, b, c, d]⟩).toArray = P := ⟨_, rfl⟩
  rw [hP] at cK cL cA cB cC cD HG HB ⊢
  obtain ⟨m, hm⟩ : ∃ m, mayR ⟨k, lv, ob, off, bi, hs, [a, b, c, d]⟩ = m := ⟨_, rfl⟩
  rw [hm]
  have HM := Lib.hid hm
  clear hG hA HB0 hh hP hm
  go_enter Tryd.func15, Tryd.ntmps15
  go_upto_region 1 with fail
  generalize (w.alloc (.cells P 37)) = W at cK cL cA cB cC cD HG HB ⊢
  by_cases h1 : k < 1
  · have ih1 : (k : Int) < 1 := by omega
    obtain rfl : m = false := by rw [← HM.out]; unfold mayR; simp only [List.getD_cons_zero, List.getD_cons_succ]; rw [if_pos (by omega)]
    go_wp2
    go_ret
    exact ⟨rfl, HB.out⟩
  have ih1 : ¬ (k : Int) < 1 := by omega
  by_cases h5 : 5 < k
  · have ih5 : (5 : Int) < k := by omega
    obtain rfl : m = false := by rw [← HM.out]; unfold mayR; simp only [List.getD_cons_zero, List.getD_cons_succ]; rw [if_pos (by omega)]
    go_wp2
    go_ret
    exact ⟨rfl, HB.out⟩
  have ih5 : ¬ (5 : Int) < k := by omega
  have n1 : ¬ (k < 1 ∨ 5 < k) := by omega
  go_upto_region 3 with fail
  go_cut [33] (fun v wx => v = .bool (decide ((k = 3 ∧ (lv < 1 ∨ 2 < lv)) ∨ (k ≠ 3 ∧ lv ≠ 0))) ∧ wx = W)
  case first =>
    by_cases h3 : k = 3
    · have ih3 : (k : Int) = 3 := by omega
      by_cases l1 : lv < 1
      · have il1 : (lv : Int) < 1 := by omega
        go_wp2
        go_meet
        exact ⟨congrArg Value.bool (by first | exact (decide_eq_true (by omega)).symm | (rw [Bool.eq_iff_iff]; simp; omega)), rfl⟩
      · have il1 : ¬ (lv : Int) < 1 := by omega
        by_cases l2 : 2 < lv
        · have il2 : (2 : Int) < lv := by omega
          go_wp2
          go_meet
          exact ⟨congrArg Value.bool (by first | exact (decide_eq_true (by omega)).symm | (rw [Bool.eq_iff_iff]; simp; omega)), rfl⟩
        · have il2 : ¬ (2 : Int) < lv := by omega
          go_wp2
          go_meet
          exact ⟨congrArg Value.bool (by first | exact (decide_eq_false (by omega)).symm | (rw [Bool.eq_iff_iff]; simp; omega)), rfl⟩
    · have ih3 : ¬ (k : Int) = 3 := by omega
      by_cases l0 : lv = 0
      · have il0 : (lv : Int) = 0 := by omega
        go_wp2
        go_meet
        exact ⟨congrArg Value.bool (by first | exact (decide_eq_false (by omega)).symm | (rw [Bool.eq_iff_iff]; simp; omega)), rfl⟩
      · have il0 : ¬ (lv : Int) = 0 := by omega
        go_wp2
        go_meet
        exact ⟨congrArg Value.bool (by first | exact (decide_eq_true (by omega)).symm | (rw [Bool.eq_iff_iff]; simp; omega)), rfl⟩
  case rest =>
  obtain ⟨rfl, rfl⟩ := hcut
  by_cases h3 : ((k = 3 ∧ (lv < 1 ∨ 2 < lv)) ∨ (k ≠ 3 ∧ lv ≠ 0))
  · rw [decide_eq_true h3]
    obtain rfl : m = false := by rw [← HM.out]; unfold mayR; simp only [List.getD_cons_zero, List.getD_cons_succ]; rw [if_neg n1, if_pos h3]
    go_wp2
    go_ret
    exact ⟨rfl, HB.out⟩
  rw [decide_eq_false h3]
  have HN1 := Lib.hid n1; have HN3 := Lib.hid h3; clear n1 h3
  by_cases z : [a, b, c, d] = [0, 0, 0, 0]
  · have HZ := Lib.hid z; clear z
    obtain rfl : m = false := by rw [← HM.out]; unfold mayR; simp only [List.getD_cons_zero, List.getD_cons_succ]; rw [if_neg HN1.out, if_neg HN3.out, if_pos HZ.out]
    go_wp2_with (first | (refine wpL_val rfl (ex_ld (ty := 35) (cs := [a, b, c, d].map U16) rfl rfl HG.out Tryd.underlying35 rfl sizeAts) ?_) | (refine wpL_val rfl (ex_eqAts (a := [a, b, c, d]) (b := [0, 0, 0, 0]) rfl rfl rfl rfl rfl) ?_; rw [decide_eq_true HZ.out]) | fail)
    go_ret
    exact ⟨rfl, HB.out⟩
  have HZ := Lib.hid z; clear z
  go_upto_region 7 with (first | (refine wpL_val rfl (ex_ld (ty := 35) (cs := [a, b, c, d].map U16) rfl rfl HG.out Tryd.underlying35 rfl sizeAts) ?_) | (refine wpL_val rfl (ex_eqAts (a := [a, b, c, d]) (b := [0, 0, 0, 0]) rfl rfl rfl rfl rfl) ?_; rw [decide_eq_false HZ.out]) | fail)
  (try simp only [Act.put, List.setIfInBounds_toArray, List.set_cons_zero, List.set_cons_succ])
  go_cut [65] (fun v wx => v = .bool (decide ((a ≠ 0 ∧ a = b) ∨ (c ≠ 0 ∧ c = d))) ∧ wx = wc)
  case first =>
    by_cases a0 : a = 0
    · have ia0 : (a : Int) = 0 := by omega
      by_cases c0 : c = 0
      · have ic0 : (c : Int) = 0 := by omega
        go_wp2
        go_meet
        exact ⟨congrArg Value.bool (by first | exact (decide_eq_false (by omega)).symm | (rw [Bool.eq_iff_iff]; simp; omega)), rfl⟩
      · have ic0 : ¬ (c : Int) = 0 := by omega
        by_cases cd : c = d
        · have icd : (c : Int) = d := by omega
          go_wp2
          go_meet
          exact ⟨congrArg Value.bool (by first | exact (decide_eq_true (by omega)).symm | (rw [Bool.eq_iff_iff]; simp; omega)), rfl⟩
        · have icd : ¬ (c : Int) = d := by omega
          go_wp2
          go_meet
          exact ⟨congrArg Value.bool (by first | exact (decide_eq_false (by omega)).symm | (rw [Bool.eq_iff_iff]; simp; omega)), rfl⟩
    · have ia0 : ¬ (a : Int) = 0 := by omega
      by_cases ab : a = b
      · have iab : (a : Int) = b := by omega
        go_wp2
        go_meet
        exact ⟨congrArg Value.bool (by first | exact (decide_eq_true (by omega)).symm | (rw [Bool.eq_iff_iff]; simp; omega)), rfl⟩
      · have iab : ¬ (a : Int) = b := by omega
        by_cases c0 : c = 0
        · have ic0 : (c : Int) = 0 := by omega
          go_wp2
          go_meet
          exact ⟨congrArg Value.bool (by first | exact (decide_eq_false (by omega)).symm | (rw [Bool.eq_iff_iff]; simp; omega)), rfl⟩
        · have ic0 : ¬ (c : Int) = 0 := by omega
          by_cases cd : c = d
          · have icd : (c : Int) = d := by omega
            go_wp2
            go_meet
            exact ⟨congrArg Value.bool (by first | exact (decide_eq_true (by omega)).symm | (rw [Bool.eq_iff_iff]; simp; omega)), rfl⟩
          · have icd : ¬ (c : Int) = d := by omega
            go_wp2
            go_meet
            exact ⟨congrArg Value.bool (by first | exact (decide_eq_false (by omega)).symm | (rw [Bool.eq_iff_iff]; simp; omega)), rfl⟩
  case rest =>
  obtain ⟨rfl, rfl⟩ := hcut
  by_cases h7 : ((a ≠ 0 ∧ a = b) ∨ (c ≠ 0 ∧ c = d))
  · rw [decide_eq_true h7]
    obtain rfl : m = false := by rw [← HM.out]; unfold mayR; simp only [List.getD_cons_zero, List.getD_cons_succ]; rw [if_neg HN1.out, if_neg HN3.out, if_neg HZ.out, if_pos h7]
    go_wp2
    go_ret
    exact ⟨rfl, HB.out⟩
  rw [decide_eq_false h7]
  have HN7 := Lib.hid h7; clear h7
  by_cases k1 : k = 1
  · have ik1 : (k : Int) = 1 := by omega
    by_cases b0 : b = 0
    · have ib0 : (b : Int) = 0 := by omega
      by_cases d0 : d = 0
      · have id0 : (d : Int) = 0 := by omega
        obtain rfl : m = true := by rw [← HM.out]; unfold mayR; simp only [List.getD_cons_zero, List.getD_cons_succ]; rw [if_neg HN1.out, if_neg HN3.out, if_neg HZ.out, if_neg HN7.out]; exact decide_eq_true (by omega)
        go_wp2
        go_ret
        exact ⟨rfl, HB.out⟩
      · have id0 : ¬ (d : Int) = 0 := by omega
        have jd0 : ((d : Int) == 0) = false := by simp; omega
        obtain rfl : m = false := by rw [← HM.out]; unfold mayR; simp only [List.getD_cons_zero, List.getD_cons_succ]; rw [if_neg HN1.out, if_neg HN3.out, if_neg HZ.out, if_neg HN7.out]; exact decide_eq_false (by omega)
        go_wp2
        go_ret
        exact ⟨rfl, HB.out⟩
    · have ib0 : ¬ (b : Int) = 0 := by omega
      obtain rfl : m = false := by rw [← HM.out]; unfold mayR; simp only [List.getD_cons_zero, List.getD_cons_succ]; rw [if_neg HN1.out, if_neg HN3.out, if_neg HZ.out, if_neg HN7.out]; exact decide_eq_false (by omega)
      go_wp2
      go_ret
      exact ⟨rfl, HB.out⟩
  · have ik1 : ¬ (k : Int) = 1 := by omega
    obtain rfl : m = true := by rw [← HM.out]; unfold mayR; simp only [List.getD_cons_zero, List.getD_cons_succ]; rw [if_neg HN1.out, if_neg HN3.out, if_neg HZ.out, if_neg HN7.out]; exact decide_eq_true (by omega)
    go_wp2
    go_ret
    exact ⟨rfl, HB.out⟩
end Go.Proofs.YtkbkmfmekjpleaaDoor
/- Nodes, plain: what is put is taken, what is taken is put; the errors; good. -/
namespace Go.Proofs.YtkbkmfmekjpleaaDoor
open Go.RowKit

theorem takeE_fine {l : Bs} (h : 64 ≤ l.length) : takeE l 0 = if quietP (l.take 64) && fineP (pt l) then 0 else 5 := by
  unfold takeE fineP
  rw [if_neg (by omega), if_neg (by omega)]
theorem piece_at : ∀ {ns : List Pt}, (∀ p ∈ ns, p.OK) → ∀ {j : Nat} {p : Pt}, ns[j]? = some p → ((nodeB ns).drop (64 * j)).take 64 = padB p
  | [], _, j, p, h => by simp at h
  | q :: ns, hok, j, p, h => by
    have hq := padB_length (hok q (by simp))
    have e : nodeB (q :: ns) = padB q ++ nodeB ns := by simp [nodeB]
    match j, h with
    | 0, h =>
      simp only [List.getElem?_cons_zero, Option.some.injEq] at h
      subst h
      rw [e, Nat.mul_zero, List.drop_zero, List.take_left' hq]
    | j + 1, h =>
      simp only [List.getElem?_cons_succ] at h
      rw [e, show 64 * (j + 1) = 64 + 64 * j by omega, ← List.drop_drop, List.drop_left' hq]
      exact piece_at (ns := ns) (fun p hp => hok p (by simp [hp])) h
/-- What is put is taken. -/
theorem put_back {ns : List Pt} (h : NOK ns) (hp : putOk ns = true) : nodeE (nodeB ns) = 0 ∧ nodeT (nodeB ns) = ns := by
  have hl : (nodeB ns).length = 512 := by rw [nodeB_length h.ok, h.len]
  have hpt : ∀ {j p}, ns[j]? = some p → pt ((nodeB ns).drop (64 * j)) = p := fun {j p} hj => by
    rw [← pt_take, piece_at h.ok hj]
    exact (pt_padB (h.at hj)).1
  have hs : ∀ k, k ≤ 8 → stE (nodeB ns) k = 0 := by
    intro k
    induction k with
    | zero => intro _; rfl
    | succ k ih =>
      intro hk
      obtain ⟨p, hp'⟩ := h.get (show k < 8 by omega)
      show takeE _ _ = 0
      rw [ih (by omega), takeE_fine (by rw [List.length_drop, hl]; omega), hpt hp', piece_at h.ok hp', (pt_padB (h.at hp')).2, List.all_eq_true.1 hp p (List.mem_of_getElem? hp')]
      rfl
  have h0 : nodeE (nodeB ns) = 0 := by unfold nodeE; rw [if_pos hl]; exact hs 8 (Nat.le_refl _)
  refine ⟨h0, ?_⟩
  unfold nodeT
  rw [if_pos h0]
  apply List.ext_getElem?
  intro j
  by_cases hj : j < 8
  · obtain ⟨p, hp'⟩ := h.get hj
    rw [hp']
    simp [nodeP, hj, hpt hp']
  · rw [List.getElem?_eq_none (by simp [nodeP]; omega), List.getElem?_eq_none (by rw [h.len]; omega)]
end Go.Proofs.YtkbkmfmekjpleaaDoor
/- The known tree, plain. -/
namespace Go.Proofs.YtkbkmfmekjpleaaDoor
open Go.RowKit

/-- A pointer whose block is a node's. -/
theorem rn_of {s : Sh} {q : Pt} {ns : List Pt} (hz : eqP q zeroP = false) (hb : s.bad.any (fun x => x == at0 q) = false) {k : Nat} (hk : at0 q = k + 1) (hg : s.blocks[k]? = some (nodeB ns)) (hn : NOK ns) (hp : putOk ns = true) : rnE s q = 0 ∧ rnN s q = ns ∧ rnS s q = rdS s q := by
  have hlt := (List.getElem?_eq_some_iff.1 hg).1
  have hE : rdE s q = 0 := by unfold rdE; rw [if_neg (by rw [hb]; decide), if_neg (by omega)]
  have hB : rdB s q = nodeB ns := by
    unfold rdB
    rw [if_neg (by rw [hb]; decide), if_neg (by omega), hk, Nat.add_sub_cancel, List.getD_eq_getElem?_getD, hg]
    rfl
  obtain ⟨e1, e2⟩ := put_back hn hp
  refine ⟨?_, ?_, ?_⟩
  · unfold rnE; rw [if_neg (by rw [hz]; decide), hE, hB, e1, if_neg (by simp), if_neg (by simp)]
  · unfold rnN; rw [if_neg (by rw [hz]; decide), hE, if_neg (by simp), hB, e2]
  · unfold rnS; rw [if_neg (by rw [hz]; decide)]
def kp9 : Pt := leafP 1 9
def kn1 : List Pt := holes.set 1 kp9
def kB1 : Bs := nodeB kn1
def kq1 : Pt := newP (tagP 1 9 1) 1 kB1
def kn2 : List Pt := holes.set 1 kq1
def kB2 : Bs := nodeB kn2
def kq2 : Pt := newP (tagP 2 9 0) 2 kB2
def ks (gone read0 : List Pt) : Sh := ⟨[kB1, kB2], [], [kq1, kq2], gone, -1, read0⟩
theorem kp9_ok : kp9.OK := leafP_ok (by omega) (by omega)
theorem kn1_ok : NOK kn1 := holes_ok.set 1 kp9_ok
theorem kq1_ok : kq1.OK := newP_ok (tagP_ok (by omega) (by omega) (by omega)) (by omega) _
theorem kn2_ok : NOK kn2 := holes_ok.set 1 kq1_ok
theorem kq2_ok : kq2.OK := newP_ok (tagP_ok (by omega) (by omega) (by omega)) (by omega) _
theorem kput1 : putOk kn1 = true := by kernel_rfl
theorem kput2 : putOk kn2 = true := by kernel_rfl
theorem kz1 : eqP kq1 zeroP = false := by kernel_rfl
theorem kz2 : eqP kq2 zeroP = false := by kernel_rfl
theorem wk1 : setR sh0 zeroP 9 [(9, kp9)] = ⟨kq2, 0, ks [] []⟩ := by kernel_rfl
theorem krn2 (gone rd : List Pt) : rnE (ks gone rd) kq2 = 0 ∧ rnN (ks gone rd) kq2 = kn2 ∧ rnS (ks gone rd) kq2 = ks gone (rd ++ [kq2]) := rn_of kz2 rfl (k := 1) rfl rfl kn2_ok kput2
theorem krn1 (gone rd : List Pt) : rnE (ks gone rd) kq1 = 0 ∧ rnN (ks gone rd) kq1 = kn1 ∧ rnS (ks gone rd) kq1 = ks gone (rd ++ [kq1]) := rn_of kz1 rfl (k := 0) rfl rfl kn1_ok kput1
theorem kref2 : refE kq2 = 0 := by kernel_rfl
theorem kb1 (fr tt : Nat) (gone rd ns : List Pt) (ls : List Lf) (first : Nat) : belowP fr tt 1 (ks gone rd) ns ls kq1 first = goB (belowP fr tt 0) 1 first fr tt kn1 0 (ks gone (rd ++ [kq1])) (ns ++ [kq1]) ls := by
  obtain ⟨e1, e2, e3⟩ := krn1 gone rd
  rw [belowP_succ, if_neg (by rw [kz1]; decide), if_neg (by rw [e1]; simp), e2, e3]
theorem kgo (fr tt : Nat) (f : Sh → List Pt → List Lf → Pt → Nat → Bw) (h0 : ∀ s ns ls at_, f s ns ls zeroP at_ = ⟨0, s, ns, ls⟩) (wide first : Nat) (q : Pt) (s : Sh) (ns : List Pt) (ls : List Lf) : goB f wide first fr tt (holes.set 1 q) 0 s ns ls = if first + 1 * wide + wide ≤ fr ∨ tt ≤ first + 1 * wide then ⟨0, s, ns, ls⟩ else f s ns ls q (first + 1 * wide) := by
  have hz : ∀ n i s ns ls, goB f wide first fr tt (List.replicate n zeroP) i s ns ls = ⟨0, s, ns, ls⟩ := by
    intro n
    induction n with
    | zero => intro i s ns ls; rfl
    | succ n ih =>
      intro i s ns ls
      rw [List.replicate_succ]
      by_cases hc : first + i * wide + wide ≤ fr ∨ tt ≤ first + i * wide
      · rw [goB_skip hc, ih]
      · rw [goB_ok hc (by rw [h0]), h0, ih]
  have e : holes.set 1 q = zeroP :: q :: List.replicate 6 zeroP := rfl
  rw [e]
  have first0 : ∀ l, goB f wide first fr tt (zeroP :: l) 0 s ns ls = goB f wide first fr tt l 1 s ns ls := fun l => by
    by_cases hc : first + 0 * wide + wide ≤ fr ∨ tt ≤ first + 0 * wide
    · rw [goB_skip hc]
    · rw [goB_ok hc (by rw [h0]), h0]
  rw [first0]
  by_cases hc : first + 1 * wide + wide ≤ fr ∨ tt ≤ first + 1 * wide
  · rw [goB_skip hc, if_pos hc, hz]
  · rw [if_neg hc]
    by_cases he : (f s ns ls q (first + 1 * wide)).e = 0
    · rw [goB_ok hc he, hz]
      cases hq : f s ns ls q (first + 1 * wide) with
      | mk e s ns ls => rw [hq] at he; simp at he; subst he; rfl
    · rw [goB_err hc he]
theorem bz (fr tt n : Nat) (s : Sh) (ns : List Pt) (ls : List Lf) (at_ : Nat) : belowP fr tt n s ns ls zeroP at_ = ⟨0, s, ns, ls⟩ := by
  cases n with
  | zero => unfold belowP; rw [if_pos (by kernel_rfl)]
  | succ n => rw [belowP_succ, if_pos (by kernel_rfl)]
theorem kget (off : Nat) (gone rd : List Pt) : getR (ks gone rd) kq2 off = if 16 ≤ off ∨ off + 1 ≤ 8 then ⟨0, ks gone (rd ++ [kq2]), [kq2], []⟩ else if 10 ≤ off ∨ off + 1 ≤ 9 then ⟨0, ks gone (rd ++ [kq2] ++ [kq1]), [kq2, kq1], []⟩ else ⟨0, ks gone (rd ++ [kq2] ++ [kq1]), [kq2, kq1], [(9, kp9)]⟩ := by
  obtain ⟨e1, e2, e3⟩ := krn2 gone rd
  unfold getR
  rw [belowP_succ, if_neg (by rw [kz2]; decide), if_neg (by rw [e1]; simp), e2, e3]
  unfold kn2
  rw [kgo _ _ _ (bz off (off + 1) 1)]
  show (if 16 ≤ off ∨ off + 1 ≤ 8 then _ else _) = _
  by_cases h1 : 16 ≤ off ∨ off + 1 ≤ 8
  · rw [if_pos h1, if_pos h1]; rfl
  · rw [if_neg h1, if_neg h1, kb1]
    unfold kn1
    rw [kgo _ _ _ (bz off (off + 1) 0)]
    show (if 10 ≤ off ∨ off + 1 ≤ 9 then _ else _) = _
    by_cases h2 : 10 ≤ off ∨ off + 1 ≤ 9
    · rw [if_pos h2, if_pos h2]; rfl
    · rw [if_neg h2, if_neg h2]; rfl
theorem wk2 (gone rd : List Pt) : getE (ks gone rd) kq2 9 = 0 ∧ getP (ks gone rd) kq2 9 = kp9 ∧ getS (ks gone rd) kq2 9 = ks gone (rd ++ [kq2] ++ [kq1]) := by
  have h := kget 9 gone rd
  rw [if_neg (by omega), if_neg (by omega)] at h
  refine ⟨?_, ?_, ?_⟩
  · unfold getE; rw [kref2, if_neg (by simp), if_neg (by omega), h]
  · unfold getP; rw [kref2, h, if_neg (by simp)]; rfl
  · unfold getS; rw [kref2, h, if_neg (by simp)]
theorem wk3 (gone rd : List Pt) : getE (ks gone rd) kq2 8 = 0 ∧ getP (ks gone rd) kq2 8 = zeroP ∧ getS (ks gone rd) kq2 8 = ks gone (rd ++ [kq2] ++ [kq1]) := by
  have h := kget 8 gone rd
  rw [if_neg (by omega), if_pos (by omega)] at h
  refine ⟨?_, ?_, ?_⟩
  · unfold getE; rw [kref2, if_neg (by simp), if_neg (by omega), h]
  · unfold getP; rw [kref2, h, if_neg (by simp)]; rfl
  · unfold getS; rw [kref2, h, if_neg (by simp)]
theorem kw1 (gone rd : List Pt) : withP 9 1 (ks gone rd) kq1 [(9, zeroP)] = ⟨zeroP, 0, ks (gone ++ [kp9] ++ [kq1]) (rd ++ [kq1])⟩ := by
  obtain ⟨e1, e2, e3⟩ := krn1 gone rd
  rw [withP_succ, if_neg (by simp), if_neg (by rw [e1]; simp), e2, e3]
  kernel_rfl
theorem wk4 (gone rd : List Pt) : setR (ks gone rd) kq2 9 [(9, zeroP)] = ⟨zeroP, 0, ks (gone ++ [kp9] ++ [kq1] ++ [kq2]) (rd ++ [kq2] ++ [kq1])⟩ := by
  obtain ⟨e1, e2, e3⟩ := krn2 gone rd
  unfold setR
  rw [kref2, if_neg (by simp), if_neg (by rw [show setOk [(9, zeroP)] = true from by kernel_rfl]; decide), withP_succ, if_neg (by simp), if_neg (by rw [e1]; simp), e2, e3]
  have hg : goW (withP 9 1) 8 kn2 1 (ks gone (rd ++ [kq2])) kn2 [(9, zeroP)] = ⟨holes, 0, ks (gone ++ [kp9] ++ [kq1]) (rd ++ [kq2] ++ [kq1])⟩ := by
    have hf : withP 9 1 (ks gone (rd ++ [kq2])) (kn2.getD ((([(9, zeroP)] : List Lf).getD 0 dl).1 / 8 % 8) zeroP) (([(9, zeroP)] : List Lf).take (headN 8 [(9, zeroP)])) = ⟨zeroP, 0, ks (gone ++ [kp9] ++ [kq1]) (rd ++ [kq2] ++ [kq1])⟩ := by
      have := kw1 gone (rd ++ [kq2])
      exact this
    rw [goW_ok (by simp) (by rw [hf]), hf]
    rfl
  show endW 9 2 kq2 kn2 _ (goW (withP 9 1) 8 kn2 1 (ks gone (rd ++ [kq2])) kn2 [(9, zeroP)]) = _
  rw [hg]
  kernel_rfl
end Go.Proofs.YtkbkmfmekjpleaaDoor
