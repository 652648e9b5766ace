/- Charge: count, takes. -/
import Derived.Test.YtoceedfjfjobdaaGd
namespace Go.Proofs.Ytoceedfjfjobdaa
open Go.RowKit

attribute [local go_sem] Oper.semAt_some

def lvK (t : List Bool) (k : Nat) : Nat := ((List.range k).map (inT t)).sum
def ndK (t : List Bool) (k : Nat) : Nat := (List.range k).countP fun g => decide (0 < inT t g)
def inK (t : List Bool) (k j : Nat) : Nat := (List.range j).countP fun i => t.getD (8 * k + i) false
theorem lvK_succ (t : List Bool) (k : Nat) : lvK t (k + 1) = lvK t k + inK t k 8 := by unfold lvK; rw [List.range_succ]; simp; rfl
theorem ndK_succ (t : List Bool) (k : Nat) : ndK t (k + 1) = ndK t k + (if 0 < inK t k 8 then 1 else 0) := by
  unfold ndK
  rw [List.range_succ, List.countP_append]
  simp only [List.countP_cons, List.countP_nil, Nat.zero_add, decide_eq_true_eq]
  rfl
theorem inK_succ (t : List Bool) (k j : Nat) : inK t k (j + 1) = inK t k j + (if t.getD (8 * k + j) false = true then 1 else 0) := by
  unfold inK
  rw [List.range_succ, List.countP_append]
  simp
theorem lvK_le (t : List Bool) : ∀ k, lvK t k ≤ 8 * k
  | 0 => by simp [lvK]
  | k + 1 => by
    have := lvK_le t k
    have h : inK t k 8 ≤ 8 := by
      have := List.countP_le_length (p := fun i => t.getD (8 * k + i) false) (l := List.range 8)
      simpa [inK] using this
    rw [lvK_succ]; omega
theorem ndK_le (t : List Bool) (k : Nat) : ndK t k ≤ k := by
  have := List.countP_le_length (p := fun g => decide (0 < inT t g)) (l := List.range k)
  simpa [ndK] using this
theorem inK_le (t : List Bool) (k j : Nat) : inK t k j ≤ j := by
  have := List.countP_le_length (p := fun i => t.getD (8 * k + i) false) (l := List.range j)
  simpa [inK] using this
/-- Is there a mark in a row? -/
theorem row_ne (t : List Bool) (ht : t.length = 64) {k : Nat} (hk : k < 8) : (!decide (rowG t k = zero8)) = decide (0 < inK t k 8) := by
  rw [← all_eq (rowG_length ht hk) (by simp [zero8]), Bool.eq_iff_iff]
  have e : ∀ j, j < 8 → (rowG t k).getD j false = t.getD (8 * k + j) false := fun j hj => rowG_getD t k hj
  have z : ∀ j, j < 8 → zero8.getD j false = false := fun j hj => by unfold zero8; rw [List.getD_eq_getElem?_getD, List.getElem?_replicate, if_pos hj]; rfl
  rw [Bool.not_eq_true', List.all_eq_false, decide_eq_true_eq]
  unfold inK
  rw [List.countP_pos_iff]
  constructor
  · rintro ⟨j, hj, h⟩
    have hj8 := List.mem_range.1 hj
    rw [e j hj8, z j hj8] at h
    exact ⟨j, hj, by simpa using h⟩
  · rintro ⟨j, hj, h⟩
    have hj8 := List.mem_range.1 hj
    exact ⟨j, hj, by rw [e j hj8, z j hj8, h]; simp⟩
set_option maxRecDepth 100000 in
set_option maxHeartbeats 8000000 in
theorem count_any (t : List Bool) (ht : t.length = 64) (w : World) : Calls Try.prog 23 #[.agg (bcs t).toArray] w (Ret w (.tuple #[.int .i64 (leavesT t : Int), .int .i64 (nodesT t : Int)])) := by
  generalize hPost : Ret w (.tuple #[.int .i64 (leavesT t : Int), .int .i64 (nodesT t : Int)]) = Post
  have HP : Hid (∀ W, Below w.heap.size w W → Post (.returned (.tuple #[.int .i64 (lvK t 8 : Int), .int .i64 (ndK t 8 : Int)])) W) := Lib.hid fun W h => by rw [← hPost]; exact ⟨rfl, h⟩
  have HT := Lib.hid ht
  have h64 : (bcs t).toArray.size = 64 := by simp [ht]
  clear hPost ht
  obtain ⟨ca, hca⟩ : ∃ c, bcs t = c := ⟨_, rfl⟩
  have HCA := Lib.hid hca
  rw [hca] at h64 ⊢
  clear hca
  go_enter Try.func23, Try.ntmps23
  go_upto_region 1 with fail
  refine (fun (k' : ∀ W, Blk W w.heap.size ca 51 → Below w.heap.size w W → Code.wp _ _ _ _ W) => k' _ (Blk.new' _ _ _ _ _ rfl rfl) ((Below.refl _ _).alloc (Nat.le_refl _) _)) ?_
  intro W1 hA hb1
  rw [← HCA.out] at hA
  have HB1 := Lib.hid hb1
  go_wp2_with (first | (refine c_val rfl (c_ldTr HT.out hA rfl rfl) ?_) | fail)
  clear hA hb1
  go_loopw [2, 3, 9] (fun a b i wr => ∃ k : Nat, k ≤ 8 ∧ i = .int .i64 (k : Int) ∧ a = .int .i64 (lvK t k : Int) ∧ b = .int .i64 (ndK t k : Int) ∧ Below w.heap.size w wr) (fun _ _ i _ => 8 - (intOf i).toNat)
  case atStart => exact ⟨0, by omega, rfl, rfl, rfl, HB1.out⟩
  case round =>
    clear HB1
    obtain ⟨k, hk, rfl, rfl, rfl, hb⟩ := hrel
    have HB := Lib.hid hb
    clear hb
    have wk1 := IntWalk.i64_in ((k : Int) + 1) (by omega)
    have wk2 := IntWalk.i64_in ((ndK t k : Int) + 1) (by have := ndK_le t k; omega)
    by_cases hlt : k < 8
    · have HK := Lib.hid hlt
      have HRL := Lib.hid (rowG_length HT.out hlt)
      obtain ⟨nz, hnz⟩ : ∃ z, (!decide (rowG t k = zero8)) = z := ⟨_, rfl⟩
      have HNZ := Lib.hid hnz
      have hnd : ndK t (k + 1) = ndK t k + (if nz = true then 1 else 0) := by
        rw [ndK_succ, ← hnz, row_ne t HT.out hlt]
        simp
      obtain ⟨N, hN⟩ : ∃ N, ndK t (k + 1) = N := ⟨_, rfl⟩
      rw [hN] at hnd
      have HN := Lib.hid hN; have HND := Lib.hid hnd
      have HZ8 : Hid (zero8.length = 8) := Lib.hid (by simp [zero8])
      clear hnz hnd hN
      obtain ⟨wo, hwo⟩ : ∃ wo : World, wo = wr := ⟨_, rfl⟩
      subst hwo
      go_upto_region 4 with (first | (refine c_val rfl (ex_ixTr HK.out rfl rfl rfl) ?_) | (refine c_stR (cs := bcs (rowG t k)) (Blk.new' wo _ (bcs zero8) 49 wo.heap.size rfl rfl) rfl rfl rfl rfl (by rw [List.length_map, HRL.out]; exact sizeG8) (by rw [List.length_map, List.length_map, HRL.out]; rfl) (one_bcs _) ?_; intro W4 hR4 hc4) | fail)
      have HB4 := Lib.hid (HB.out.trans ((((Below.refl _ _).alloc (Nat.le_refl _) _).trans (hc4.below (fun k e => by omega) (by simp))).mono HB.out.size))
      obtain ⟨g, hg⟩ : ∃ g, wo.heap.size = g := ⟨_, rfl⟩
      rw [hg] at hR4 ⊢
      have HR4 := Lib.hid hR4
      clear hR4 hc4 hg HB
      cases nz
      all_goals
        go_upto_region 6 with (first | (refine c_val rfl (c_ld8 HRL.out HR4.out rfl rfl) ?_) | (refine c_val rfl (ex_bld8 rfl) ?_) | (refine c_val rfl (ex_ne8 HRL.out HZ8.out HNZ.out rfl rfl rfl) ?_) | fail)
        go_wp2_with (first | (refine c_val rfl (c_ld8 HRL.out HR4.out rfl rfl) ?_) | fail)
        have e0 : lvK t k = lvK t k + inK t k 0 := by simp [inK]
        rw [e0]
        clear e0
        go_loopw [2, 18] (fun a i wr => ∃ j : Nat, j ≤ 8 ∧ i = .int .i64 (j : Int) ∧ a = .int .i64 ((lvK t k + inK t k j : Nat) : Int) ∧ Below w.heap.size w wr) (fun _ i _ => 8 - (intOf i).toNat)
        case atStart => exact ⟨0, by omega, rfl, rfl, HB4.out⟩
        case round =>
          clear HB4
          obtain ⟨j, hj, rfl, rfl, hb⟩ := hrel
          have HB := Lib.hid hb
          clear hb
          have wj1 := IntWalk.i64_in ((j : Int) + 1) (by omega)
          by_cases hjl : j < 8
          · have HJ := Lib.hid hjl
            obtain ⟨z, hz⟩ : ∃ z, t.getD (8 * k + j) false = z := ⟨_, rfl⟩
            have HZ : Hid ((rowG t k).getD j false = z) := Lib.hid (by rw [rowG_getD t k hjl]; exact hz)
            have hsu := inK_succ t k j
            rw [hz] at hsu
            have hle := lvK_le t k
            have hle2 := inK_le t k j
            obtain ⟨A, hA⟩ : ∃ A, lvK t k + inK t k j = A := ⟨_, rfl⟩
            have HSU : Hid (lvK t k + inK t k (j + 1) = A + (if z = true then 1 else 0)) := Lib.hid (by rw [hsu]; omega)
            have wj2 := IntWalk.i64_in ((A : Int) + 1) (by omega)
            rw [hA]
            clear hz hsu hle hle2 hA
            cases z
            · go_wp2_with (first | (refine c_val rfl (ex_ix8 HJ.out HRL.out HZ.out rfl rfl rfl) ?_) | fail)
              go_roundw
              case rel => exact ⟨j + 1, by omega, by go_num, by rw [HSU.out]; simp, HB.out⟩
              case measure => simp [intOf]; omega
            · go_wp2_with (first | (refine c_val rfl (ex_ix8 HJ.out HRL.out HZ.out rfl rfl rfl) ?_) | fail)
              go_roundw
              case rel => exact ⟨j + 1, by omega, by go_num, by rw [HSU.out]; simp, HB.out⟩
              case measure => simp [intOf]; omega
          · obtain rfl : j = 8 := by omega
            clear hjl hj wj1
            go_wp2_with fail
            go_roundw
            case rel => exact ⟨k + 1, by omega, by go_num, by rw [lvK_succ], by rw [HN.out, HND.out]; simp, HB.out⟩
            case measure => simp [intOf]; omega
    · obtain rfl : k = 8 := by omega
      have HE := Lib.hid (HP.out _ HB.out)
      clear hlt hk wk1 wk2
      go_wp2_with fail
      first | exact HE.out | (go_ret; exact HE.out)
set_option maxRecDepth 100000 in
set_option maxHeartbeats 4000000 in
theorem tree_any (t : List Bool) (ht : t.length = 64) (wd : Nat) (hw : wd ≤ 2) (w : World) : Calls Try.prog 21 #[.agg (bcs t).toArray, .int .i64 (wd : Int)] w (Ret w (.int .i64 (takesT t wd : Int))) := by
  have HC := Lib.hid (count_any t ht)
  have HT := Lib.hid ht
  have hl := leaves_le t
  have hn := nodes_eight t
  have h64 : (bcs t).toArray.size = 64 := by simp [ht]
  have e1 : IntKind.i64.wrap ((leavesT t : Int) * (wd : Int)) = (leavesT t : Int) * (wd : Int) := IntWalk.i64_in _ (by
    have h1 : leavesT t * wd ≤ 64 * 2 := Nat.mul_le_mul hl hw
    have h2 : ((leavesT t * wd : Nat) : Int) = (leavesT t : Int) * (wd : Int) := by simp
    omega)
  have e2 : IntKind.i64.wrap ((nodesT t : Int) * 2) = (nodesT t : Int) * 2 := IntWalk.i64_in _ (by omega)
  have e3 : IntKind.i64.wrap ((leavesT t : Int) * (wd : Int) + (nodesT t : Int) * 2) = (takesT t wd : Int) := by
    have h1 : leavesT t * wd ≤ 64 * 2 := Nat.mul_le_mul hl hw
    have h2 : ((leavesT t * wd : Nat) : Int) = (leavesT t : Int) * (wd : Int) := by simp
    rw [IntWalk.i64_in _ (by omega)]
    unfold takesT
    omega
  obtain ⟨L, hL⟩ : ∃ L, leavesT t = L := ⟨_, rfl⟩
  obtain ⟨n, hN⟩ : ∃ L, nodesT t = L := ⟨_, rfl⟩
  obtain ⟨R, hR⟩ : ∃ L, takesT t wd = L := ⟨_, rfl⟩
  rw [hL, hN] at HC
  rw [hL] at e1
  rw [hN] at e2
  rw [hL, hN, hR] at e3
  rw [hR]
  obtain ⟨ca, hca⟩ : ∃ c, bcs t = c := ⟨_, rfl⟩
  have HCA := Lib.hid hca
  rw [hca] at h64 ⊢
  clear hca hl hn hL hN hR hw ht
  go_enter Try.func21, Try.ntmps21
  go_upto_region 1 with fail
  refine (fun (k' : ∀ W, Blk W w.heap.size ca 51 → Below w.heap.size w W → Code.wp _ _ _ _ W) => k' _ (Blk.new' _ _ _ _ _ rfl rfl) ((Below.refl _ _).alloc (Nat.le_refl _) _)) ?_
  intro W1 hA hb1
  rw [← HCA.out] at hA
  have HB1 := Lib.hid hb1
  go_wp2_with (first | (refine c_val rfl (c_ldTr HT.out hA rfl rfl) ?_) | fail)
  clear hA hb1
  refine (HC.out _).mono ?_
  rintro e W2 ⟨rfl, hb2⟩
  have HE := Lib.hid (HB1.out.trans (hb2.mono HB1.out.size))
  clear hb2
  go_wp2_with fail
  first | exact ⟨rfl, HE.out⟩ | (go_ret; exact ⟨rfl, HE.out⟩)
end Go.Proofs.Ytoceedfjfjobdaa
