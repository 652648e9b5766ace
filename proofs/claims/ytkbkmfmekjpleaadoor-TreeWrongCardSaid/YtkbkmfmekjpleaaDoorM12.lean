/- The 64 numbers of a piece, as the reference reckons them. -/
import Derived.Test.YtkbkmfmekjpleaaDoorM11
namespace Go.Proofs.YtkbkmfmekjpleaaDoor
open Go.RowKit

theorem relN_next {w wr w1 : World} {l : List (BitVec 32)} {v v' : Value} {o : Obj} {x : BitVec 32} (h : RelN w.heap.size w l v wr) (ho : w1.ownsRow w.heap.size 32 1 v' (l ++ [x]).length ((l ++ [x]).map V32)) (hg : (wr.alloc o).grownBy w1 v.ownBlock) : RelN w.heap.size w (l ++ [x]) v' w1 :=
  ⟨ho, (h.2.alloc h.2.size o).grown hg (by have := h.2.size; simp; omega) (fun j hj => (h.1.lt j hj).1)⟩

set_option maxRecDepth 100000 in
set_option maxHeartbeats 1000000 in
theorem numbers_any (pb : List (BitVec 8)) (hps : pb.length = 64) (g o cap : Nat) (w : World) (hg : g < w.heap.size) (hc : ∀ j, j < 64 → w.cell? ⟨g, o + j, none⟩ = some (V8 (pb.getD j 0))) :
    Calls Tryd.prog 104 #[.slice (some ⟨g, o, none⟩) 64 cap] w fun e w' => ∃ v, e = .returned v ∧ RelN w.heap.size w (sched pb) v w' := by
  obtain ⟨i0, hi, hz0, hz1, hz2⟩ := info_parts info36
  have HI := Lib.hid hi; have HZ0 := Lib.hid hz0; have HZ1 := Lib.hid hz1; have HZ2 := Lib.hid hz2
  have HC := Lib.hid hc
  clear hi hz0 hz1 hz2 hc
  go_enter Tryd.func104, Tryd.ntmps104
  go_wp2
  go_loopw [3, 4] (fun v i wr => ∃ k : Nat, k ≤ 16 ∧ i = .int .i64 k ∧ RelN w.heap.size w (Wp pb k) v wr) (fun _ i _ => 16 - (intOf i).toNat)
  case atStart => exact ⟨0, by omega, rfl, World.ownsRow_nil _ _ _ _, Below.refl _ _⟩
  case round =>
    obtain ⟨k, hk, rfl, hR⟩ := hrel
    have HR := Lib.hid hR
    clear hR
    by_cases hlt : k < 16
    · go_wp2
      go_loop [5, 6] (fun x i => ∃ j : Nat, j ≤ 4 ∧ i = .int .i64 j ∧ x = V32 (part pb k j)) (fun _ i => 4 - (intOf i).toNat)
      case atStart => exact ⟨0, by omega, rfl, rfl⟩
      case round =>
        obtain ⟨j, hj, rfl, rfl⟩ := hrel
        by_cases hlj : j < 4
        · have cx : wr.cell? ⟨g, o + (4 * k + j), none⟩ = some (V8 (pb.getD (4 * k + j) 0)) := (HR.out.2.cell (p := ⟨g, o + (4 * k + j), none⟩) hg).trans (HC.out (4 * k + j) (by omega))
          obtain ⟨b, hb⟩ : ∃ b, pb.getD (4 * k + j) 0 = b := ⟨_, rfl⟩
          rw [hb] at cx
          have m1 := mul256 (part pb k j)
          have c1 := cv32 b
          have a1 := part_step pb k j b hb
          clear hb
          go_wp2
          go_round
          case rel => exact ⟨j + 1, by omega, by go_num, rfl⟩
          case measure => simp [intOf]; omega
        · obtain rfl : j = 4 := by omega
          rw [part_word]
          go_wp2_with (first
            | (at_builtin; refine wpList_append_own _ rfl (.tmp 29) (.tmp 31) 148 rfl w.heap.size 32 i0 (.int .u32 0) 1 4 Tryd.underlying148 HI.out HZ0.out HZ1.out HZ2.out rfl (by decide) _ _ _ rfl (HR.out.1.alloc _) ⟨wr.heap.size, 0, none⟩ 1 1 [V32 (word pb k)] rfl rfl (one_at _ _ _) (one_cell32 _) (by rw [Wp_length]; unfold maxLen; omega) (by rw [Wp_length]; omega) (by have := HR.out.2.size; simp; omega) ?_; intro v' w1 ho hgr _; have HN := Lib.hid (relN_step HR.out ho hgr HR.out.2.size); clear ho hgr)
            | fail)
          go_roundw
          case rel =>
            refine ⟨k + 1, by omega, by go_num, ?_⟩
            rw [Wp_succ]; exact HN.out
          case measure => simp [intOf]; omega
    · obtain rfl : k = 16 := by omega
      go_wp2
      rw [show ((16 : Nat) : Int) = (16 : Int) from rfl]
      have HR0 := HR
      clear HR
      go_loopw [3, 7] (fun v i wr => ∃ k : Nat, 16 ≤ k ∧ k ≤ 64 ∧ i = .int .i64 k ∧ RelN w.heap.size w (Wx pb (k - 16)) v wr) (fun _ i _ => 64 - (intOf i).toNat)
      case atStart => exact ⟨16, by omega, by omega, rfl, HR0.out⟩
      case round =>
        clear HR0
        obtain ⟨k, hk16, hk, rfl, hR⟩ := hrel
        by_cases hlt : k < 64
        · have hlen : (Wx pb (k - 16)).length = k := by rw [Wx_length]; omega
          obtain ⟨g2, cap2, rfl, hc, hbg, hg2⟩ := own_form hR.1 (by omega)
          rw [hlen] at hR hc ⊢
          have HR := Lib.hid hR
          have HL := Lib.hid hlen
          obtain ⟨a15, h15⟩ : ∃ b, (Wx pb (k - 16)).getD (k - 15) 0 = b := ⟨_, rfl⟩
          obtain ⟨a2, h2⟩ : ∃ b, (Wx pb (k - 16)).getD (k - 2) 0 = b := ⟨_, rfl⟩
          obtain ⟨a16, h16⟩ : ∃ b, (Wx pb (k - 16)).getD (k - 16) 0 = b := ⟨_, rfl⟩
          obtain ⟨a7, h7⟩ : ∃ b, (Wx pb (k - 16)).getD (k - 7) 0 = b := ⟨_, rfl⟩
          have H15 : Hid (∀ W, Words g2 0 (Wx pb (k - 16)) W → W.cell? ⟨g2, 0 + (k - 15), none⟩ = some (V32 a15)) := Lib.hid (fun W hW => by rw [← h15]; exact hW _ (by omega))
          have H2 : Hid (∀ W, Words g2 0 (Wx pb (k - 16)) W → W.cell? ⟨g2, 0 + (k - 2), none⟩ = some (V32 a2)) := Lib.hid (fun W hW => by rw [← h2]; exact hW _ (by omega))
          have H16 : Hid (∀ W, Words g2 0 (Wx pb (k - 16)) W → W.cell? ⟨g2, 0 + (k - 16), none⟩ = some (V32 a16)) := Lib.hid (fun W hW => by rw [← h16]; exact hW _ (by omega))
          have H7 : Hid (∀ W, Words g2 0 (Wx pb (k - 16)) W → W.cell? ⟨g2, 0 + (k - 7), none⟩ = some (V32 a7)) := Lib.hid (fun W hW => by rw [← h7]; exact hW _ (by omega))
          have HNX : Hid (nextW (Wx pb (k - 16)) k = a16 + s0 a15 + a7 + s1 a2) := by
            show nextW (Wx pb (k - 16)) k = a16 + s0 a15 + a7 + s1 a2
            rw [← h15, ← h2, ← h16, ← h7]; rfl
          clear h15 h2 h16 h7 hlen hR
          go_wp2
          refine wp_region_sched (.take 0 (.take 1 (.take 2 (.take 3 (.take 4 (.take 5 (.take 6 (.take 7 (.take 8 (.take 9 (.take 10 (.take 11 (.nil))))))))))))) (by kernel_rfl) (by kernel_rfl) (fun d _ _ _ _ h => by cases d <;> exact h) (Words g2 0 (Wx pb (k - 16))) (own_words HR.out.1) ?_
          refine wpG_take _ (Value.slice (some ⟨g2, 0, none⟩) k cap2) rfl (by rfl) (fun _ _ => rfl) ?_
          (try simp only [Act.put, List.setIfInBounds_toArray, List.set_cons_zero, List.set_cons_succ])
          refine wpG_take _ (.int .i64 ((k : Nat) : Int)) rfl (by rfl) (fun _ _ => rfl) ?_
          (try simp only [Act.put, List.setIfInBounds_toArray, List.set_cons_zero, List.set_cons_succ])
          refine wpG_take _ (.int .i64 ((k - 15 : Nat) : Int)) rfl (by rfl) (fun _ _ => ex_subN (c := 15) rfl rfl rfl (by omega) (by omega)) ?_
          (try simp only [Act.put, List.setIfInBounds_toArray, List.set_cons_zero, List.set_cons_succ])
          refine wpG_take _ (.pointer (some ⟨g2, 0 + (k - 15), none⟩)) rfl (by rfl) (fun _ _ => ex_idx rfl rfl rfl rfl (by omega) (by omega)) ?_
          (try simp only [Act.put, List.setIfInBounds_toArray, List.set_cons_zero, List.set_cons_succ])
          refine wpG_take _ (V32 (a15)) rfl (by rfl) (fun W hW => ex_load32 rfl rfl (H15.out W hW)) ?_
          (try simp only [Act.put, List.setIfInBounds_toArray, List.set_cons_zero, List.set_cons_succ])
          refine wpG_take _ (Value.slice (some ⟨g2, 0, none⟩) k cap2) rfl (by rfl) (fun _ _ => rfl) ?_
          (try simp only [Act.put, List.setIfInBounds_toArray, List.set_cons_zero, List.set_cons_succ])
          refine wpG_take _ (.int .i64 ((k : Nat) : Int)) rfl (by rfl) (fun _ _ => rfl) ?_
          (try simp only [Act.put, List.setIfInBounds_toArray, List.set_cons_zero, List.set_cons_succ])
          refine wpG_take _ (.int .i64 ((k - 2 : Nat) : Int)) rfl (by rfl) (fun _ _ => ex_subN (c := 2) rfl rfl rfl (by omega) (by omega)) ?_
          (try simp only [Act.put, List.setIfInBounds_toArray, List.set_cons_zero, List.set_cons_succ])
          refine wpG_take _ (.pointer (some ⟨g2, 0 + (k - 2), none⟩)) rfl (by rfl) (fun _ _ => ex_idx rfl rfl rfl rfl (by omega) (by omega)) ?_
          (try simp only [Act.put, List.setIfInBounds_toArray, List.set_cons_zero, List.set_cons_succ])
          refine wpG_take _ (V32 (a2)) rfl (by rfl) (fun W hW => ex_load32 rfl rfl (H2.out W hW)) ?_
          (try simp only [Act.put, List.setIfInBounds_toArray, List.set_cons_zero, List.set_cons_succ])
          refine wpG_take _ (V32 (a15)) rfl (by rfl) (fun _ _ => rfl) ?_
          (try simp only [Act.put, List.setIfInBounds_toArray, List.set_cons_zero, List.set_cons_succ])
          refine wpG_take _ (V32 (a2)) rfl (by rfl) (fun _ _ => rfl) ?_
          (try simp only [Act.put, List.setIfInBounds_toArray, List.set_cons_zero, List.set_cons_succ])
          refine wpG_nil ?_
          go_wp2
          have HQ : Hid (RelN w.heap.size w (Wx pb (k - 16)) (.slice (some ⟨g2, 0, none⟩) k cap2) wr.drew.drew) := Lib.hid ⟨HR.out.1, HR.out.2.drew.drew⟩
          have hgq : g2 < wr.drew.drew.heap.size := hg2
          clear HR hg2
          refine wp_region_sched (.take 0 (.take 1 (.take 2 (.take 3 (.take 4 (.take 5 (.take 6 (.take 8 (.take 11 (.take 15 (.take 16 (.take 17 (.take 18 (.take 19 (.take 21 (.take 23 (.take 26 (.step 7 (.step 9 (.take 10 (.step 12 (.take 13 (.take 14 (.take 20 (.step 22 (.step 24 (.take 25 (.step 27 (.take 28 (.take 29 (.step 30 (.step 31 (.take 32 (.nil)))))))))))))))))))))))))))))))))) (by kernel_rfl) (by kernel_rfl) (fun d _ _ _ _ h => by cases d <;> exact h) (Words g2 0 (Wx pb (k - 16))) (own_words HQ.out.1) ?_
          refine wpG_take _ (Value.slice (some ⟨g2, 0, none⟩) k cap2) rfl (by rfl) (fun _ _ => rfl) ?_
          (try simp only [Act.put, List.setIfInBounds_toArray, List.set_cons_zero, List.set_cons_succ])
          refine wpG_take _ (Value.slice (some ⟨g2, 0, none⟩) k cap2) rfl (by rfl) (fun _ _ => rfl) ?_
          (try simp only [Act.put, List.setIfInBounds_toArray, List.set_cons_zero, List.set_cons_succ])
          refine wpG_take _ (.int .i64 ((k : Nat) : Int)) rfl (by rfl) (fun _ _ => rfl) ?_
          (try simp only [Act.put, List.setIfInBounds_toArray, List.set_cons_zero, List.set_cons_succ])
          refine wpG_take _ (.int .i64 ((k - 16 : Nat) : Int)) rfl (by rfl) (fun _ _ => ex_subN (c := 16) rfl rfl rfl (by omega) (by omega)) ?_
          (try simp only [Act.put, List.setIfInBounds_toArray, List.set_cons_zero, List.set_cons_succ])
          refine wpG_take _ (.pointer (some ⟨g2, 0 + (k - 16), none⟩)) rfl (by rfl) (fun _ _ => ex_idx rfl rfl rfl rfl (by omega) (by omega)) ?_
          (try simp only [Act.put, List.setIfInBounds_toArray, List.set_cons_zero, List.set_cons_succ])
          refine wpG_take _ (V32 (a16)) rfl (by rfl) (fun W hW => ex_load32 rfl rfl (H16.out W hW)) ?_
          (try simp only [Act.put, List.setIfInBounds_toArray, List.set_cons_zero, List.set_cons_succ])
          refine wpG_take _ (V32 (a15)) rfl (by rfl) (fun _ _ => rfl) ?_
          (try simp only [Act.put, List.setIfInBounds_toArray, List.set_cons_zero, List.set_cons_succ])
          refine wpG_take _ (V32 (a15)) rfl (by rfl) (fun _ _ => rfl) ?_
          (try simp only [Act.put, List.setIfInBounds_toArray, List.set_cons_zero, List.set_cons_succ])
          refine wpG_take _ (V32 (a15)) rfl (by rfl) (fun _ _ => rfl) ?_
          (try simp only [Act.put, List.setIfInBounds_toArray, List.set_cons_zero, List.set_cons_succ])
          refine wpG_take _ (Value.slice (some ⟨g2, 0, none⟩) k cap2) rfl (by rfl) (fun _ _ => rfl) ?_
          (try simp only [Act.put, List.setIfInBounds_toArray, List.set_cons_zero, List.set_cons_succ])
          refine wpG_take _ (.int .i64 ((k : Nat) : Int)) rfl (by rfl) (fun _ _ => rfl) ?_
          (try simp only [Act.put, List.setIfInBounds_toArray, List.set_cons_zero, List.set_cons_succ])
          refine wpG_take _ (.int .i64 ((k - 7 : Nat) : Int)) rfl (by rfl) (fun _ _ => ex_subN (c := 7) rfl rfl rfl (by omega) (by omega)) ?_
          (try simp only [Act.put, List.setIfInBounds_toArray, List.set_cons_zero, List.set_cons_succ])
          refine wpG_take _ (.pointer (some ⟨g2, 0 + (k - 7), none⟩)) rfl (by rfl) (fun _ _ => ex_idx rfl rfl rfl rfl (by omega) (by omega)) ?_
          (try simp only [Act.put, List.setIfInBounds_toArray, List.set_cons_zero, List.set_cons_succ])
          refine wpG_take _ (V32 (a7)) rfl (by rfl) (fun W hW => ex_load32 rfl rfl (H7.out W hW)) ?_
          (try simp only [Act.put, List.setIfInBounds_toArray, List.set_cons_zero, List.set_cons_succ])
          refine wpG_take _ (V32 (a2)) rfl (by rfl) (fun _ _ => rfl) ?_
          (try simp only [Act.put, List.setIfInBounds_toArray, List.set_cons_zero, List.set_cons_succ])
          refine wpG_take _ (V32 (a2)) rfl (by rfl) (fun _ _ => rfl) ?_
          (try simp only [Act.put, List.setIfInBounds_toArray, List.set_cons_zero, List.set_cons_succ])
          refine wpG_take _ (V32 (a2)) rfl (by rfl) (fun _ _ => rfl) ?_
          (try simp only [Act.put, List.setIfInBounds_toArray, List.set_cons_zero, List.set_cons_succ])
          refine wpG_same _ rfl (by rfl) 106 #[V32 (a15), .int .i64 ((7 : Nat) : Int)] (fun _ => by go_simp) (own_words HQ.out.1) (V32 (rot (a15) 7)) (refTurned_any _ 7 (by decide) _) ?_
          (try simp only [Act.put, List.setIfInBounds_toArray, List.set_cons_zero, List.set_cons_succ])
          refine wpG_same _ rfl (by rfl) 106 #[V32 (a15), .int .i64 ((18 : Nat) : Int)] (fun _ => by go_simp) (own_words HQ.out.1) (V32 (rot (a15) 18)) (refTurned_any _ 18 (by decide) _) ?_
          (try simp only [Act.put, List.setIfInBounds_toArray, List.set_cons_zero, List.set_cons_succ])
          refine wpG_take _ (V32 ((rot (a15) 7) ^^^ (rot (a15) 18))) rfl (by rfl) (fun _ _ => ex_xor32 rfl rfl rfl) ?_
          (try simp only [Act.put, List.setIfInBounds_toArray, List.set_cons_zero, List.set_cons_succ])
          refine wpG_same _ rfl (by rfl) 107 #[V32 (a15), .int .i64 ((3 : Nat) : Int)] (fun _ => by go_simp) (own_words HQ.out.1) (V32 (sh (a15) 3)) (refMoved_any _ 3 (by decide) _) ?_
          (try simp only [Act.put, List.setIfInBounds_toArray, List.set_cons_zero, List.set_cons_succ])
          refine wpG_take _ (V32 (((rot (a15) 7) ^^^ (rot (a15) 18)) ^^^ (sh (a15) 3))) rfl (by rfl) (fun _ _ => ex_xor32 rfl rfl rfl) ?_
          (try simp only [Act.put, List.setIfInBounds_toArray, List.set_cons_zero, List.set_cons_succ])
          refine wpG_take _ (V32 ((a16) + (((rot (a15) 7) ^^^ (rot (a15) 18)) ^^^ (sh (a15) 3)))) rfl (by rfl) (fun _ _ => ex_add32 rfl rfl rfl) ?_
          (try simp only [Act.put, List.setIfInBounds_toArray, List.set_cons_zero, List.set_cons_succ])
          refine wpG_take _ (V32 (((a16) + (((rot (a15) 7) ^^^ (rot (a15) 18)) ^^^ (sh (a15) 3))) + (a7))) rfl (by rfl) (fun _ _ => ex_add32 rfl rfl rfl) ?_
          (try simp only [Act.put, List.setIfInBounds_toArray, List.set_cons_zero, List.set_cons_succ])
          refine wpG_same _ rfl (by rfl) 106 #[V32 (a2), .int .i64 ((17 : Nat) : Int)] (fun _ => by go_simp) (own_words HQ.out.1) (V32 (rot (a2) 17)) (refTurned_any _ 17 (by decide) _) ?_
          (try simp only [Act.put, List.setIfInBounds_toArray, List.set_cons_zero, List.set_cons_succ])
          refine wpG_same _ rfl (by rfl) 106 #[V32 (a2), .int .i64 ((19 : Nat) : Int)] (fun _ => by go_simp) (own_words HQ.out.1) (V32 (rot (a2) 19)) (refTurned_any _ 19 (by decide) _) ?_
          (try simp only [Act.put, List.setIfInBounds_toArray, List.set_cons_zero, List.set_cons_succ])
          refine wpG_take _ (V32 ((rot (a2) 17) ^^^ (rot (a2) 19))) rfl (by rfl) (fun _ _ => ex_xor32 rfl rfl rfl) ?_
          (try simp only [Act.put, List.setIfInBounds_toArray, List.set_cons_zero, List.set_cons_succ])
          refine wpG_same _ rfl (by rfl) 107 #[V32 (a2), .int .i64 ((10 : Nat) : Int)] (fun _ => by go_simp) (own_words HQ.out.1) (V32 (sh (a2) 10)) (refMoved_any _ 10 (by decide) _) ?_
          (try simp only [Act.put, List.setIfInBounds_toArray, List.set_cons_zero, List.set_cons_succ])
          refine wpG_take _ (V32 (((rot (a2) 17) ^^^ (rot (a2) 19)) ^^^ (sh (a2) 10))) rfl (by rfl) (fun _ _ => ex_xor32 rfl rfl rfl) ?_
          (try simp only [Act.put, List.setIfInBounds_toArray, List.set_cons_zero, List.set_cons_succ])
          refine wpG_take _ (V32 ((((a16) + (((rot (a15) 7) ^^^ (rot (a15) 18)) ^^^ (sh (a15) 3))) + (a7)) + (((rot (a2) 17) ^^^ (rot (a2) 19)) ^^^ (sh (a2) 10)))) rfl (by rfl) (fun _ _ => ex_add32 rfl rfl rfl) ?_
          (try simp only [Act.put, List.setIfInBounds_toArray, List.set_cons_zero, List.set_cons_succ])
          obtain ⟨X, hX⟩ : ∃ X : BitVec 32, (((a16) + (((rot (a15) 7) ^^^ (rot (a15) 18)) ^^^ (sh (a15) 3))) + (a7)) + (((rot (a2) 17) ^^^ (rot (a2) 19)) ^^^ (sh (a2) 10)) = X := ⟨_, rfl⟩
          have HX := Lib.hid hX
          rw [hX]
          clear hX
          refine wpG_mk _ rfl (by rfl) _ _ (ex_slice1 rfl rfl) (Words g2 0 (Wx pb (k - 16))) ((own_words HQ.out.1).alloc hgq _) (fun _ h => h) ?_
          (try simp only [Act.put, List.setIfInBounds_toArray, List.set_cons_zero, List.set_cons_succ])
          refine wpG_app32 _ rfl (by rfl) (.tmp 47) (.tmp 77) rfl _ rfl w.heap.size (Wx pb (k - 16)) (HQ.out.1.alloc _) X ⟨wr.drew.drew.heap.size, 0, none⟩ 1 rfl (one_at _ _ _ 0 _ rfl) (by rw [HL.out]; omega) (by have h1 : w.heap.size ≤ wr.heap.size := HQ.out.2.size; simp; omega) ?_
          intro v' w1 ho hgr hkp
          refine ⟨hkp _ _ _ rfl, ?_⟩
          have HN := Lib.hid (relN_next HQ.out ho hgr)
          clear ho hgr hkp
          (try simp only [Act.put, List.setIfInBounds_toArray, List.set_cons_zero, List.set_cons_succ])
          refine wpG_take _ (v') rfl (by rfl) (fun _ _ => rfl) ?_
          (try simp only [Act.put, List.setIfInBounds_toArray, List.set_cons_zero, List.set_cons_succ])
          refine wpG_nil ?_
          go_wp2
          go_roundw
          case rel =>
            refine ⟨k + 1, by omega, by omega, by go_num, ?_⟩
            rw [show k + 1 - 16 = k - 16 + 1 by omega, Wx, show 16 + (k - 16) = k by omega, HNX.out]
            rw [← HX.out] at HN
            exact HN.out
          case measure => simp [intOf]; omega
        · obtain rfl : k = 64 := by omega
          have HR := Lib.hid hR
          clear hR hlt hk hk16
          go_wp2
          go_ret
          exact ⟨_, rfl, HR.out⟩
end Go.Proofs.YtkbkmfmekjpleaaDoor
