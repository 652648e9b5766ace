/- The program's faults, names, runes. -/
import Derived.Test.YtlkhnmhhcagghaaJrfa
import Derived.Test.YtlkhnmhhcagghaaJlib
import Derived.Deep.Light
namespace Go.Proofs.Ytlkhnmhhcagghaa
open Go.RowKit

theorem decode_str (l : List UInt8) (pos : Nat) : Utf8.decode (str l) pos = decL (l.drop pos) := by
  rw [Lib.decode_at]
  have hg : ∀ k, ((str l).get! (pos + k)).toNat = gb (l.drop pos) k := by
    intro k
    rw [gb_drop]
    show ((str l).get! (pos + k)).toNat = _
    unfold gb
    simp only [str, ByteArray.get!, List.getD_eq_getElem?_getD]
    simp [Array.getElem!_eq_getD, Array.getD_eq_getD_getElem?]
    rfl
  have h0 := hg 0
  rw [Nat.add_zero] at h0
  unfold decL
  rw [h0, hg 1, hg 2, hg 3, str_size, List.length_drop]

theorem hasPrefix_fffd (l : List UInt8) : Lib.hasPrefix l [239, 191, 189] = decide (3 ≤ l.length ∧ gb l 0 = 239 ∧ gb l 1 = 191 ∧ gb l 2 = 189) := by
  match l with
  | [] => rfl
  | [a] =>
    show ((239 : UInt8) == a && false) = _
    simp
  | [a, b] =>
    show ((239 : UInt8) == a && ((191 : UInt8) == b && false)) = _
    simp
  | a :: b :: c :: r =>
    show ((239 : UInt8) == a && ((191 : UInt8) == b && ((189 : UInt8) == c && true))) = _
    have e : ∀ (x : UInt8) (n : Nat) (y : UInt8), y.toNat = n → ((y == x) = decide (x.toNat = n)) := by
      intro x n y hy
      by_cases h : y = x
      · subst h; simp [hy]
      · have : ¬ x.toNat = n := fun h2 => h (UInt8.toNat_inj.1 (by rw [hy, h2]))
        simp [h, this]
    rw [e a 239 239 rfl, e b 191 191 rfl, e c 189 189 rfl]
    have h0 : gb (a :: b :: c :: r) 0 = a.toNat := rfl
    have h1 : gb (a :: b :: c :: r) 1 = b.toNat := rfl
    have h2 : gb (a :: b :: c :: r) 2 = c.toNat := rfl
    rw [h0, h1, h2]
    simp
set_option maxHeartbeats 4000000 in
theorem decN_fffd' (n b0 b1 b2 b3 v u : Nat) (h0 : b0 < 256) (h1 : b1 < 256) (h2 : b2 < 256) (h3 : b3 < 256) (h : Lib.decodeN n b0 b1 b2 b3 = (v, u)) (hv : v = 65533) :
    u = 1 ↔ ¬ (3 ≤ n ∧ b0 = 239 ∧ b1 = 191 ∧ b2 = 189) := by
  unfold Lib.decodeN at h
  repeat' split at h
  all_goals simp only [Prod.mk.injEq] at h
  all_goals omega
theorem decN_fffd (n b0 b1 b2 b3 : Nat) (h0 : b0 < 256) (h1 : b1 < 256) (h2 : b2 < 256) (h3 : b3 < 256) (h : (Lib.decodeN n b0 b1 b2 b3).1 = 65533) :
    Lib.decodeN n b0 b1 b2 b3 = (65533, 1) ↔ ¬ (3 ≤ n ∧ b0 = 239 ∧ b1 = 191 ∧ b2 = 189) := by
  obtain ⟨v, u, hvu⟩ : ∃ v u, Lib.decodeN n b0 b1 b2 b3 = (v, u) := ⟨_, _, rfl⟩
  rw [hvu] at h ⊢
  have hv : v = 65533 := h
  rw [← decN_fffd' n b0 b1 b2 b3 v u h0 h1 h2 h3 hvu hv, hv]
  simp
theorem fffd_iff (l : List UInt8) (h : (decL l).1 = 65533) : decL l = (65533, 1) ↔ ¬ (3 ≤ l.length ∧ gb l 0 = 239 ∧ gb l 1 = 191 ∧ gb l 2 = 189) :=
  decN_fffd _ _ _ _ _ (gb_lt _ _) (gb_lt _ _) (gb_lt _ _) (gb_lt _ _) h
theorem nmSliceFrom (l : List UInt8) (k : Nat) (hk : k ≤ l.length) (w : World) : (Instr.slice 9 (.string (str l)) (some (.int .i64 (k : Int))) none none).run Try.prog w = .ok (.string (str (l.drop k))) w := by
  rw [run_slice_string_from_if (P := Try.prog) w 9 (str l) .i64 (k : Int) Try.underlying9, if_pos ⟨by omega, by rw [str_size]; omega⟩]
  congr 2
  rw [str_size, Int.toNat_natCast, ByteArray.extract_mk, List.take_of_length_le (by simp)]

set_option maxRecDepth 100000 in
set_option maxHeartbeats 4000000 in
theorem pFault_any (nm : Bool) (l : List UInt8) (hl : l.length < 1000000) (w : World) :
    Calls Try.prog 44 #[.string (str l), .bool nm] w fun e w' => e = .returned (.int .i64 (flt nm l)) ∧ ∃ p, w' = w.iter (str l) p := by
  have hsz := str_size l
  go_enter Try.func44, Try.ntmps44
  go_wp2_with fail
  go_loopw [] (fun wr => ∃ k : Nat, wr = w.iter (str l) k ∧ k ≤ l.length ∧ Hid (flt nm (l.drop k) = flt nm l)) (fun wr => l.length - wr.iterPos w.heap.size)
  case atStart => exact ⟨0, rfl, by omega, Lib.hid rfl⟩
  case round =>
    obtain ⟨k, rfl, hk, HF⟩ := hrel
    by_cases hlt : k < l.length
    · have hne := drop_ne hlt
      have hstep := flt_step nm hne
      rw [List.drop_drop] at hstep
      have hpos := decL_pos hne
      rw [List.length_drop] at hpos
      have hnx : ∀ ty, (Instr.next (.pointer (some ⟨w.heap.size, 0, none⟩)) true ty).run Try.prog (w.iter (str l) k) = _ := fun ty => run_next_any w (str l) k ty (by rw [str_size]; exact hlt)
      rw [decode_str] at hnx
      have hsl := nmSliceFrom l k hk
      have hfff := fffd_iff (l.drop k)
      rw [← decide_eq_true_iff (p := 3 ≤ (l.drop k).length ∧ _), ← hasPrefix_fffd] at hfff
      obtain ⟨r, hr⟩ : ∃ r : Nat, (decL (l.drop k)).1 = r := ⟨_, rfl⟩
      obtain ⟨d, hd⟩ : ∃ d : Nat, (decL (l.drop k)).2 = d := ⟨_, rfl⟩
      have hde : decL (l.drop k) = (r, d) := by rw [← hr, ← hd]
      rw [hd] at hpos
      rw [hde, HF.out] at hstep
      rw [hde] at hnx hfff
      have HS := Lib.hid hstep
      have HP := Lib.hid hfff
      clear hstep hd hr hde hfff
      go_wp2_with (go_at_call 50; refine (Try.strings_HasPrefix _ _ _).mono ?_; rintro e w' ⟨rfl, rfl⟩)
      · have h1 : ((r : Int) == 65533) = true := by assumption
        have h2 : (!Lib.hasPrefix (List.drop k l) [239, 191, 189]) = true := by assumption
        go_ret
        have h3 := HS.out
        have hr : r = 65533 := by simp at h1; omega
        rw [if_pos ((HP.out hr).2 (by simpa using h2))] at h3
        rw [h3]
        exact ⟨rfl, _, rfl⟩
      · have h1 : ((r : Int) == 65533) = true := by assumption
        have h2 : (!Lib.hasPrefix (List.drop k l) [239, 191, 189]) = false := by assumption
        have h3 := HS.out
        have hr : r = 65533 := by simp at h1; omega
        rw [if_neg (fun e => (HP.out hr).1 e (by simpa using h2)), if_neg (by omega)] at h3
        have H3 := Lib.hid h3.symm
        clear h3 hr h1 h2
        go_roundw
        case rel => exact ⟨k + d, rfl, by omega, H3⟩
        case measure => simp; omega
      · have h1 : ((r : Int) == 65533) = false := by assumption
        have h2 : ((r : Int) == 0) = true := by assumption
        go_ret
        have h3 := HS.out
        rw [if_neg (by intro e; simp at h1; simp at e; omega), if_pos (.inl (by simp at h2; omega))] at h3
        rw [h3]
        exact ⟨rfl, _, rfl⟩
      · rename_i hnm
        have h1 : ((r : Int) == 65533) = false := by assumption
        have h2 : ((r : Int) == 47) = true := by assumption
        go_ret
        have h3 := HS.out
        have hn : nm = true := by assumption
        rw [if_neg (by intro e; simp at h1; simp at e; omega), if_pos (.inr ⟨hn, by simp at h2; omega⟩), hn] at h3
        rw [h3]
        exact ⟨rfl, _, rfl⟩
      · have h1 : ((r : Int) == 65533) = false := by assumption
        have h2 : ((r : Int) == 0) = false := by assumption
        have hn : nm = false := by assumption
        have h3 := HS.out
        rw [if_neg (by intro e; simp at h1; simp at e; omega), if_neg (by rintro (e | e); (simp at h2; omega); (rw [hn] at e; cases e.1))] at h3
        have H3 := Lib.hid h3.symm
        clear h3 h1 h2 hn
        go_roundw
        case rel => exact ⟨k + d, rfl, by omega, H3⟩
        case measure => simp; omega
      · have h1 : ((r : Int) == 65533) = false := by assumption
        have h2 : ((r : Int) == 0) = false := by assumption
        have hn : ((r : Int) == 47) = false := by assumption
        have h3 := HS.out
        rw [if_neg (by intro e; simp at h1; simp at e; omega), if_neg (by rintro (e | e); (simp at h2; omega); (simp at hn; omega))] at h3
        have H3 := Lib.hid h3.symm
        clear h3 h1 h2 hn
        go_roundw
        case rel => exact ⟨k + d, rfl, by omega, H3⟩
        case measure => simp; omega
    · obtain rfl : k = l.length := by omega
      have hnx : ∀ ty, (Instr.next (.pointer (some ⟨w.heap.size, 0, none⟩)) true ty).run Try.prog (w.iter (str l) l.length) = _ := fun ty => run_next_end w (str l) l.length ty (by rw [str_size]; omega)
      have h0 : flt nm l = 0 := by
        rw [← HF.out, List.drop_length]
        rfl
      have H0 := Lib.hid h0
      clear h0
      go_wp2_with fail
      go_ret
      rw [H0.out]
      exact ⟨rfl, _, rfl⟩

set_option maxRecDepth 100000 in
set_option maxHeartbeats 4000000 in
theorem pCheck_any (l : List UInt8) (hl : l.length < 1000000) (w : World) :
    Calls Try.prog 31 #[.string (str l)] w fun e w' => e = .returned (.int .i64 (errC l)) ∧ ∃ p, w' = w.iter (str l) p := by
  have hsz := str_size l
  obtain ⟨v, hv⟩ : ∃ v : Nat, flt true l = v := ⟨_, rfl⟩
  have HV := Lib.hid hv
  have HC : Hid (errC l = if v ≠ 0 then v else if l = [] ∨ l = [46] ∨ l = [46, 46] then 26 else if 24 < l.length then 33 else 0) := Lib.hid (by unfold errC; rw [hv])
  clear hv
  go_enter Try.func31, Try.ntmps31
  go_wp2_with (go_at_call 44; refine (pFault_any true l hl _).mono ?_; rintro e w' ⟨rfl, p, rfl⟩; rw [HV.out])
  all_goals
    go_ret
    refine ⟨?_, p, rfl⟩
    rw [HC.out]
    clear HC
    go_light
    have hv0 : v ≠ 0 ↔ ((v : Int) != 0) = true := by simp
    have hl0 : l = [] ↔ l.isEmpty = true := by simp
    have hl1 : l = [46] ↔ (l == [46]) = true := by simp
    have hl2 : l = [46, 46] ↔ (l == [46, 46]) = true := by simp
    have hl3 : 24 < l.length ↔ 24 < (l.length : Int) := by omega
    simp only [hv0, hl0, hl1, hl2, hl3]
    clear hv0 hl0 hl1 hl2 hl3 HV hsz hl
    simp_all
    try (rw [if_neg (by omega)]; rfl)
end Go.Proofs.Ytlkhnmhhcagghaa
