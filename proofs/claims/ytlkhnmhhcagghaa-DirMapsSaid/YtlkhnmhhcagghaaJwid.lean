/- The document's width of a rune. -/
import Derived.Test.YtlkhnmhhcagghaaJtxt
import Derived.Test.YtlkhnmhhcagghaaRows
import Derived.WalkKit
import Derived.Deep.LoopGhost
import Derived.BigCall
import Derived.Lib.Hide
import Derived.Test.YtlkhnmhhcagghaaJtx3
namespace Go.Proofs.Ytlkhnmhhcagghaa
open Go.RowKit

abbrev str (l : List UInt8) : ByteArray := ⟨l.toArray⟩
theorem str_size (l : List UInt8) : (str l).size = l.length := by simp [ByteArray.size]
theorem str_get (l : List UInt8) (i : Nat) (h : i < (str l).size) : ((str l)[i]'h).toNat = gb l i := by
  have h2 : i < l.length := by rw [← str_size]; exact h
  simp [gb, List.getD_eq_getElem?_getD, h2, str]
  rfl
theorem idx (l : List UInt8) (k : Nat) (hk : k < l.length) (w : World) : (Instr.index 9 (.string (str l)) (.int .i64 (k : Int))).run Try.prog w = .ok (.int .u8 (gb l k : Int)) w := by
  have h := run_index_string (P := Try.prog) w 9 (str l) .i64 (k : Int) Try.underlying9
  rw [h, dif_pos ⟨by omega, by rw [str_size]; omega⟩]
  simp only [Int.toNat_natCast, str_get]
theorem idx' (l : List UInt8) (k : Nat) (b : Int) (hk : k < l.length) (hb : (gb l k : Int) = b) (w : World) : (Instr.index 9 (.string (str l)) (.int .i64 (k : Int))).run Try.prog w = .ok (.int .u8 b) w := by
  rw [idx l k hk, hb]
theorem wrap64_of (b : Int) (h : 0 ≤ b) (h2 : b < 1000000000) : wrap64 b = b := by
  unfold wrap64
  omega
theorem wrap_byte (l : List UInt8) (k : Nat) : wrap64 (gb l k : Int) = (gb l k : Int) := by
  have := gb_lt l k
  exact wrap64_of _ (by omega) (by omega)

def cc (l : List UInt8) (c0 : Int) : Nat → Int
  | 0 => c0
  | i + 1 => 64 * cc l c0 i + gb l (i + 1) - 128
/-- What the document says of a rune of n bytes. -/
noncomputable def wN (l : List UInt8) (n : Nat) (low c0 : Int) : Nat :=
  open Classical in if l.length < n then 0 else if ∃ j, 1 ≤ j ∧ j < n ∧ (gb l j < 128 ∨ 191 < gb l j) then 0
  else if cc l c0 (n - 1) < low ∨ 1114111 < cc l c0 (n - 1) ∨ (55296 ≤ cc l c0 (n - 1) ∧ cc l c0 (n - 1) ≤ 57343) then 0 else n

set_option maxRecDepth 100000 in
set_option maxHeartbeats 2000000 in
theorem width_low (l : List UInt8) (at' : Nat) (h : at' < l.length) (b : Int) (hb : (gb l at' : Int) = b) (h1 : b < 128) (w : World) :
    Calls Try.prog 55 #[.string (str l), .int .i64 (at' : Int)] w fun e w' => e = .returned (.int .i64 1) ∧ w' = w := by
  have hx := idx' l at' b h hb
  have hb2 := gb_lt l at'
  have hw : wrap64 b = b := wrap64_of b (by omega) (by omega)
  clear hb h hb2
  go_enter Try.func55, Try.ntmps55
  go_wp2
  go_ret
  exact ⟨rfl, rfl⟩
set_option maxRecDepth 100000 in
set_option maxHeartbeats 2000000 in
theorem width_bad (l : List UInt8) (at' : Nat) (h : at' < l.length) (b : Int) (hb : (gb l at' : Int) = b) (h1 : 128 ≤ b) (h2 : b < 192) (w : World) :
    Calls Try.prog 55 #[.string (str l), .int .i64 (at' : Int)] w fun e w' => e = .returned (.int .i64 0) ∧ w' = w := by
  have hx := idx' l at' b h hb
  have hb2 := gb_lt l at'
  have hw : wrap64 b = b := wrap64_of b (by omega) (by omega)
  clear hb h hb2
  go_enter Try.func55, Try.ntmps55
  go_wp2
  go_ret
  exact ⟨rfl, rfl⟩
set_option maxRecDepth 100000 in
set_option maxHeartbeats 2000000 in
theorem width_bad2 (l : List UInt8) (at' : Nat) (h : at' < l.length) (b : Int) (hb : (gb l at' : Int) = b) (h2 : 248 ≤ b) (w : World) :
    Calls Try.prog 55 #[.string (str l), .int .i64 (at' : Int)] w fun e w' => e = .returned (.int .i64 0) ∧ w' = w := by
  have hx := idx' l at' b h hb
  have hb2 := gb_lt l at'
  have hw : wrap64 b = b := wrap64_of b (by omega) (by omega)
  clear hb h hb2
  go_enter Try.func55, Try.ntmps55
  go_wp2
  go_ret
  exact ⟨rfl, rfl⟩

def U (k : Nat) : Int := 32 * 64 ^ (k - 1)
theorem U_succ (k : Nat) (h : 1 ≤ k) : U (k + 1) = 64 * U k := by
  unfold U
  rw [show k + 1 - 1 = (k - 1) + 1 from by omega, Int.pow_succ]
  omega
theorem U_le (k : Nat) (h : k ≤ 4) : U k ≤ 8388608 := by
  match k with
  | 0 => decide
  | 1 => decide
  | 2 => decide
  | 3 => decide
  | 4 => decide
theorem idx2 (l : List UInt8) (a k : Nat) (b : Int) (hk : a + k < l.length) (hb : (gb l (a + k) : Int) = b) (w : World) : (Instr.index 9 (.string (str l)) (.int .i64 ((a : Int) + (k : Int)))).run Try.prog w = .ok (.int .u8 b) w := by
  rw [← hb, ← Int.natCast_add]
  exact idx l (a + k) hk w
theorem cc_step (l : List UInt8) (c0 : Int) (k : Nat) (h : 1 ≤ k) : cc l c0 (k + 1 - 1) = 64 * cc l c0 (k - 1) + gb l k - 128 := by
  obtain ⟨m, rfl⟩ : ∃ m, k = m + 1 := ⟨k - 1, by omega⟩
  rfl
theorem wN_short {l : List UInt8} {n : Nat} {low c0 : Int} (h : l.length < n) : wN l n low c0 = 0 := by unfold wN; rw [if_pos h]
theorem wN_not {l : List UInt8} {n : Nat} {low c0 : Int} (j : Nat) (h1 : 1 ≤ j) (h2 : j < n) (h3 : gb l j < 128 ∨ 191 < gb l j) : wN l n low c0 = 0 := by
  unfold wN
  split
  · rfl
  · rw [if_pos ⟨j, h1, h2, h3⟩]
theorem wN_bad {l : List UInt8} {n : Nat} {low c0 c : Int} (hc : c = cc l c0 (n - 1)) (h3 : c < low ∨ 1114111 < c ∨ (55296 ≤ c ∧ c ≤ 57343)) : wN l n low c0 = 0 := by
  unfold wN
  split
  · rfl
  · split
    · rfl
    · rw [← hc, if_pos h3]
theorem wN_good {l : List UInt8} {n : Nat} {low c0 c : Int} (h0 : n ≤ l.length) (h1 : ∀ j, 1 ≤ j → j < n → 128 ≤ gb l j ∧ gb l j ≤ 191) (hc : c = cc l c0 (n - 1)) (h3 : low ≤ c) (h4 : c ≤ 1114111) (h5 : c < 55296 ∨ 57343 < c) : wN l n low c0 = n := by
  unfold wN
  rw [if_neg (by omega), if_neg (by rintro ⟨j, a, b, c⟩; have := h1 j a b; omega), ← hc, if_neg (by omega)]

set_option maxRecDepth 100000 in
set_option maxHeartbeats 4000000 in
theorem width_2 (l : List UInt8) (at' : Nat) (h : at' < l.length) (b : Int) (hb : (gb l at' : Int) = b) (h1 : 192 ≤ b) (h2 : b < 224) (hl : l.length < 1000000) (w : World) :
    Calls Try.prog 55 #[.string (str l), .int .i64 (at' : Int)] w fun e w' => e = .returned (.int .i64 (wN (l.drop at') 2 128 (b - 192))) ∧ w' = w := by
  have hx := idx' l at' b h hb
  have hw : wrap64 b = b := wrap64_of b (by omega) (by omega)
  have hsz := str_size l
  clear hb
  have hlen : (l.drop at').length = l.length - at' := by simp
  have hgb : ∀ j, gb (l.drop at') j = gb l (at' + j) := fun j => gb_drop l at' j
  generalize hl' : l.drop at' = l' at *
  clear hl'
  have HL := Lib.hid hlen
  have HG := Lib.hid hgb
  clear hlen hgb
  go_enter Try.func55, Try.ntmps55
  go_wp2
  · rename_i hs
    go_ret
    refine ⟨?_, rfl⟩
    rw [wN_short (by have := HL.out; omega)]
    rfl
  · rename_i hs
    clear hx
    go_loop [7, 8] (fun c i => ∃ (k : Nat) (cv : Int), 1 ≤ k ∧ k ≤ 2 ∧ i = .int .i64 k ∧ c = .int .i64 cv ∧ 0 ≤ cv ∧ cv < U k ∧ Hid (cv = cc l' (b - 192) (k - 1)) ∧ Hid (∀ j, 1 ≤ j → j < k → 128 ≤ gb l' j ∧ gb l' j ≤ 191)) (fun _ i => 2 - (intOf i).toNat)
    case atStart => exact ⟨1, b - 192, by omega, by omega, rfl, rfl, by omega, by unfold U; omega, Lib.hid rfl, Lib.hid (fun j a c => absurd c (by omega))⟩
    case round =>
      obtain ⟨k, cv, hk1, hkn, rfl, rfl, hc0, hcU, HC, HJ⟩ := hrel
      have hU := U_le k (by omega)
      by_cases hk : k < 2
      · obtain ⟨x, hxv⟩ : ∃ x : Int, (gb l (at' + k) : Int) = x := ⟨_, rfl⟩
        have hx2 := idx2 l at' k x (by omega) hxv
        have hx0 : 0 ≤ x := by omega
        have hx1 : x < 256 := by have := gb_lt l (at' + k); omega
        have hxw : wrap64 x = x := wrap64_of x hx0 (by omega)
        have hxg : x = gb l' k := by rw [HG.out]; exact hxv.symm
        have HX := Lib.hid hxg
        clear hxg hxv
        go_wp2
        · go_ret
          refine ⟨?_, rfl⟩
          rw [wN_not k hk1 hk (by have := HX.out; omega)]
          rfl
        · go_round
          case rel =>
            refine ⟨k + 1, 64 * cv + x - 128, by omega, by omega, by go_num, by go_num, by omega, ?_, Lib.hid ?_, Lib.hid ?_⟩
            · rw [U_succ k hk1]; omega
            · rw [cc_step _ _ _ hk1, ← HC.out, HX.out]
            · intro j a c
              rcases (by omega : j < k ∨ j = k) with d | rfl
              · exact HJ.out j a d
              · have := HX.out; omega
          case measure => simp [intOf]; omega
        · go_ret
          refine ⟨?_, rfl⟩
          rw [wN_not k hk1 hk (by have := HX.out; omega)]
          rfl
      · obtain rfl : k = 2 := by omega
        go_wp2
        all_goals go_ret
        all_goals refine ⟨?_, rfl⟩
        all_goals first
          | (rw [wN_bad HC.out (by omega)]; rfl)
          | (rw [wN_good (by have := HL.out; omega) HJ.out HC.out (by omega) (by omega) (by omega)]; rfl)

set_option maxRecDepth 100000 in
set_option maxHeartbeats 4000000 in
theorem width_3 (l : List UInt8) (at' : Nat) (h : at' < l.length) (b : Int) (hb : (gb l at' : Int) = b) (h1 : 224 ≤ b) (h2 : b < 240) (hl : l.length < 1000000) (w : World) :
    Calls Try.prog 55 #[.string (str l), .int .i64 (at' : Int)] w fun e w' => e = .returned (.int .i64 (wN (l.drop at') 3 2048 (b - 224))) ∧ w' = w := by
  have hx := idx' l at' b h hb
  have hw : wrap64 b = b := wrap64_of b (by omega) (by omega)
  have hsz := str_size l
  clear hb
  have hlen : (l.drop at').length = l.length - at' := by simp
  have hgb : ∀ j, gb (l.drop at') j = gb l (at' + j) := fun j => gb_drop l at' j
  generalize hl' : l.drop at' = l' at *
  clear hl'
  have HL := Lib.hid hlen
  have HG := Lib.hid hgb
  clear hlen hgb
  go_enter Try.func55, Try.ntmps55
  go_wp2
  · rename_i hs
    go_ret
    refine ⟨?_, rfl⟩
    rw [wN_short (by have := HL.out; omega)]
    rfl
  · rename_i hs
    clear hx
    go_loop [7, 8] (fun c i => ∃ (k : Nat) (cv : Int), 1 ≤ k ∧ k ≤ 3 ∧ i = .int .i64 k ∧ c = .int .i64 cv ∧ 0 ≤ cv ∧ cv < U k ∧ Hid (cv = cc l' (b - 224) (k - 1)) ∧ Hid (∀ j, 1 ≤ j → j < k → 128 ≤ gb l' j ∧ gb l' j ≤ 191)) (fun _ i => 3 - (intOf i).toNat)
    case atStart => exact ⟨1, b - 224, by omega, by omega, rfl, rfl, by omega, by unfold U; omega, Lib.hid rfl, Lib.hid (fun j a c => absurd c (by omega))⟩
    case round =>
      obtain ⟨k, cv, hk1, hkn, rfl, rfl, hc0, hcU, HC, HJ⟩ := hrel
      have hU := U_le k (by omega)
      by_cases hk : k < 3
      · obtain ⟨x, hxv⟩ : ∃ x : Int, (gb l (at' + k) : Int) = x := ⟨_, rfl⟩
        have hx2 := idx2 l at' k x (by omega) hxv
        have hx0 : 0 ≤ x := by omega
        have hx1 : x < 256 := by have := gb_lt l (at' + k); omega
        have hxw : wrap64 x = x := wrap64_of x hx0 (by omega)
        have hxg : x = gb l' k := by rw [HG.out]; exact hxv.symm
        have HX := Lib.hid hxg
        clear hxg hxv
        go_wp2
        · go_ret
          refine ⟨?_, rfl⟩
          rw [wN_not k hk1 hk (by have := HX.out; omega)]
          rfl
        · go_round
          case rel =>
            refine ⟨k + 1, 64 * cv + x - 128, by omega, by omega, by go_num, by go_num, by omega, ?_, Lib.hid ?_, Lib.hid ?_⟩
            · rw [U_succ k hk1]; omega
            · rw [cc_step _ _ _ hk1, ← HC.out, HX.out]
            · intro j a c
              rcases (by omega : j < k ∨ j = k) with d | rfl
              · exact HJ.out j a d
              · have := HX.out; omega
          case measure => simp [intOf]; omega
        · go_ret
          refine ⟨?_, rfl⟩
          rw [wN_not k hk1 hk (by have := HX.out; omega)]
          rfl
      · obtain rfl : k = 3 := by omega
        go_wp2
        all_goals go_ret
        all_goals refine ⟨?_, rfl⟩
        all_goals first
          | (rw [wN_bad HC.out (by omega)]; rfl)
          | (rw [wN_good (by have := HL.out; omega) HJ.out HC.out (by omega) (by omega) (by omega)]; rfl)

set_option maxRecDepth 100000 in
set_option maxHeartbeats 4000000 in
theorem width_4 (l : List UInt8) (at' : Nat) (h : at' < l.length) (b : Int) (hb : (gb l at' : Int) = b) (h1 : 240 ≤ b) (h2 : b < 248) (hl : l.length < 1000000) (w : World) :
    Calls Try.prog 55 #[.string (str l), .int .i64 (at' : Int)] w fun e w' => e = .returned (.int .i64 (wN (l.drop at') 4 65536 (b - 240))) ∧ w' = w := by
  have hx := idx' l at' b h hb
  have hw : wrap64 b = b := wrap64_of b (by omega) (by omega)
  have hsz := str_size l
  clear hb
  have hlen : (l.drop at').length = l.length - at' := by simp
  have hgb : ∀ j, gb (l.drop at') j = gb l (at' + j) := fun j => gb_drop l at' j
  generalize hl' : l.drop at' = l' at *
  clear hl'
  have HL := Lib.hid hlen
  have HG := Lib.hid hgb
  clear hlen hgb
  go_enter Try.func55, Try.ntmps55
  go_wp2
  · rename_i hs
    go_ret
    refine ⟨?_, rfl⟩
    rw [wN_short (by have := HL.out; omega)]
    rfl
  · rename_i hs
    clear hx
    go_loop [7, 8] (fun c i => ∃ (k : Nat) (cv : Int), 1 ≤ k ∧ k ≤ 4 ∧ i = .int .i64 k ∧ c = .int .i64 cv ∧ 0 ≤ cv ∧ cv < U k ∧ Hid (cv = cc l' (b - 240) (k - 1)) ∧ Hid (∀ j, 1 ≤ j → j < k → 128 ≤ gb l' j ∧ gb l' j ≤ 191)) (fun _ i => 4 - (intOf i).toNat)
    case atStart => exact ⟨1, b - 240, by omega, by omega, rfl, rfl, by omega, by unfold U; omega, Lib.hid rfl, Lib.hid (fun j a c => absurd c (by omega))⟩
    case round =>
      obtain ⟨k, cv, hk1, hkn, rfl, rfl, hc0, hcU, HC, HJ⟩ := hrel
      have hU := U_le k (by omega)
      by_cases hk : k < 4
      · obtain ⟨x, hxv⟩ : ∃ x : Int, (gb l (at' + k) : Int) = x := ⟨_, rfl⟩
        have hx2 := idx2 l at' k x (by omega) hxv
        have hx0 : 0 ≤ x := by omega
        have hx1 : x < 256 := by have := gb_lt l (at' + k); omega
        have hxw : wrap64 x = x := wrap64_of x hx0 (by omega)
        have hxg : x = gb l' k := by rw [HG.out]; exact hxv.symm
        have HX := Lib.hid hxg
        clear hxg hxv
        go_wp2
        · go_ret
          refine ⟨?_, rfl⟩
          rw [wN_not k hk1 hk (by have := HX.out; omega)]
          rfl
        · go_round
          case rel =>
            refine ⟨k + 1, 64 * cv + x - 128, by omega, by omega, by go_num, by go_num, by omega, ?_, Lib.hid ?_, Lib.hid ?_⟩
            · rw [U_succ k hk1]; omega
            · rw [cc_step _ _ _ hk1, ← HC.out, HX.out]
            · intro j a c
              rcases (by omega : j < k ∨ j = k) with d | rfl
              · exact HJ.out j a d
              · have := HX.out; omega
          case measure => simp [intOf]; omega
        · go_ret
          refine ⟨?_, rfl⟩
          rw [wN_not k hk1 hk (by have := HX.out; omega)]
          rfl
      · obtain rfl : k = 4 := by omega
        go_wp2
        all_goals go_ret
        all_goals refine ⟨?_, rfl⟩
        all_goals first
          | (rw [wN_bad HC.out (by omega)]; rfl)
          | (rw [wN_good (by have := HL.out; omega) HJ.out HC.out (by omega) (by omega) (by omega)]; rfl)

theorem wid_any (l : List UInt8) (at' : Nat) (h : at' < l.length) (hl : l.length < 1000000) (w : World) :
    Calls Try.prog 55 #[.string (str l), .int .i64 (at' : Int)] w fun e w' => e = .returned (.int .i64 (wid (l.drop at'))) ∧ w' = w := by
  have hb := gb_lt l at'
  have h0 : gb (l.drop at') 0 = gb l at' := by rw [gb_drop, Nat.add_zero]
  have hn : 1 ≤ (l.drop at').length := by simp; omega
  have g1 := gb_lt (l.drop at') 1
  have g2 := gb_lt (l.drop at') 2
  have g3 := gb_lt (l.drop at') 3
  rw [wid_N, h0]
  rcases (by omega : gb l at' < 128 ∨ (128 ≤ gb l at' ∧ gb l at' < 192) ∨ 248 ≤ gb l at' ∨ (192 ≤ gb l at' ∧ gb l at' < 224) ∨ (224 ≤ gb l at' ∧ gb l at' < 240) ∨ (240 ≤ gb l at' ∧ gb l at' < 248)) with c | c | c | c | c | c
  · rw [widN_1 _ _ _ _ _ c]
    exact width_low l at' h _ rfl (by omega) w
  · rw [widN_0 _ _ _ _ _ c.1 (.inl c.2) hb]
    exact width_bad l at' h _ rfl (by omega) (by omega) w
  · rw [widN_0 _ _ _ _ _ (by omega) (.inr c) hb]
    exact width_bad2 l at' h _ rfl (by omega) w
  · rw [widN_2 _ _ _ _ _ c.1 c.2 g1]
    refine (width_2 l at' h _ rfl (by omega) (by omega) hl w).mono ?_
    rintro e w' ⟨rfl, rfl⟩
    refine ⟨?_, rfl⟩
    congr 2
    have hc : cc (l.drop at') ((gb l at' : Int) - 192) (2 - 1) = 64 * ((gb l at' : Int) - 192) + gb (l.drop at') 1 - 128 := rfl
    split
    · rename_i d
      by_cases d1 : (l.drop at').length < 2
      · rw [wN_short d1]
      · by_cases d2 : gb (l.drop at') 1 < 128 ∨ 191 < gb (l.drop at') 1
        · rw [wN_not 1 (by omega) (by omega) d2]
        · rw [wN_bad hc.symm (by omega)]
    · rename_i d
      rw [wN_good (by omega) (fun j a b => by have e : j = 1 := (by omega); subst e; omega) hc.symm (by omega) (by omega) (by omega)]
  · rw [widN_3 _ _ _ _ _ c.1 c.2 g1 g2]
    refine (width_3 l at' h _ rfl (by omega) (by omega) hl w).mono ?_
    rintro e w' ⟨rfl, rfl⟩
    refine ⟨?_, rfl⟩
    congr 2
    have hc : cc (l.drop at') ((gb l at' : Int) - 224) (3 - 1) = 64 * (64 * ((gb l at' : Int) - 224) + gb (l.drop at') 1 - 128) + gb (l.drop at') 2 - 128 := rfl
    split
    · rename_i d
      by_cases d1 : (l.drop at').length < 3
      · rw [wN_short d1]
      · by_cases d2 : gb (l.drop at') 1 < 128 ∨ 191 < gb (l.drop at') 1
        · rw [wN_not 1 (by omega) (by omega) d2]
        · by_cases d3 : gb (l.drop at') 2 < 128 ∨ 191 < gb (l.drop at') 2
          · rw [wN_not 2 (by omega) (by omega) d3]
          · rw [wN_bad hc.symm (by omega)]
    · rename_i d
      rw [wN_good (by omega) (fun j a b => by rcases (by omega : j = 1 ∨ j = 2) with rfl | rfl <;> omega) hc.symm (by omega) (by omega) (by omega)]
  · rw [widN_4 _ _ _ _ _ c.1 c.2 g1 g2 g3]
    refine (width_4 l at' h _ rfl (by omega) (by omega) hl w).mono ?_
    rintro e w' ⟨rfl, rfl⟩
    refine ⟨?_, rfl⟩
    congr 2
    have hc : cc (l.drop at') ((gb l at' : Int) - 240) (4 - 1) = 64 * (64 * (64 * ((gb l at' : Int) - 240) + gb (l.drop at') 1 - 128) + gb (l.drop at') 2 - 128) + gb (l.drop at') 3 - 128 := rfl
    split
    · rename_i d
      by_cases d1 : (l.drop at').length < 4
      · rw [wN_short d1]
      · by_cases d2 : gb (l.drop at') 1 < 128 ∨ 191 < gb (l.drop at') 1
        · rw [wN_not 1 (by omega) (by omega) d2]
        · by_cases d3 : gb (l.drop at') 2 < 128 ∨ 191 < gb (l.drop at') 2
          · rw [wN_not 2 (by omega) (by omega) d3]
          · by_cases d4 : gb (l.drop at') 3 < 128 ∨ 191 < gb (l.drop at') 3
            · rw [wN_not 3 (by omega) (by omega) d4]
            · rw [wN_bad hc.symm (by omega)]
    · rename_i d
      rw [wN_good (by omega) (fun j a b => by rcases (by omega : j = 1 ∨ j = 2 ∨ j = 3) with rfl | rfl | rfl <;> omega) hc.symm (by omega) (by omega) (by omega)]
end Go.Proofs.Ytlkhnmhhcagghaa
