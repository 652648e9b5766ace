/- The document's Join. -/
import Derived.Test.YtchjioknobmegaaJnp
namespace Go.Proofs.Ytchjioknobmegaa
open Go.RowKit

theorem add_run (a b : List UInt8) (h : a.length ≤ 1000000) (h2 : b.length ≤ 1000000) (w : World) : (Op.stringOp .add (str a) (str b)).run Try.prog w = .ok (.string (str (a ++ b))) w := run_string_add_lists w a b (by omega) (by omega)
/-- What the document's Join has. -/
structure Jr (n : Nat) (w : World) (a s : Bool) (v : Value) (g o : Nat) (ls : List (List UInt8)) (wr : World) : Prop where
  bx : Bx wr n 32 a v s
  txs : Txs g o ls wr
  bel : Below n w wr
set_option maxRecDepth 100000 in
set_option maxHeartbeats 4000000 in
theorem rjoin_any (a s : Bool) (v : Value) (ls : List (List UInt8)) (hls : wt ls < 100000) (w : World) (hv : Src w v ls) : Calls Try.prog 17 #[.agg #[.bool a, v, .bool s]] w fun e w' => e = .returned (.string (str (joinL a ls s))) ∧ Below w.heap.size w w' := by
  obtain ⟨sp, c, rfl, hc, hm, h1⟩ := hv
  have hlen := len_wt ls
  by_cases hne : ls = []
  · subst hne
    cases a
    · go_enter Try.func17, Try.ntmps17
      go_wp2_with fail
      go_loop [3, 4] (fun t i => t = VS [] ∧ i = .int .i64 0) (fun _ _ => 0)
      case atStart => exact ⟨rfl, rfl⟩
      case round =>
        obtain ⟨rfl, rfl⟩ := hrel
        go_wp2_with fail
        go_ret
        exact ⟨rfl, (Below.refl _ w).alloc (Nat.le_refl _) _⟩
    · go_enter Try.func17, Try.ntmps17
      go_wp2_with fail
      go_loop [3, 4] (fun t i => t = VS [] ∧ i = .int .i64 0) (fun _ _ => 0)
      case atStart => exact ⟨rfl, rfl⟩
      case round =>
        obtain ⟨rfl, rfl⟩ := hrel
        go_wp2_with fail
        go_ret
        exact ⟨rfl, (Below.refl _ w).alloc (Nat.le_refl _) _⟩
  obtain ⟨g, o, rfl, hg, ht⟩ := h1 hne
  have hpos : 0 < ls.length := by cases ls <;> simp_all
  have hnz : ((ls.length : Int) == 0) = false := by simp; omega
  go_enter Try.func17, Try.ntmps17
  go_wp2_with fail
  have hJ : Jr w.heap.size w a s (.slice (some ⟨g, o, none⟩) ls.length c) g o ls (w.alloc (.cells #[.bool a, .slice (some ⟨g, o, none⟩) ls.length c, .bool s] 32)) := by
    have hb : Below w.heap.size w (w.alloc (.cells #[.bool a, .slice (some ⟨g, o, none⟩) ls.length c, .bool s] 32)) := (Below.refl _ w).alloc (Nat.le_refl _) _
    exact ⟨heap_alloc_new w _, ht.below hb hg, hb⟩
  generalize w.alloc (.cells #[.bool a, .slice (some ⟨g, o, none⟩) ls.length c, .bool s] 32) = W at hJ ⊢
  have c0 := hJ.bx.c0
  have c1 := hJ.bx.c1
  have c2 := hJ.bx.c2
  have HJ := Lib.hid hJ
  clear hJ ht h1
  go_loop [3, 4] (fun t i => ∃ k : Nat, i = .int .i64 k ∧ k ≤ ls.length ∧ t = VS (inter (ls.take k))) (fun _ i => ls.length - (intOf i).toNat)
  case atStart => exact ⟨0, rfl, by omega, rfl⟩
  case round =>
    obtain ⟨k, rfl, hk, rfl⟩ := hrel
    have hil := inter_len (ls.take k)
    have hwt := wt_take ls k
    by_cases hlt : k < ls.length
    · have hcell := HJ.out.txs k hlt
      have hgl := get_le ls k hlt
      have hst := inter_step ls k hlt
      generalize hq : ls.getD k [] = q at hcell hgl hst
      have HST := Lib.hid hst
      clear hq hst
      by_cases hk0 : k = 0
      · subst hk0
        rw [Nat.add_zero] at hcell
        have ha := add_run [] q (by simp) (by omega)
        have h00 : inter (ls.take 0) = [] := rfl
        rw [h00]
        have he : inter (ls.take 1) = q := HST.out.trans (by simp)
        have HE := Lib.hid he
        clear he h00
        go_wp2_with fail
        go_round
        case rel => exact ⟨1, by go_num, by omega, by rw [HE.out]⟩
        case measure => simp [intOf]; omega
      · have hk1 : 0 < k := by omega
        generalize inter (ls.take k) = acc at hil HST ⊢
        have ha := add_run acc [47] (by omega) (by simp)
        have ha2 := add_run (acc ++ [47]) q (by simp; omega) (by omega)
        have he : inter (ls.take (k + 1)) = acc ++ [47] ++ q := by rw [HST.out, if_neg hk0]; simp
        have HE := Lib.hid he
        clear he
        go_wp2_with fail
        go_round
        case rel => exact ⟨k + 1, by go_num, by omega, by rw [HE.out]; simp⟩
        case measure => simp [intOf]; omega
    · obtain rfl : k = ls.length := by omega
      rw [List.take_length] at hil ⊢
      have hcell := HJ.out.txs (ls.length - 1) (by omega)
      have hlast : ls.getD (ls.length - 1) [] = ls.getLastD [] := by
        rw [List.getD_eq_getElem?_getD, List.getLastD_eq_getLast?, List.getLast?_eq_getElem?]
      rw [hlast] at hcell
      have hj : joinL a ls s = (if a = true then [47] else []) ++ inter ls ++ (if (s && !(ls.getLastD [] == [46, 46])) = true then [47] else []) := by unfold joinL; rw [if_neg hne]
      generalize ls.getLastD [] = q at hcell hj
      generalize inter ls = acc at hil hj ⊢
      have HJL := Lib.hid hj
      have hidx : ((o + (ls.length - 1) : Nat) : Int) = (o : Int) + ((ls.length : Int) - 1) := by omega
      have ha1 := add_run acc [47] (by omega) (by simp)
      have ha2 := add_run [47] acc (by simp) (by omega)
      have ha3 := add_run [47] (acc ++ [47]) (by simp) (by simp; omega)
      clear hj hlast
      cases s
      · cases a
        · go_wp2_with fail
          go_ret
          rw [HJL.out]
          exact ⟨by simp, HJ.out.bel⟩
        · go_wp2_with fail
          go_ret
          rw [HJL.out]
          exact ⟨by simp, HJ.out.bel⟩
      · cases a
        · go_wp2_with fail
          · have hq : (!q == [46, 46]) = true := by assumption
            go_ret
            rw [HJL.out]
            exact ⟨by simp [hq], HJ.out.bel⟩
          · have hq : (!q == [46, 46]) = false := by assumption
            go_ret
            rw [HJL.out]
            exact ⟨by simp [hq], HJ.out.bel⟩
        · go_wp2_with fail
          · have hq : (!q == [46, 46]) = true := by assumption
            go_ret
            rw [HJL.out]
            exact ⟨by simp [hq], HJ.out.bel⟩
          · have hq : (!q == [46, 46]) = false := by assumption
            go_ret
            rw [HJL.out]
            exact ⟨by simp [hq], HJ.out.bel⟩
end Go.Proofs.Ytchjioknobmegaa
