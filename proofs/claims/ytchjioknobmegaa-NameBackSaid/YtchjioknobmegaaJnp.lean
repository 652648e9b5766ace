/- The program's Join. -/
import Derived.Test.YtchjioknobmegaaSme
import Derived.Test.YtchjioknobmegaaBld
namespace Go.Proofs.Ytchjioknobmegaa
open Go.RowKit

theorem inter_len (L : List (List UInt8)) : (inter L).length ≤ wt L := by
  induction L with
  | nil => simp [inter]
  | cons p L ih =>
    cases L with
    | nil => simp [inter, wt]
    | cons q L =>
      rw [wt_cons]
      show (p ++ 47 :: inter (q :: L)).length ≤ _
      simp
      omega
theorem wt_take (L : List (List UInt8)) (k : Nat) : wt (L.take k) ≤ wt L := by
  have h := wt_append (L.take k) (L.drop k)
  rw [List.take_append_drop] at h
  omega
theorem get_le (L : List (List UInt8)) (k : Nat) (hk : k < L.length) : (L.getD k []).length + 1 + wt (L.take k) ≤ wt L := by
  have h1 := take_succ' hk rfl
  have h2 := wt_take L (k + 1)
  rw [h1, wt_append, wt_one] at h2
  omega
theorem inter_step (L : List (List UInt8)) (k : Nat) (hk : k < L.length) : inter (L.take (k + 1)) = if k = 0 then L.getD k [] else inter (L.take k) ++ 47 :: L.getD k [] := by
  rw [take_succ' hk rfl]
  split
  · rename_i h; subst h; rfl
  · rename_i h
    refine inter_snoc _ _ ?_
    intro e
    have := congrArg List.length e
    simp at this
    rcases this with h1 | h1
    · exact h h1
    · subst h1; simp at hk

/-- What Join has. -/
structure Jn (n : Nat) (w : World) (a s : Bool) (v : Value) (g o : Nat) (ls : List (List UInt8)) (acc : List UInt8) (wr : World) : Prop where
  bx : Bx wr n 29 a v s
  txs : Txs g o ls wr
  bd : Bd wr (n + 1) (n + 1) acc
  bel : Below n w wr
theorem Jn.go {n g o : Nat} {w wr w2 : World} {a s : Bool} {v : Value} {ls : List (List UInt8)} {acc acc2 : List UInt8} (h : Jn n w a s v g o ls acc wr) (hg : g < n) (hd : Bd w2 (n + 1) (n + 1) acc2) (hb : Below (n + 1) wr w2) : Jn n w a s v g o ls acc2 w2 :=
  ⟨h.bx.of (hb.block n (by omega)), h.txs.below hb (by omega), hd, h.bel.trans (hb.mono (by omega))⟩
theorem Jn.size {n g o : Nat} {w wr : World} {a s : Bool} {v : Value} {ls : List (List UInt8)} {acc : List UInt8} (h : Jn n w a s v g o ls acc wr) : n + 1 ≤ wr.heap.size := h.bx.lt

set_option maxRecDepth 100000 in
set_option maxHeartbeats 4000000 in
theorem join_any (a s : Bool) (v : Value) (ls : List (List UInt8)) (hls : wt ls < 100000) (w : World) (hv : Src w v ls) : Calls Try.prog 16 #[.agg #[.bool a, v, .bool s]] w fun e w' => e = .returned (.string (str (joinL a ls s))) ∧ Below w.heap.size w w' := by
  obtain ⟨sp, c, rfl, hc, hm, h1⟩ := hv
  have hlen := len_wt ls
  by_cases hne : ls = []
  · subst hne
    cases a
    · go_enter Try.func16, Try.ntmps16
      go_wp2_with fail
      go_ret
      exact ⟨rfl, (Below.refl _ w).alloc (Nat.le_refl _) _⟩
    · go_enter Try.func16, Try.ntmps16
      go_wp2_with fail
      go_ret
      exact ⟨rfl, (Below.refl _ w).alloc (Nat.le_refl _) _⟩
  obtain ⟨g, o, rfl, hg, ht⟩ := h1 hne
  have hpos : 0 < ls.length := by cases ls <;> simp_all
  have hnz : ((ls.length : Int) == 0) = false := by simp; omega
  have hJ0 : Jn w.heap.size w a s (.slice (some ⟨g, o, none⟩) ls.length c) g o ls [] ((w.alloc (.cells #[.bool a, .slice (some ⟨g, o, none⟩) ls.length c, .bool s] 29)).alloc (.cells #[.pointer none, .slice none 0 0] 48)) := by
    have hb : Below w.heap.size w ((w.alloc (.cells #[.bool a, .slice (some ⟨g, o, none⟩) ls.length c, .bool s] 29)).alloc (.cells #[.pointer none, .slice none 0 0] 48)) := ((Below.refl _ w).alloc (Nat.le_refl _) _).alloc (by simp) _
    refine ⟨Bx.of (heap_alloc_new w _) (Below.heap_alloc _ _ _ (by simp)), ht.below hb hg, ?_, hb⟩
    have := Lib.IsBuilderF.of (Lib.fresh_isBuilder 48 5 (w.alloc (.cells #[.bool a, .slice (some ⟨g, o, none⟩) ls.length c, .bool s] 29)))
    rw [show (w.alloc (.cells #[.bool a, .slice (some ⟨g, o, none⟩) ls.length c, .bool s] 29)).heap.size = w.heap.size + 1 from by simp] at this
    exact this
  have HJ0 := Lib.hid hJ0
  clear hJ0 ht h1
  cases a
  · go_enter Try.func16, Try.ntmps16
    go_wp2_with fail
    have HJ : Hid (Jn w.heap.size w false s (.slice (some ⟨g, o, none⟩) ls.length c) g o ls ([] ++ inter (ls.take 0)) _) := HJ0
    go_loopw [20] (fun i wr => ∃ k : Nat, i = .int .i64 k ∧ k ≤ ls.length ∧ Hid (Jn w.heap.size w false s (.slice (some ⟨g, o, none⟩) ls.length c) g o ls ([] ++ inter (ls.take k)) wr)) (fun i _ => ls.length - (intOf i).toNat)
    case atStart => exact ⟨0, rfl, by omega, HJ⟩
    case round =>
      obtain ⟨k, rfl, hk, HR⟩ := hrel
      have hil := inter_len (ls.take k)
      have hwt := wt_take ls k
      by_cases hlt : k < ls.length
      · have hcell := HR.out.txs k hlt
        have hgl := get_le ls k hlt
        have hst := inter_step ls k hlt
        generalize hq : ls.getD k [] = q at hcell hgl hst
        have HST := Lib.hid hst
        clear hq hst
        by_cases hk0 : k = 0
        · subst hk0
          rw [Nat.add_zero] at hcell
          go_wp2_with fail
          refine (writeString_any (w.heap.size + 1) (w.heap.size + 1) ([] ++ inter (ls.take 0)) q _ HR.out.bd (by rw [List.length_append]; simp only [List.length_cons, List.length_nil]; omega) HR.out.size).mono ?_
          rintro e w3 ⟨⟨v3, rfl⟩, hd3, hb3⟩
          have hR2 := HR.out.go hg hd3 hb3
          rw [show [] ++ inter (ls.take 0) ++ q = [] ++ inter (ls.take (0 + 1)) from by rw [HST.out]; simp [inter]] at hR2
          have HR2 := Lib.hid hR2
          clear hR2 hd3 hb3
          go_wp2_with fail
          go_roundw
          case rel => exact ⟨1, by go_num, by omega, HR2⟩
          case measure => simp [intOf]; omega
        · have hk1 : 0 < k := by omega
          go_wp2_with fail
          refine (writeSlash_any (w.heap.size + 1) (w.heap.size + 1) ([] ++ inter (ls.take k)) _ HR.out.bd (by simp; omega) HR.out.size).mono ?_
          rintro e w2 ⟨⟨v2, rfl⟩, hd2, hb2⟩
          have HR1 := Lib.hid (HR.out.go hg hd2 hb2)
          clear hd2 hb2
          go_wp2_with fail
          refine (writeString_any (w.heap.size + 1) (w.heap.size + 1) ([] ++ inter (ls.take k) ++ [47]) q _ HR1.out.bd (by simp; omega) HR1.out.size).mono ?_
          rintro e w3 ⟨⟨v3, rfl⟩, hd3, hb3⟩
          have hR2 := HR1.out.go hg hd3 hb3
          rw [show [] ++ inter (ls.take k) ++ [47] ++ q = [] ++ inter (ls.take (k + 1)) from by rw [HST.out, if_neg hk0]; simp] at hR2
          have HR2 := Lib.hid hR2
          clear hR2 hd3 hb3
          go_wp2_with fail
          go_roundw
          case rel => exact ⟨k + 1, by go_num, by omega, HR2⟩
          case measure => simp [intOf]; omega
      · obtain rfl : k = ls.length := by omega
        have hR := HR.out
        rw [List.take_length] at hR hil
        have c2 := hR.bx.c2
        have c1 := hR.bx.c1
        have hcell := hR.txs (ls.length - 1) (by omega)
        have hlast : ls.getD (ls.length - 1) [] = ls.getLastD [] := by
          rw [List.getD_eq_getElem?_getD, List.getLastD_eq_getLast?, List.getLast?_eq_getElem?]
        rw [hlast] at hcell
        have hj : joinL false ls s = [] ++ inter ls ++ (if (s && !(ls.getLastD [] == [46, 46])) = true then [47] else []) := by unfold joinL; rw [if_neg hne]; rfl
        generalize ls.getLastD [] = q at hcell hj
        have HJL := Lib.hid hj
        have HRR := Lib.hid hR
        clear hR hj hlast HR
        have hidx : ((o + (ls.length - 1) : Nat) : Int) = (o : Int) + ((ls.length : Int) - 1) := by omega
        cases s
        · go_wp2_with fail
          refine (string_any (w.heap.size + 1) (w.heap.size + 1) _ _ HRR.out.bd HRR.out.size).mono ?_
          rintro e w3 ⟨rfl, hb3⟩
          have HB := Lib.hid (HRR.out.bel.trans (hb3.mono (by omega)))
          clear hb3
          go_wp2_with fail
          go_ret
          rw [HJL.out]
          exact ⟨by simp, HB.out⟩
        · go_wp2_with fail
          · have hq : (!q == [46, 46]) = true := by assumption
            refine (writeSlash_any (w.heap.size + 1) (w.heap.size + 1) _ _ HRR.out.bd (by simp; omega) HRR.out.size).mono ?_
            rintro e w2 ⟨⟨v2, rfl⟩, hd2, hb2⟩
            have HR2 := Lib.hid (HRR.out.go hg hd2 hb2)
            clear hd2 hb2
            go_wp2_with fail
            refine (string_any (w.heap.size + 1) (w.heap.size + 1) _ _ HR2.out.bd HR2.out.size).mono ?_
            rintro e w3 ⟨rfl, hb3⟩
            have HB := Lib.hid (HR2.out.bel.trans (hb3.mono (by omega)))
            clear hb3
            go_wp2_with fail
            go_ret
            rw [HJL.out]
            exact ⟨by simp [hq], HB.out⟩
          · have hq : (!q == [46, 46]) = false := by assumption
            refine (string_any (w.heap.size + 1) (w.heap.size + 1) _ _ HRR.out.bd HRR.out.size).mono ?_
            rintro e w3 ⟨rfl, hb3⟩
            have HB := Lib.hid (HRR.out.bel.trans (hb3.mono (by omega)))
            clear hb3
            go_wp2_with fail
            go_ret
            rw [HJL.out]
            exact ⟨by simp [hq], HB.out⟩
  · go_enter Try.func16, Try.ntmps16
    go_wp2_with fail
    refine (writeSlash_any (w.heap.size + 1) (w.heap.size + 1) [] _ HJ0.out.bd (by simp) HJ0.out.size).mono ?_
    rintro e w1 ⟨⟨v1, rfl⟩, hd1, hb1⟩
    have HJ : Hid (Jn w.heap.size w true s (.slice (some ⟨g, o, none⟩) ls.length c) g o ls ([47] ++ inter (ls.take 0)) w1) := Lib.hid (HJ0.out.go hg hd1 hb1)
    have c1 := HJ.out.bx.c1
    clear hd1 hb1
    go_wp2_with fail
    clear c1
    go_loopw [20] (fun i wr => ∃ k : Nat, i = .int .i64 k ∧ k ≤ ls.length ∧ Hid (Jn w.heap.size w true s (.slice (some ⟨g, o, none⟩) ls.length c) g o ls ([47] ++ inter (ls.take k)) wr)) (fun i _ => ls.length - (intOf i).toNat)
    case atStart => exact ⟨0, rfl, by omega, HJ⟩
    case round =>
      obtain ⟨k, rfl, hk, HR⟩ := hrel
      have hil := inter_len (ls.take k)
      have hwt := wt_take ls k
      by_cases hlt : k < ls.length
      · have hcell := HR.out.txs k hlt
        have hgl := get_le ls k hlt
        have hst := inter_step ls k hlt
        generalize hq : ls.getD k [] = q at hcell hgl hst
        have HST := Lib.hid hst
        clear hq hst
        by_cases hk0 : k = 0
        · subst hk0
          rw [Nat.add_zero] at hcell
          go_wp2_with fail
          refine (writeString_any (w.heap.size + 1) (w.heap.size + 1) ([47] ++ inter (ls.take 0)) q _ HR.out.bd (by rw [List.length_append]; simp only [List.length_cons, List.length_nil]; omega) HR.out.size).mono ?_
          rintro e w3 ⟨⟨v3, rfl⟩, hd3, hb3⟩
          have hR2 := HR.out.go hg hd3 hb3
          rw [show [47] ++ inter (ls.take 0) ++ q = [47] ++ inter (ls.take (0 + 1)) from by rw [HST.out]; simp [inter]] at hR2
          have HR2 := Lib.hid hR2
          clear hR2 hd3 hb3
          go_wp2_with fail
          go_roundw
          case rel => exact ⟨1, by go_num, by omega, HR2⟩
          case measure => simp [intOf]; omega
        · have hk1 : 0 < k := by omega
          go_wp2_with fail
          refine (writeSlash_any (w.heap.size + 1) (w.heap.size + 1) ([47] ++ inter (ls.take k)) _ HR.out.bd (by simp; omega) HR.out.size).mono ?_
          rintro e w2 ⟨⟨v2, rfl⟩, hd2, hb2⟩
          have HR1 := Lib.hid (HR.out.go hg hd2 hb2)
          clear hd2 hb2
          go_wp2_with fail
          refine (writeString_any (w.heap.size + 1) (w.heap.size + 1) ([47] ++ inter (ls.take k) ++ [47]) q _ HR1.out.bd (by simp; omega) HR1.out.size).mono ?_
          rintro e w3 ⟨⟨v3, rfl⟩, hd3, hb3⟩
          have hR2 := HR1.out.go hg hd3 hb3
          rw [show [47] ++ inter (ls.take k) ++ [47] ++ q = [47] ++ inter (ls.take (k + 1)) from by rw [HST.out, if_neg hk0]; simp] at hR2
          have HR2 := Lib.hid hR2
          clear hR2 hd3 hb3
          go_wp2_with fail
          go_roundw
          case rel => exact ⟨k + 1, by go_num, by omega, HR2⟩
          case measure => simp [intOf]; omega
      · obtain rfl : k = ls.length := by omega
        have hR := HR.out
        rw [List.take_length] at hR hil
        have c2 := hR.bx.c2
        have c1 := hR.bx.c1
        have hcell := hR.txs (ls.length - 1) (by omega)
        have hlast : ls.getD (ls.length - 1) [] = ls.getLastD [] := by
          rw [List.getD_eq_getElem?_getD, List.getLastD_eq_getLast?, List.getLast?_eq_getElem?]
        rw [hlast] at hcell
        have hj : joinL true ls s = [47] ++ inter ls ++ (if (s && !(ls.getLastD [] == [46, 46])) = true then [47] else []) := by unfold joinL; rw [if_neg hne]; rfl
        generalize ls.getLastD [] = q at hcell hj
        have HJL := Lib.hid hj
        have HRR := Lib.hid hR
        clear hR hj hlast HR
        have hidx : ((o + (ls.length - 1) : Nat) : Int) = (o : Int) + ((ls.length : Int) - 1) := by omega
        cases s
        · go_wp2_with fail
          refine (string_any (w.heap.size + 1) (w.heap.size + 1) _ _ HRR.out.bd HRR.out.size).mono ?_
          rintro e w3 ⟨rfl, hb3⟩
          have HB := Lib.hid (HRR.out.bel.trans (hb3.mono (by omega)))
          clear hb3
          go_wp2_with fail
          go_ret
          rw [HJL.out]
          exact ⟨by simp, HB.out⟩
        · go_wp2_with fail
          · have hq : (!q == [46, 46]) = true := by assumption
            refine (writeSlash_any (w.heap.size + 1) (w.heap.size + 1) _ _ HRR.out.bd (by simp; omega) HRR.out.size).mono ?_
            rintro e w2 ⟨⟨v2, rfl⟩, hd2, hb2⟩
            have HR2 := Lib.hid (HRR.out.go hg hd2 hb2)
            clear hd2 hb2
            go_wp2_with fail
            refine (string_any (w.heap.size + 1) (w.heap.size + 1) _ _ HR2.out.bd HR2.out.size).mono ?_
            rintro e w3 ⟨rfl, hb3⟩
            have HB := Lib.hid (HR2.out.bel.trans (hb3.mono (by omega)))
            clear hb3
            go_wp2_with fail
            go_ret
            rw [HJL.out]
            exact ⟨by simp [hq], HB.out⟩
          · have hq : (!q == [46, 46]) = false := by assumption
            refine (string_any (w.heap.size + 1) (w.heap.size + 1) _ _ HRR.out.bd HRR.out.size).mono ?_
            rintro e w3 ⟨rfl, hb3⟩
            have HB := Lib.hid (HRR.out.bel.trans (hb3.mono (by omega)))
            clear hb3
            go_wp2_with fail
            go_ret
            rw [HJL.out]
            exact ⟨by simp [hq], HB.out⟩
end Go.Proofs.Ytchjioknobmegaa
