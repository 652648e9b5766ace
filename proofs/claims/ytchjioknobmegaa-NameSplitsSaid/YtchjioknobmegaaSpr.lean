/- The document's Split. -/
import Derived.Test.YtchjioknobmegaaSpp
import Derived.Test.YtchjioknobmegaaTx4
namespace Go.Proofs.Ytchjioknobmegaa
open Go.RowKit

theorem ex_fa32 {ρ : Operand → Value} {o : Oper} {x : Operand} {b : Nat} {w : World} (ho : o.op = .fieldAddr 32 x 1) (hx : ρ x = .pointer (some ⟨b, 0, none⟩)) : (execOp ρ o).run Try.prog w = .ok (.value (.pointer (some ⟨b, 1, none⟩))) w := by
  unfold execOp
  simp only [ho]
  go_simp
theorem ex_ix {ρ : Operand → Value} {o : Oper} {x y : Operand} {g n c k : Nat} {w : World} (ho : o.op = .indexAddr 27 x y) (hx : ρ x = .slice (some ⟨g, 0, none⟩) n c) (hy : ρ y = .int .i64 (k : Int)) (hk : k < n) : (execOp ρ o).run Try.prog w = .ok (.value (.pointer (some ⟨g, k, none⟩))) w := by
  have h1 : (k : Int) < (n : Int) := by omega
  unfold execOp
  simp only [ho]
  go_simp
theorem ex_ls {ρ : Operand → Value} {o : Oper} {x : Operand} {ad : Addr} {l : List UInt8} {w : World} (ho : o.op = .load 9 x) (hx : ρ x = .pointer (some ad)) (hc : w.cell? ad = some (VS l)) : (execOp ρ o).run Try.prog w = .ok (.value (VS l)) w := by
  unfold execOp
  simp only [ho]
  go_simp
abbrev nilPath32 : Obj := .cells #[.bool false, .slice none 0 0, .bool false] 32
/-- What the document tells of a path. -/
def ToldR (l : List UInt8) (w : World) (e : Ending) (w' : World) : Prop :=
  Below w.heap.size w w' ∧ ∃ v, (errS l ≠ 0 → e = .returned (.tuple #[.agg #[.bool false, .slice none 0 0, .bool false], .int .i64 (errS l)])) ∧
    (errS l = 0 → e = .returned (.tuple #[.agg #[.bool (absL l), v, .bool (slL l)], .int .i64 0]) ∧ Own w' w.heap.size v (parts l))
/-- What has been gone through. -/
structure Gone (l : List UInt8) (n B2 g k : Nat) (w : World) (v : Value) (wr : World) : Prop where
  bx : Bx wr (n + 1) 32 (absL l) v false
  own : Own wr B2 v (((cut l).take k).filter keep)
  res : Bx wr n 32 false (.slice none 0 0) false
  txs : Txs g 0 (cut l) wr
  bel : Below n w wr
  hB : B2 ≤ wr.heap.size
  short : ∀ j, j < k → ((cut l).getD j []).length ≤ 24

theorem new_cell (w : World) (v : Value) (t : TypeId) : (w.alloc (.cells #[v] t)).cell? ((⟨w.heap.size, 0, none⟩ : Addr).add 0) = some v := by simp [Addr.add]
theorem long_mem {l : List UInt8} {k : Nat} {q : List UInt8} (hlt : k < (cut l).length) (hq : (cut l).getD k [] = q) (h : 24 < q.length) : long (parts l) = true := by
  refine List.any_eq_true.2 ⟨q, List.mem_filter.2 ⟨?_, (keep_iff q).2 ⟨?_, ?_⟩⟩, by simpa using h⟩
  · rw [← hq, List.getD_eq_getElem?_getD, List.getElem?_eq_getElem hlt]
    exact List.getElem_mem hlt
  · rintro rfl; simp at h
  · rintro rfl; simp at h
theorem long_none {l : List UInt8} (h : ∀ j, j < (cut l).length → ((cut l).getD j []).length ≤ 24) : ¬ long (parts l) = true := by
  intro hl
  obtain ⟨p, hp, h2⟩ := List.any_eq_true.1 hl
  obtain ⟨k, hk, rfl⟩ := List.mem_iff_getElem.1 (List.mem_filter.1 hp).1
  have := h k hk
  rw [List.getD_eq_getElem?_getD, List.getElem?_eq_getElem hk] at this
  simp at this h2
  omega
theorem take_succ' {C : List (List UInt8)} {k : Nat} {q : List UInt8} (hlt : k < C.length) (hq : C.getD k [] = q) : C.take (k + 1) = C.take k ++ [q] := by
  rw [List.take_add_one, List.getElem?_eq_getElem hlt, ← hq, List.getD_eq_getElem?_getD, List.getElem?_eq_getElem hlt]
  rfl
theorem short_succ {C : List (List UInt8)} {k : Nat} {q : List UInt8} (h : ∀ j, j < k → (C.getD j []).length ≤ 24) (hq : C.getD k [] = q) (h2 : q.length ≤ 24) : ∀ j, j < k + 1 → (C.getD j []).length ≤ 24 := fun j hj => by
  rcases (by omega : j < k ∨ j = k) with h3 | rfl
  · exact h j h3
  · rw [hq]; exact h2
theorem Gone.skip {l : List UInt8} {n B2 g k : Nat} {w wr : World} {v : Value} {q : List UInt8} (h : Gone l n B2 g k w v wr) (hlt : k < (cut l).length) (hq : (cut l).getD k [] = q) (h2 : q.length ≤ 24) (hk : keep q = false) : Gone l n B2 g (k + 1) w v wr :=
  ⟨h.bx, by rw [take_succ' hlt hq, filter_snoc, hk]; exact h.own, h.res, h.txs, h.bel, h.hB, short_succ h.short hq h2⟩
theorem lastNE_take {C : List (List UInt8)} {k : Nat} {q : List UInt8} (hlt : k < C.length) (hq : C.getD k [] = q) : lastNE (C.take (k + 1)) = if q = [] then lastNE (C.take k) else q := by
  rw [take_succ' hlt hq, lastNE_snoc]
theorem Gone.app {l : List UInt8} {n B2 g k : Nat} {w wr w5 : World} {v v' : Value} {q : List UInt8} (h : Gone l n B2 g k w v wr) (hlt : k < (cut l).length) (hq : (cut l).getD k [] = q) (h2 : q.length ≤ 24) (hk : keep q = true)
    (hgn : n + 1 < g) (hgB : g < B2) (hown5 : Own w5 B2 v' (((cut l).take k).filter keep ++ [q])) (hg5 : (wr.drew.alloc (.cells #[VS q] 9)).grownBy w5 v.ownBlock) :
    Bx w5 (n + 1) 32 (absL l) v false ∧ Gone l n B2 g (k + 1) w v' (w5.setCell ⟨n + 1, 1, none⟩ v') := by
  have hwr : n + 1 < wr.heap.size := by have := h.hB; omega
  have hblk : ∀ j, j < B2 → w5.heap[j]? = wr.heap[j]? := fun j hj => by
    have h3 := h.hB
    rw [hg5.block j (by simp; omega) (fun e => by have := (h.own.lt j e.symm).1; omega)]
    exact Below.heap_alloc wr.drew _ _ (by simp; omega)
  have hbx5 := h.bx.of (hblk _ (by omega))
  refine ⟨hbx5, hbx5.put1 _, ?_, ?_, ?_, ?_, ?_, short_succ h.short hq h2⟩
  · rw [take_succ' hlt hq, filter_snoc, hk]
    exact hown5.setCell hbx5 (by decide) 1 _
  · exact (h.res.of (hblk _ (by omega))).of (Below.heap_setCell _ _ _ _ (by simp))
  · exact (h.txs.block (hblk _ hgB)).block (Below.heap_setCell _ _ _ _ (by simp; omega))
  · exact ((h.bel.drew.alloc (o := .cells #[VS q] 9) (by simp; omega)).grown hg5 (by simp; omega) (fun j hj => by have := (h.own.lt j hj).1; omega)).setCell (p := ⟨n + 1, 1, none⟩) (Nat.le_succ _) _
  · have h3 := h.hB
    have h4 := hg5.size
    simp [World.setCell] at h4 ⊢
    omega

set_option maxRecDepth 100000 in
set_option maxHeartbeats 4000000 in
theorem rsplit_any (l : List UInt8) (hl : l.length < 1000000) (w : World) : Calls Try.prog 13 #[.string (str l)] w (ToldR l w) := by
  have hsz := str_size l
  have hb1 : Below w.heap.size w (w.alloc nilPath32) := (Below.refl _ w).alloc (Nat.le_refl _) _
  have hbx1 : Bx (w.alloc nilPath32) w.heap.size 32 false (.slice none 0 0) false := heap_alloc_new w _
  have HB1 := Lib.hid hb1
  have HX1 := Lib.hid hbx1
  clear hb1 hbx1
  by_cases h0 : l = []
  · subst h0
    go_enter Try.func13, Try.ntmps13
    go_wp2_with fail
    exact bodyPost_ret (results_pair Try.results13 _ _ w.heap.size 32 _ _ _ rfl HX1.out Try.underlying32 info32) rfl (told_err errS_0 (by decide) HB1.out rfl)
  have h0' : l.isEmpty = false := by simpa using h0
  by_cases h1 : 256 < l.length
  · have HE := Lib.hid (errS_1 h0 h1)
    go_enter Try.func13, Try.ntmps13
    go_wp2_with fail
    exact bodyPost_ret (results_pair Try.results13 _ _ w.heap.size 32 _ _ _ rfl HX1.out Try.underlying32 info32) rfl (told_err HE.out (by decide) HB1.out rfl)
  obtain ⟨f, hf⟩ : ∃ f : Nat, flt false l = f := ⟨_, rfl⟩
  by_cases h2 : f ≠ 0
  · have HE : Hid (errS l = f) := Lib.hid (by rw [errS_2 h0 h1 (by rw [hf]; exact h2), hf])
    have HF := Lib.hid hf
    have H2 := Lib.hid h2
    have h2' : ((f : Int) != 0) = true := by simpa using h2
    clear h0 hf h2
    go_enter Try.func13, Try.ntmps13
    go_wp2_with fail
    refine (rFault_any false l 0 rfl hl _).mono ?_
    rintro e w' ⟨rfl, rfl⟩
    rw [HF.out]
    go_wp2_with (first
      | (refine wpList_store_row rfl 32 (.tmp 2) (.tmp 20) rfl w.heap.size _ rfl rfl 32 _ HX1.out info32 rfl (one3 _ _ _ _ _) ?_)
      | fail)
    first
      | exact bodyPost_ret (results_pair Try.results13 _ _ w.heap.size 32 _ _ _ rfl (HX1.out.row _ _ _) Try.underlying32 info32) rfl (told_err HE.out H2.out (below_row HB1.out (Nat.le_refl _) _) rfl)
      | exact bodyPost_ret (results_pair Try.results13 _ _ w.heap.size 32 _ _ _ rfl HX1.out Try.underlying32 info32) rfl (told_err HE.out H2.out HB1.out rfl)
  · have hf0 : flt false l = 0 := by omega
    have HF := Lib.hid hf0
    have h2f : ¬ flt false l ≠ 0 := by omega
    have H3 := Lib.hid (errS_3 h0 h1 h2f)
    have H4 := Lib.hid (errS_4 h0 h1 h2f)
    have hlpos : 0 < l.length := by cases l <;> simp_all
    obtain ⟨b0, hb0⟩ : ∃ b : Int, (gb l 0 : Int) = b := ⟨_, rfl⟩
    have hx0 := idx' l 0 b0 hlpos hb0
    have hab : (b0 == 47) = absL l := by rw [absL_gb hlpos, Bool.eq_iff_iff, beq_iff_eq, decide_eq_true_iff]; omega
    have HAB := Lib.hid hab
    have hx0' : ∀ (w : World), (Instr.index 9 (.string (str l)) (.int .i64 0)).run Try.prog w = .ok (.int .u8 b0) w := hx0
    clear h2 hf hf0 h2f h0 hb0 hab hx0
    go_enter Try.func13, Try.ntmps13
    go_wp2_with fail
    refine (rFault_any false l 0 rfl hl _).mono ?_
    rintro e w' ⟨rfl, rfl⟩
    rw [HF.out]
    go_wp2_with fail
    rw [HAB.out]
    have hbW : Below w.heap.size w ((w.alloc nilPath32).alloc (.cells #[.bool (absL l), .slice none 0 0, .bool false] 32)) := HB1.out.alloc HB1.out.size _
    have hxW : Bx ((w.alloc nilPath32).alloc (.cells #[.bool (absL l), .slice none 0 0, .bool false] 32)) w.heap.size 32 false (.slice none 0 0) false := HX1.out.of (Below.heap_alloc _ _ _ HX1.out.lt)
    have hyW : Bx ((w.alloc nilPath32).alloc (.cells #[.bool (absL l), .slice none 0 0, .bool false] 32)) (w.heap.size + 1) 32 (absL l) (.slice none 0 0) false := two_new w _ _
    have hsW : ((w.alloc nilPath32).alloc (.cells #[.bool (absL l), .slice none 0 0, .bool false] 32)).heap.size = w.heap.size + 1 + 1 := by simp
    generalize ((w.alloc nilPath32).alloc (.cells #[.bool (absL l), .slice none 0 0, .bool false] 32)) = W at hbW hxW hyW hsW ⊢
    refine (between_any l hl _).mono ?_
    rintro e W3 ⟨v, rfl, hown, hb3⟩
    have hCl : (cut l).length ≤ l.length + 1 := by
      have h2 := len_wt (cut l)
      have h3 := wt_cut _ l (Nat.le_refl _)
      omega
    obtain ⟨g, cap, rfl, hgB⟩ : ∃ g cap, v = .slice (some ⟨g, 0, none⟩) (cut l).length cap ∧ W.heap.size ≤ g := by
      rcases hown.2 with ⟨_, h⟩ | ⟨g, cap, cur, h, hg, _⟩
      · exact absurd (List.eq_nil_of_length_eq_zero h) (cut_ne l)
      · exact ⟨g, cap, h, hg⟩
    have hG : Gone l w.heap.size W3.heap.size g 0 w (.slice none 0 0) W3 :=
      ⟨hyW.of (hb3.block _ hyW.lt), Own.nil _ _, hxW.of (hb3.block _ hxW.lt), own_txs hown, hbW.trans (hb3.mono hbW.size), Nat.le_refl _, fun j h => absurd h (by omega)⟩
    have hgl : g < W3.heap.size := (hown.lt g rfl).2
    have hgn : w.heap.size + 1 < g := by omega
    have hnB : w.heap.size + 1 < W3.heap.size := by omega
    obtain ⟨C, hC⟩ : ∃ C, cut l = C := ⟨_, rfl⟩
    rw [hC] at hCl ⊢
    have HC := Lib.hid hC
    have HG := Lib.hid hG
    clear hG hC hown hb3 hbW hxW hyW hsW hgB HB1 HX1
    go_wp2_with fail
    go_loopw [6, 8] (fun la i wr => ∃ (k : Nat) (v : Value), i = .int .i64 k ∧ k ≤ C.length ∧ la = VS (lastNE (C.take k)) ∧ Hid (Gone l w.heap.size W3.heap.size g k w v wr)) (fun _ i _ => C.length - (intOf i).toNat)
    case atStart => exact ⟨0, _, rfl, by omega, rfl, HG⟩
    case round =>
      obtain ⟨k, v, rfl, hk, rfl, HR⟩ := hrel
      by_cases hlt : k < C.length
      · have hc := HR.out.txs k (by rw [HC.out]; exact hlt)
        rw [Nat.zero_add, HC.out] at hc
        have hcsz := str_size (C.getD k [])
        obtain ⟨q, hq⟩ : ∃ q, C.getD k [] = q := ⟨_, rfl⟩
        rw [hq] at hc hcsz
        have HQ := Lib.hid hq
        clear hq
        go_wp2_with (first
          | (refine wpList_store_row rfl 32 (.tmp 2) (.tmp 40) rfl w.heap.size _ rfl rfl 32 _ HR.out.res info32 rfl (one3 _ _ _ _ _) ?_)
          | fail)
        · rename_i hq24
          have hl1 : long (parts l) = true := long_mem (k := k) (q := q) (by rw [HC.out]; exact hlt) (by rw [HC.out]; exact HQ.out) (by omega)
          exact bodyPost_ret (results_pair Try.results13 _ _ w.heap.size 32 _ _ _ rfl (HR.out.res.row _ _ _) Try.underlying32 info32) rfl (told_err (H3.out hl1) (by decide) (below_row HR.out.bel (Nat.le_refl _) _) rfl)
        · have hq24 : (q.length : Int) ≤ 24 := by assumption
          have hk1 : (!q.isEmpty) = true := by assumption
          have hk2 : (!q == [46]) = true := by assumption
          have hkeep : keep q = true := by unfold keep; cases q <;> simp_all
          have hla : lastNE (C.take (k + 1)) = q := by rw [lastNE_take hlt HQ.out, if_neg (by cases q <;> simp_all)]
          have HK := Lib.hid hkeep
          have HL := Lib.hid hla
          have hbx := HR.out.bx
          have hown := HR.out.own
          rw [HC.out] at hown
          have htl : ((C.take k).filter keep).length < 1000000 := by have h1 := List.length_filter_le keep (C.take k); have h2 := List.length_take_le k C; omega
          clear hla hkeep hk1 hk2
          refine wp_region_sched (.take 0 (.take 2 (.take 3 (.take 4 (.fork 1 (.step 5 (.step 6 (.step 7 (.take 8 (.step 9 .nil))))) 5 (.fork 1 (.step 6 (.step 7 (.take 8 (.step 9 .nil)))) 6 (.step 1 (.step 7 (.take 8 (.step 9 .nil)))))))))) (by kernel_rfl) (by kernel_rfl) (fun d _ _ _ _ h => by cases d <;> exact h) (fun _ => True) trivial ?_
          refine wpG_take _ (.pointer (some ⟨w.heap.size + 1, 1, none⟩)) rfl (by rfl) (fun X hX => ex_fa32 rfl rfl) ?_
          (try simp only [Act.put, List.setIfInBounds_toArray, List.set_cons_zero, List.set_cons_succ])
          refine wpG_take _ (.slice (some ⟨g, 0, none⟩) C.length cap) rfl (by rfl) (fun X hX => by rfl) ?_
          (try simp only [Act.put, List.setIfInBounds_toArray, List.set_cons_zero, List.set_cons_succ])
          refine wpG_take _ (.int .i64 (k : Int)) rfl (by rfl) (fun X hX => by rfl) ?_
          (try simp only [Act.put, List.setIfInBounds_toArray, List.set_cons_zero, List.set_cons_succ])
          refine wpG_take _ (.pointer (some ⟨g, k, none⟩)) rfl (by rfl) (fun X hX => ex_ix rfl rfl rfl hlt) ?_
          (try simp only [Act.put, List.setIfInBounds_toArray, List.set_cons_zero, List.set_cons_succ])
          refine wpG_fork (wpG_mk _ rfl (by rfl) v wr.drew (ex_ld rfl rfl (by first | exact hbx.c1 | exact (hbx.of (Below.heap_alloc _ _ _ hbx.lt)).c1)) (fun _ => True) trivial (fun _ h => h) ?_) ?_
          (try simp only [Act.put, List.setIfInBounds_toArray, List.set_cons_zero, List.set_cons_succ])
          refine wpG_mk _ rfl (by rfl) (VS q) wr.drew (ex_ls rfl rfl hc) (fun _ => True) trivial (fun _ h => h) ?_
          (try simp only [Act.put, List.setIfInBounds_toArray, List.set_cons_zero, List.set_cons_succ])
          refine wpG_mk _ rfl (by rfl) (.slice (some ⟨wr.heap.size, 0, none⟩) 1 1) (wr.drew.alloc (.cells #[VS q] 9)) (ex_one rfl rfl) (fun _ => True) trivial (fun _ h => h) ?_
          (try simp only [Act.put, List.setIfInBounds_toArray, List.set_cons_zero, List.set_cons_succ])
          rotate_left
          refine wpG_mk _ rfl (by rfl) (VS q) wr.drew (ex_ls rfl rfl hc) (fun _ => True) trivial (fun _ h => h) ?_
          (try simp only [Act.put, List.setIfInBounds_toArray, List.set_cons_zero, List.set_cons_succ])
          refine wpG_fork (wpG_mk _ rfl (by rfl) v wr.drew (ex_ld rfl rfl (by first | exact hbx.c1 | exact (hbx.of (Below.heap_alloc _ _ _ hbx.lt)).c1)) (fun _ => True) trivial (fun _ h => h) ?_) ?_
          (try simp only [Act.put, List.setIfInBounds_toArray, List.set_cons_zero, List.set_cons_succ])
          refine wpG_mk _ rfl (by rfl) (.slice (some ⟨wr.heap.size, 0, none⟩) 1 1) (wr.drew.alloc (.cells #[VS q] 9)) (ex_one rfl rfl) (fun _ => True) trivial (fun _ h => h) ?_
          (try simp only [Act.put, List.setIfInBounds_toArray, List.set_cons_zero, List.set_cons_succ])
          rotate_left
          refine wpG_mk _ rfl (by rfl) (.slice (some ⟨wr.heap.size, 0, none⟩) 1 1) (wr.drew.alloc (.cells #[VS q] 9)) (ex_one rfl rfl) (fun _ => True) trivial (fun _ h => h) ?_
          (try simp only [Act.put, List.setIfInBounds_toArray, List.set_cons_zero, List.set_cons_succ])
          refine wpG_mk _ rfl (by rfl) v (wr.drew.alloc (.cells #[VS q] 9)) (ex_ld rfl rfl (by first | exact hbx.c1 | exact (hbx.of (Below.heap_alloc _ _ _ hbx.lt)).c1)) (fun _ => True) trivial (fun _ h => h) ?_
          (try simp only [Act.put, List.setIfInBounds_toArray, List.set_cons_zero, List.set_cons_succ])
          all_goals
            refine wpG_app _ rfl (by rfl) (.tmp 63) (.tmp 68) rfl v rfl W3.heap.size ((C.take k).filter keep) (World.ownsRow.alloc (w := wr.drew) hown _) ⟨wr.heap.size, 0, none⟩ 1 q rfl (new_cell wr.drew (VS q) 9) htl (by have := HR.out.hB; simp; omega) ?_
            intro v' w5 hown5 hg5
            obtain ⟨hbx5, hG2⟩ := HR.out.app (q := q) (by rw [HC.out]; exact hlt) (by rw [HC.out]; exact HQ.out) (by omega) HK.out hgn hgl (by rw [HC.out]; exact hown5) hg5
            refine ⟨trivial, ?_⟩
            (try simp only [Act.put, List.setIfInBounds_toArray, List.set_cons_zero, List.set_cons_succ])
            refine wpG_take _ (.pointer (some ⟨w.heap.size + 1, 1, none⟩)) rfl (by rfl) (fun X hX => ex_fa32 rfl rfl) ?_
            (try simp only [Act.put, List.setIfInBounds_toArray, List.set_cons_zero, List.set_cons_succ])
            obtain ⟨sp', n', cap', rfl⟩ : ∃ sp n cap, v' = .slice sp n cap := by
              rcases hown5.2 with ⟨h, _⟩ | ⟨g, cap, cur, h, _⟩ <;> exact ⟨_, _, _, h⟩
            refine wpG_st _ rfl (by rfl) (w5.setCell ⟨w.heap.size + 1, 1, none⟩ (.slice sp' n' cap')) (ex_st rfl rfl rfl hbx5.c1 (hbx5.frozen 1)) (fun _ => True) trivial trivial (fun _ h => h) ?_
            refine wpG_nil ?_
            have HG2 := Lib.hid hG2
            clear hG2 hbx5 hown5 hg5 hown hbx hc
            go_wp2_with fail
            go_roundw
            case rel => exact ⟨k + 1, _, by go_num, by omega, by rw [HL.out], HG2⟩
            case measure => simp [intOf]; omega
        · have hq24 : (q.length : Int) ≤ 24 := by assumption
          have hk1 : (!q.isEmpty) = true := by assumption
          have hk2 : (!q == [46]) = false := by assumption
          have hkeep : keep q = false := by unfold keep; simp at hk2; subst hk2; rfl
          have hla : lastNE (C.take (k + 1)) = q := by rw [lastNE_take hlt HQ.out, if_neg (by cases q <;> simp_all)]
          have HG2 := Lib.hid (HR.out.skip (q := q) (by rw [HC.out]; exact hlt) (by rw [HC.out]; exact HQ.out) (by omega) hkeep)
          have HL := Lib.hid hla
          clear hkeep hla hk1 hk2 hc
          go_roundw
          case rel => exact ⟨k + 1, _, by go_num, by omega, by rw [HL.out], HG2⟩
          case measure => simp [intOf]; omega
        · have hq24 : (q.length : Int) ≤ 24 := by assumption
          have hk1 : (!q.isEmpty) = false := by assumption
          have hq0 : q = [] := by simpa using hk1
          have hla : lastNE (C.take (k + 1)) = lastNE (C.take k) := by rw [lastNE_take hlt HQ.out, if_pos hq0]
          have HG2 := Lib.hid (HR.out.skip (q := q) (by rw [HC.out]; exact hlt) (by rw [HC.out]; exact HQ.out) (by omega) (by rw [hq0]; rfl))
          have HL := Lib.hid hla
          clear hla hk1 hq0 hc
          go_roundw
          case rel => exact ⟨k + 1, _, by go_num, by omega, by rw [HL.out], HG2⟩
          case measure => simp [intOf]; omega
      · obtain rfl : k = C.length := by omega
        have hG2 := HR.out
        have hl1 : ¬ long (parts l) = true := long_none (fun j hj => hG2.short j (by rw [HC.out] at hj; exact hj))
        have he := H4.out hl1
        have hbx := hG2.bx
        have hown := hG2.own
        rw [HC.out, List.take_length] at hown
        have hpar : C.filter keep = parts l := by rw [← HC.out]; rfl
        rw [hpar] at hown
        obtain ⟨sp, n, cap', rfl⟩ : ∃ sp n cap, v = .slice sp n cap := by
          rcases hown.2 with ⟨h, _⟩ | ⟨g, cap, cur, h, _⟩ <;> exact ⟨_, _, _, h⟩
        obtain ⟨b1, hb1⟩ : ∃ b : Int, (gb l (l.length - 1) : Int) = b := ⟨_, rfl⟩
        have hxl := idx' l (l.length - 1) b1 (by omega) hb1
        rw [show ((l.length - 1 : Nat) : Int) = (l.length : Int) - 1 from by omega] at hxl
        have hsl := slL_doc (l := l) (by intro e; rw [e] at hlpos; simp at hlpos)
        have hs47 : (b1 == 47) = decide (gb l (l.length - 1) = 47) := by rw [Bool.eq_iff_iff, beq_iff_eq, decide_eq_true_iff]; omega
        rw [← hs47, HC.out] at hsl
        rw [List.take_length]
        generalize lastNE C = la at hsl ⊢
        have c2 := hbx.c2
        have f2 := hbx.frozen 2
        have HE := Lib.hid he
        have HS := Lib.hid hsl
        have HBX := Lib.hid hbx
        have HO := Lib.hid (Own.base hown (B' := w.heap.size) (by omega))
        have HRS := Lib.hid hG2.res
        have HBL := Lib.hid hG2.bel
        clear hl1 he hsl hbx hown hpar hG2 hb1 hs47 HR HG H3 H4
        go_wp2_with (first
          | (refine wpList_load_row rfl 32 (.tmp 5) rfl (w.heap.size + 1) rfl 32 _ _ _ (HBX.out.put2 _) Try.underlying32 rfl info32 ?_)
          | (refine wpList_store_row rfl 32 (.tmp 2) (.tmp 86) rfl w.heap.size _ rfl rfl 32 _ (HRS.out.of (Below.heap_setCell _ _ _ _ (by simp))) info32 rfl (one3 _ _ _ _ _) ?_)
          | fail)
        all_goals
          refine bodyPost_ret (results_pair Try.results13 _ _ w.heap.size 32 _ _ _ rfl (Bx.row (HRS.out.of (Below.heap_setCell _ _ _ _ (by simp))) _ _ _) Try.underlying32 info32) rfl ⟨below_row (HBL.out.setCell (p := ⟨w.heap.size + 1, 2, none⟩) (Nat.le_succ _) _) (Nat.le_refl _) _, .slice sp n cap', fun h => absurd HE.out h, fun _ => ⟨?_, Own.row (HO.out.setCell HBX.out (by decide) 2 _) (HRS.out.of (Below.heap_setCell _ _ _ _ (by simp))) (by decide) _⟩⟩
          rw [HS.out]
          simp [*]
end Go.Proofs.Ytchjioknobmegaa
