/- The shelf's Read. -/
import Derived.Test.YtjgjohdeeeoeoaaGreatDoorM13
namespace Go.Proofs.YtjgjohdeeeoeoaaGreatDoor
open Go.RowKit
attribute [local go_sem] Oper.semAt_some
structure ReS (D G : Nat) (s1 : Sh) (p : Pt) (L1 : Nat → Nat) (v1 : Sv) (W1 X : World) : Prop where
  sh : ShAt X L1 D s1 v1
  box : Blk X G (pcells p) 28
  bel : Below W1.heap.size W1 X
theorem ReS.drew {D G : Nat} {s1 : Sh} {p : Pt} {L1 : Nat → Nat} {v1 : Sv} {W1 X : World} (h : ReS D G s1 p L1 v1 W1 X) : ReS D G s1 p L1 v1 W1 X.drew := ⟨h.sh.drew, h.box.drew, h.bel.drew⟩
theorem ReS.c1 {D G : Nat} {s1 : Sh} {p : Pt} {L1 : Nat → Nat} {v1 : Sv} {W1 X : World} (h : ReS D G s1 p L1 v1 W1 X) : X.cell? ⟨D, 1, none⟩ = some v1.bd := h.sh.blk.cell rfl
theorem ReS.c0 {D G : Nat} {s1 : Sh} {p : Pt} {L1 : Nat → Nat} {v1 : Sv} {W1 X : World} (h : ReS D G s1 p L1 v1 W1 X) : X.cell? ⟨D, 0, none⟩ = some v1.bl := h.sh.blk.cell rfl
theorem at0_cell {W : World} {G : Nat} {p : Pt} {t : TypeId} (hp : p.OK) (h : Blk W G (pcells p) t) : W.cell? ⟨G, 37, none⟩ = some (.int .u16 (at0 p : Int)) := by
  have hl := hp.len
  refine cell_ats (k := 0) h hp.hash ?_
  unfold at0
  rw [List.getD_eq_getElem?_getD, List.getElem?_eq_getElem (by omega)]
  rfl
theorem at0_lt {p : Pt} (hp : p.OK) : at0 p < 65536 := by
  have hl := hp.len
  unfold at0
  rw [List.getD_eq_getElem?_getD, List.getElem?_eq_getElem (by omega)]
  exact hp.ats _ (List.getElem_mem _)
section
variable {ρ : Operand → Value} {o : Oper} {x y : Operand} {w : World}
theorem ex_ldU16s {ad : Addr} {v : Value} (ho : o.op = .load 47 x) (hx : ρ x = .pointer (some ad)) (hc : w.cell? ad = some v) : (execOp ρ o).run Tryz.prog w = .ok (.value v) w := by
  unfold execOp; simp only [ho]; go_simp
theorem ex_ldBbs {ad : Addr} {v : Value} (ho : o.op = .load 46 x) (hx : ρ x = .pointer (some ad)) (hc : w.cell? ad = some v) : (execOp ρ o).run Tryz.prog w = .ok (.value v) w := by
  unfold execOp; simp only [ho]; go_simp
theorem ex_ldTb {ad : Addr} {v : Value} (ho : o.op = .load 29 x) (hx : ρ x = .pointer (some ad)) (hc : w.cell? ad = some v) : (execOp ρ o).run Tryz.prog w = .ok (.value v) w := by
  unfold execOp; simp only [ho]; go_simp
theorem ex_eq16 {a b : Nat} {t : TypeId} (ho : o.op = .binOp .eql 23 x y t) (hx : ρ x = .int .u16 (a : Int)) (hy : ρ y = .int .u16 (b : Int)) : (execOp ρ o).run Tryz.prog w = .ok (.value (.bool (decide (a = b)))) w := by
  have e : ((a : Int) == (b : Int)) = decide (a = b) := by
    rw [Bool.eq_iff_iff]; simp; omega
  unfold execOp
  simp only [ho]
  go_simp
theorem ex_iaB {g n cap : Nat} {k : Nat} {kd : IntKind} (ho : o.op = .indexAddr 46 x y) (hx : ρ x = .slice (some ⟨g, 0, none⟩) n cap) (hy : ρ y = .int kd (k : Int)) (hk : k < n ∧ n ≤ cap) :
    (execOp ρ o).run Tryz.prog w = .ok (.value (.pointer (some ⟨g, k, none⟩))) w := by
  have h1 : ¬ n ≤ k := by omega
  unfold execOp
  simp only [ho]
  go_simp
theorem ex_iaN {g o' n cap : Nat} {k : Nat} (ho : o.op = .indexAddr 47 x y) (hx : ρ x = .slice (some ⟨g, o', none⟩) n cap) (hy : ρ y = .int .i64 (k : Int)) (hk : k < n ∧ n ≤ cap) :
    (execOp ρ o).run Tryz.prog w = .ok (.value (.pointer (some ⟨g, o' + k, none⟩))) w := by
  have h1 : ¬ n ≤ k := by omega
  unfold execOp
  simp only [ho]
  go_simp
end
theorem any_take16 {l : List Nat} {a x k : Nat} (h : l[k]? = some x) (h0 : (l.take k).any (fun x => x == a) = false) (h1 : decide (x = a) = false) : (l.take (k + 1)).any (fun x => x == a) = false := by
  rw [take_snoc h, List.any_append, h0]
  simp at h1
  simp [h1]
theorem any_at16 {l : List Nat} {a x k : Nat} (h : l[k]? = some x) (h1 : decide (x = a) = true) : l.any (fun x => x == a) = true := List.any_eq_true.2 ⟨x, List.mem_of_getElem? h, by simpa using h1⟩
theorem owns_form {w : World} {B e k n : Nat} {x : Value} {xs : List Value} (h : w.ownsRow B e k x n xs) : ∃ sp cap, x = .slice sp n cap ∧ n ≤ cap ∧ (0 < n → ∃ g, sp = some ⟨g, 0, none⟩ ∧ g < w.heap.size ∧ x.ownBlock = some g) := by
  rcases h.2 with ⟨rfl, hn⟩ | ⟨g, cap, cur, rfl, _, hgg, hc, _⟩
  · exact ⟨none, 0, by rw [hn], by omega, fun h0 => by omega⟩
  · exact ⟨_, cap, rfl, hc, fun _ => ⟨g, rfl, (Array.getElem?_eq_some_iff.1 hgg).1, rfl⟩⟩
def RdPost (k : Nat) (L : Nat → Nat) (w : World) (D : Nat) (s : Sh) (p : Pt) (e : Ending) (w' : World) : Prop := ∃ val L' v', e = .returned (.tuple #[val, .int .i64 (rdE s p : Int)]) ∧ ShAt w' L' D (rdS s p) v' ∧ Mv k L w L' w' ∧ BkV w' L' val (rdB s p)
theorem bkv_nil (w : World) (L : Nat → Nat) : BkV w L (.slice none 0 0) [] := ⟨none, 0, rfl, by simp, fun _ => rfl, SrcA.nil w none, fun _ h => by cases h⟩
set_option maxRecDepth 100000 in
set_option maxHeartbeats 8000000 in
theorem shRead_any {w : World} {L : Nat → Nat} {D : Nat} {s : Sh} {v : Sv} (p : Pt) (hp : p.OK) (h : ShAt w L D s v) (hl : s.read0.length < 100000000) (hbl : s.blocks.length ≤ 30000) (hbd : s.bad.length ≤ 1000) : Calls Tryz.prog 152 #[.pointer (some ⟨D, 0, none⟩), .agg (pcells p).toArray] w (RdPost 5 L w D s p) := by
  have HPO := Lib.hid hp
  have hw1 : Below w.heap.size w (w.alloc (.cells (pcells p).toArray 28)) := (Below.refl _ _).alloc (Nat.le_refl _) _
  have H1 := Lib.hid (h.below hw1)
  have HB : Hid (Blk (w.alloc (.cells (pcells p).toArray 28)) w.heap.size (pcells p) 28) := Lib.hid (Blk.new _ _ _)
  have HLT := Lib.hid h.lt
  have HL := Lib.hid hl
  have HBL := Lib.hid hbl; have HBD := Lib.hid hbd
  generalize hPost : RdPost 5 L w D s p = Post
  have HP : Hid (∀ val L1 v1 w', ShAt w' L1 D (rdS s p) v1 → Mv 5 L (w.alloc (.cells (pcells p).toArray 28)) L1 w' → BkV w' L1 val (rdB s p) → Post (.returned (.tuple #[val, .int .i64 (rdE s p : Int)])) w') := Lib.hid fun val L1 v1 w' h2 h3 h4 => by
    rw [← hPost]; exact ⟨val, L1, v1, rfl, h2, (Mv.of_below hw1 h.lt).trans h3, h4⟩
  clear h hp hl hbl hbd hw1 hPost
  go_enter Tryz.func152, Tryz.ntmps152
  go_upto_region 1 with fail
  obtain ⟨G, hG⟩ : ∃ G, w.heap.size = G := ⟨_, rfl⟩
  rw [hG] at HB ⊢
  generalize (w.alloc (.cells (pcells p).toArray 28)) = W at H1 HB HP ⊢
  have hnD := H1.out.notD H1.out.rd.2 (by omega)
  have hGn : v.rd.ownBlock ≠ some G := fun e => by have h1 := H1.out.rd.2 G e; have := HLT.out G (by omega); omega
  have hGD : G ≠ D := fun e => by have h1 := H1.out.ld; rw [← e] at h1; have := HLT.out G (by omega); omega
  obtain ⟨v3, w3, hr, hsl, ⟨_, hcell⟩, hfree, hoth, k1, k2, k3, k4, k5⟩ := app_here (k := 5) H1.out.rd.1 H1.out.blk hnD HPO.out HL.out (by simp [scells])
  have hS3 := (hoth HB.out hGn).1
  have hS4 := (hoth HB.out hGn).2 hGD
  have hrd := H1.out.readd HPO.out k1 k2 k3 k4 k5
  have HPQ : Hid (∀ val w', ReS D G (rdS s p) p (setL L v3 5) { v with rd := v3 } (w3.setCell ⟨D, 5, none⟩ v3) w' → BkV w' (setL L v3 5) val (rdB s p) → Post (.returned (.tuple #[val, .int .i64 (rdE s p : Int)])) w') := Lib.hid fun val w' h2 h4 => HP.out val _ _ w' h2.sh (hrd.2.trans (Mv.of_below h2.bel hrd.1.lt)) h4
  have HRE : Hid (ReS D G (rdS s p) p (setL L v3 5) { v with rd := v3 } (w3.setCell ⟨D, 5, none⟩ v3) (w3.setCell ⟨D, 5, none⟩ v3)) := Lib.hid ⟨hrd.1, hS4, Below.refl _ _⟩
  clear k1 k2 k3 k4 k5 hoth HP hrd
  have hc1 : W.drew.cell? ⟨D, 5, none⟩ = some v.rd := H1.out.blk.cell rfl
  have hc2 : (W.drew.alloc (.cells (pcells p).toArray 28)).cell? ⟨D, 5, none⟩ = some v.rd := (H1.out.blk.drew.alloc _).cell rfl
  have hS2 : Blk (W.drew.alloc (.cells (pcells p).toArray 28)) G (pcells p) 28 := HB.out.drew.alloc _
  obtain ⟨W2, hW2⟩ : ∃ W2, W.drew.alloc (.cells (pcells p).toArray 28) = W2 := ⟨_, rfl⟩
  have hone : ∀ {ρ : Operand → Value} {o : Oper} {x : Operand}, o.op = .buildSlice 48 1 #[(0, x)] → ρ x = .agg (pcells p).toArray → (execOp ρ o).run Tryz.prog W.drew = .ok (.value (.slice (some ⟨W.drew.heap.size, 0, none⟩) 1 1)) W2 := fun h1 h2 => by rw [← hW2]; exact q_one p h1 h2 HPO.out
  rw [hW2] at hr hc2 hS2
  refine wp_join ?_
  apply Exists.intro
  apply Exists.intro
  constructor
  · refine wp_region_sched (.take 0 (.take 1 (.take 2 (.take 3 (.take 5 (.fork 4 (.step 6 (.step 7 (.take 8 (.take 9 (.step 10 (.nil)))))) 6 (.step 4 (.step 7 (.take 8 (.take 9 (.step 10 (.nil)))))))))))) (by kernel_rfl) (by kernel_rfl) (fun d _ _ _ _ h => by cases h.1) (fun X => Blk X G (pcells p) 28) (HB.out.drew) ?_
    refine gT (.pointer (some ⟨D, 0, none⟩)) ?_; try simp only [pS]
    refine gT (.pointer (some ⟨D, 0, none⟩)) ?_; try simp only [pS]
    refine wpG_take _ (.pointer (some ⟨D, 0, none⟩)) rfl (by rfl) (fun X hX => ex_nc rfl rfl) ?_; try simp only [pS]
    refine wpG_take _ (.pointer (some ⟨D, 5, none⟩)) rfl (by rfl) (fun X hX => ex_faS (by omega) rfl rfl) ?_; try simp only [pS]
    refine wpG_take _ (.agg (pcells p).toArray) rfl (by rfl) (fun X hX => ex_ldP HPO.out hX rfl rfl) ?_; try simp only [pS]
    refine wpG_fork (wpG_mk _ rfl (by rfl) v.rd W.drew (ex_ldPs rfl rfl hc1) (fun X => Blk X G (pcells p) 28) (HB.out.drew) (fun _ h => h) ?_) ?_; try simp only [pS]
    refine wpG_mk _ rfl (by rfl) (.slice (some ⟨W.drew.heap.size, 0, none⟩) 1 1) W2 (hone rfl rfl) (fun X => Blk X G (pcells p) 28) hS2 (fun _ h => h) ?_; try simp only [pS]
    rotate_left
    refine wpG_mk _ rfl (by rfl) (.slice (some ⟨W.drew.heap.size, 0, none⟩) 1 1) W2 (hone rfl rfl) (fun X => Blk X G (pcells p) 28) hS2 (fun _ h => h) ?_; try simp only [pS]
    refine wpG_mk _ rfl (by rfl) v.rd W2 (ex_ldPs rfl rfl hc2) (fun X => Blk X G (pcells p) 28) hS2 (fun _ h => h) ?_; try simp only [pS]
    all_goals
      refine wpG_mk _ rfl (by rfl) v3 w3 (ex_appP rfl rfl rfl hr) (fun X => Blk X G (pcells p) 28) hS3 (fun _ h => h) ?_; try simp only [pS]
      refine wpG_take _ (.pointer (some ⟨D, 0, none⟩)) rfl (by rfl) (fun X hX => ex_nc rfl rfl) ?_; try simp only [pS]
      refine wpG_take _ (.pointer (some ⟨D, 5, none⟩)) rfl (by rfl) (fun X hX => ex_faS (by omega) rfl rfl) ?_; try simp only [pS]
      refine wpG_st _ rfl (by rfl) (w3.setCell ⟨D, 5, none⟩ v3) (ex_stPs rfl rfl rfl hsl hcell hfree) (fun X => Blk X G (pcells p) 28) hS4 (fun _ h => h) ?_
      refine wpG_nil ?_
      exact ⟨rfl, rfl, rfl⟩
  clear hcell hfree hS3 hS4 hr hc1 hc2 hS2 hone hW2 hsl hnD hGn hGD
  obtain ⟨bl, hbl⟩ : ∃ bl, v.bl = bl := ⟨_, rfl⟩
  obtain ⟨v1, hv1⟩ : ∃ v1 : Sv, { v with rd := v3 } = v1 := ⟨_, rfl⟩
  obtain ⟨L1, hL1⟩ : ∃ L1, setL L v3 5 = L1 := ⟨_, rfl⟩
  obtain ⟨s1, hs1⟩ : ∃ s1, rdS s p = s1 := ⟨_, rfl⟩
  have HS1 : Hid (s1.blocks = s.blocks ∧ s1.bad = s.bad) := Lib.hid (by rw [← hs1]; exact ⟨rfl, rfl⟩)
  rw [hv1, hL1, hs1] at HPQ HRE
  generalize (w3.setCell ⟨D, 5, none⟩ v3) = W1 at HPQ HRE ⊢
  clear hv1 hL1 hs1 hbl H1 HB
  obtain ⟨sp1, cap1, e1, hc1, hz1, hr1⟩ := HRE.out.sh.bad
  obtain ⟨N, hN⟩ : ∃ N, s1.bad.length = N := ⟨_, rfl⟩
  obtain ⟨a0, ha0⟩ : ∃ a, at0 p = a := ⟨_, rfl⟩
  have HA0 := Lib.hid ha0
  have HAL : Hid (a0 < 65536) := Lib.hid (by rw [← ha0]; exact at0_lt HPO.out)
  rw [hN] at e1 hc1
  have HN := Lib.hid hN; have HC1 := Lib.hid hc1; have HR1 := Lib.hid hr1; have HE1 := Lib.hid e1
  clear hN hc1 hz1 hr1 e1 ha0
  go_wp2_with fail
  go_loopw [6] (fun i wr => ∃ k : Nat, k ≤ N ∧ i = .int .i64 (k : Int) ∧ (s1.bad.take k).any (fun x => x == a0) = false ∧ ReS D G s1 p L1 v1 W1 wr) (fun i _ => N - (intOf i).toNat)
  case atStart => exact ⟨0, by omega, rfl, by simp, HRE.out⟩
  case round =>
    clear HRE
    obtain ⟨k, hk, rfl, hno, hs⟩ := hrel
    have HNO := Lib.hid hno; have HS := Lib.hid hs
    clear hno hs
    have cb := HS.out.c1
    rw [HE1.out] at cb
    by_cases hlt : k < N
    · obtain ⟨x, hx⟩ : ∃ x, s1.bad[k]? = some x := ⟨_, List.getElem?_eq_getElem (by have := HN.out; omega)⟩
      obtain ⟨g, o', rfl, hg, -, -⟩ := HR1.out (by have := HN.out; omega)
      have HCX : Hid (∀ X, ReS D G s1 p L1 v1 W1 X → X.cell? ⟨g, o' + k, none⟩ = some (.int .u16 (x : Int))) := Lib.hid (fun X hX => by
        obtain ⟨sp', cap', e, _, _, h3⟩ := hX.sh.bad
        obtain ⟨g', o2, e2, _, _, h4⟩ := h3 (by have := HN.out; omega)
        rw [HE1.out] at e
        injection e with e3 _ _
        rw [e2] at e3
        injection e3 with e4
        injection e4 with e5 e6 _
        rw [e5, e6]
        exact h4 k x hx)
      have HKN : Hid (k < N ∧ N ≤ cap1) := Lib.hid ⟨hlt, HC1.out⟩
      have HX := Lib.hid hx
      have wk1 := IntWalk.i64_in ((k : Int) + 1) (by have h1 := HN.out; rw [HS1.out.2] at h1; have := HBD.out; omega)
      clear hg hx
      go_upto_region 5 with fail
      refine gS (.take 0 (.take 1 (.take 2 (.take 3 (.take 4 (.take 5 (.take 6 (.take 7 (.take 8 (.take 9 (.take 10 (.nil)))))))))))) (ReS D G s1 p L1 v1 W1) (HS.out.drew) ?_
      refine gT (.pointer (some ⟨D, 0, none⟩)) ?_; try simp only [pS]
      refine gT (.pointer (some ⟨D, 0, none⟩)) ?_; try simp only [pS]
      refine gT (.pointer (some ⟨D, 1, none⟩)) ?_; try simp only [pS]
      refine wpG_take _ (.slice (some ⟨g, o', none⟩) N cap1) rfl (by rfl) (fun X hX => ex_ldU16s rfl rfl (by rw [← HE1.out]; exact hX.c1)) ?_; try simp only [pS]
      refine gT (.int .i64 (k : Int)) ?_; try simp only [pS]
      refine wpG_take _ (.pointer (some ⟨g, o' + k, none⟩)) rfl (by rfl) (fun X hX => ex_iaN rfl rfl rfl HKN.out) ?_; try simp only [pS]
      refine wpG_take _ (.int .u16 (x : Int)) rfl (by rfl) (fun X hX => ex_ld1 Tryz.underlying23 rfl rfl (HCX.out X hX)) ?_; try simp only [pS]
      refine gT (.pointer (some ⟨G, 37, none⟩)) ?_; try simp only [pS]
      refine gT (.pointer (some ⟨G, 37, none⟩)) ?_; try simp only [pS]
      refine wpG_take _ (.int .u16 (a0 : Int)) rfl (by rfl) (fun X hX => ex_ld1 Tryz.underlying23 rfl rfl (by rw [← HA0.out]; exact at0_cell HPO.out hX.box)) ?_; try simp only [pS]
      refine wpG_take _ (.bool (decide (x = a0))) rfl (by rfl) (fun X hX => ex_eq16 rfl rfl rfl) ?_; try simp only [pS]
      refine wpG_nil ?_
      cases hcase : decide (x = a0) with
      | false =>
        have HN3 : Hid ((s1.bad.take (k + 1)).any (fun x => x == a0) = false) := Lib.hid (any_take16 HX.out HNO.out hcase)
        go_wp2_with fail
        go_roundw
        case rel => exact ⟨k + 1, by omega, by go_num, HN3.out, HS.out.drew⟩
        case measure => simp [intOf]; omega
      | true =>
        have HE21 : Hid (rdE s p = 21 ∧ rdB s p = []) := Lib.hid (by
          have h1 := any_at16 HX.out hcase
          rw [HS1.out.2, ← HA0.out] at h1
          unfold rdE rdB
          rw [if_pos h1, if_pos h1]
          exact ⟨rfl, rfl⟩)
        have HEND := Lib.hid (HPQ.out (.slice none 0 0) _ HS.out.drew (by rw [HE21.out.2]; exact bkv_nil _ _))
        rw [HE21.out.1] at HEND
        go_wp2_with fail
        exact HEND.out
    · obtain rfl : k = N := by omega
      have hno := HNO.out
      rw [List.take_of_length_le (by have := HN.out; omega)] at hno
      have hno' : s.bad.any (fun x => x == at0 p) = false := by rw [HA0.out, ← HS1.out.2]; exact hno
      have HRE : Hid (rdE s p = if a0 = 0 ∨ s.blocks.length < a0 then 6 else 0) := Lib.hid (by unfold rdE; rw [if_neg (by rw [hno']; decide), HA0.out])
      have HRB : Hid (rdB s p = if a0 = 0 ∨ s.blocks.length < a0 then [] else s.blocks.getD (a0 - 1) []) := Lib.hid (by unfold rdB; rw [if_neg (by rw [hno']; decide), HA0.out])
      obtain ⟨vs, ho, -, hvl, hvb, -⟩ := HS.out.sh.row
      obtain ⟨sp2, cap2, e2, hc2, hg2⟩ := owns_form ho
      rw [HS1.out.1] at hvl
      obtain ⟨M, hM⟩ : ∃ M, vs.length = M := ⟨_, rfl⟩
      have HM : Hid (s.blocks.length = M) := Lib.hid (by rw [← hvl]; exact hM)
      rw [hM] at e2 hc2 hg2
      have HE2 := Lib.hid e2; have HC2 := Lib.hid hc2; have HG2 := Lib.hid hg2
      have HVB := Lib.hid hvb; have HVM := Lib.hid hM; have HOW := Lib.hid ho
      have hcv : ∀ X, ReS D G s1 p L1 v1 W1 X → X.cell? ⟨D, 0, none⟩ = some (.slice sp2 M cap2) := fun X hX => by rw [← HE2.out]; exact hX.c0
      have HCV := Lib.hid hcv
      clear hno hno' e2 hc2 hg2 hvb ho hvl hM hcv hlt hk HNO
      go_upto_region 7 with fail
      by_cases h0 : a0 = 0
      · subst h0
        have HEND := Lib.hid (HPQ.out (.slice none 0 0) _ HS.out.drew (by rw [HRB.out, if_pos (.inl rfl)]; exact bkv_nil _ _))
        rw [HRE.out, if_pos (.inl rfl)] at HEND
        refine gS (.take 0 (.take 1 (.take 2 (.take 3 (.take 4 (.take 5 (.take 6 (.take 7 (.take 8 (.take 9 (.take 10 (.take 11 (.take 12 (.take 13 (.take 14 (.take 15 (.nil))))))))))))))))) (ReS D G s1 p L1 v1 W1) (HS.out.drew) ?_
        refine gT (.pointer (some ⟨G, 37, none⟩)) ?_; try simp only [pS]
        refine gT (.pointer (some ⟨G, 37, none⟩)) ?_; try simp only [pS]
        refine wpG_take _ (.int .u16 ((0 : Nat) : Int)) rfl (by rfl) (fun X hX => ex_ld1 Tryz.underlying23 rfl rfl (by rw [← HA0.out]; exact at0_cell HPO.out hX.box)) ?_; try simp only [pS]
        refine gT (.bool true) ?_; try simp only [pS]
        refine gT (.bool true) ?_; try simp only [pS]
        refine wpG_pass _ rfl (by rfl) ?_; try simp only [pS]
        refine wpG_pass _ rfl (by rfl) ?_; try simp only [pS]
        refine wpG_pass _ rfl (by rfl) ?_; try simp only [pS]
        refine wpG_pass _ rfl (by rfl) ?_; try simp only [pS]
        refine wpG_pass _ rfl (by rfl) ?_; try simp only [pS]
        refine wpG_pass _ rfl (by rfl) ?_; try simp only [pS]
        refine wpG_pass _ rfl (by rfl) ?_; try simp only [pS]
        refine wpG_pass _ rfl (by rfl) ?_; try simp only [pS]
        refine wpG_pass _ rfl (by rfl) ?_; try simp only [pS]
        refine wpG_pass _ rfl (by rfl) ?_; try simp only [pS]
        refine gT (.bool true) ?_; try simp only [pS]
        refine wpG_nil ?_
        go_wp2_with fail
        exact HEND.out
      · have hz0 : ((a0 : Int) == 0) = false := by simp [h0]
        have hwa := IntWalk.i64_in (a0 : Int) (by have := HAL.out; omega)
        by_cases hM : M < a0
        · have HEND := Lib.hid (HPQ.out (.slice none 0 0) _ HS.out.drew (by rw [HRB.out, if_pos (.inr (by rw [HM.out]; exact hM))]; exact bkv_nil _ _))
          rw [HRE.out, if_pos (.inr (by rw [HM.out]; exact hM))] at HEND
          have hgt : (M : Int) < (a0 : Int) := by omega
          refine gS (.take 0 (.take 1 (.take 2 (.take 3 (.take 4 (.take 5 (.take 6 (.take 7 (.take 8 (.take 9 (.take 10 (.take 11 (.take 12 (.take 13 (.take 14 (.take 15 (.nil))))))))))))))))) (ReS D G s1 p L1 v1 W1) (HS.out.drew) ?_
          refine gT (.pointer (some ⟨G, 37, none⟩)) ?_; try simp only [pS]
          refine gT (.pointer (some ⟨G, 37, none⟩)) ?_; try simp only [pS]
          refine wpG_take _ (.int .u16 (a0 : Int)) rfl (by rfl) (fun X hX => ex_ld1 Tryz.underlying23 rfl rfl (by rw [← HA0.out]; exact at0_cell HPO.out hX.box)) ?_; try simp only [pS]
          refine gT (.bool false) ?_; try simp only [pS]
          refine gT (.bool false) ?_; try simp only [pS]
          refine gT (.pointer (some ⟨G, 37, none⟩)) ?_; try simp only [pS]
          refine gT (.pointer (some ⟨G, 37, none⟩)) ?_; try simp only [pS]
          refine wpG_take _ (.int .u16 (a0 : Int)) rfl (by rfl) (fun X hX => ex_ld1 Tryz.underlying23 rfl rfl (by rw [← HA0.out]; exact at0_cell HPO.out hX.box)) ?_; try simp only [pS]
          refine gT (.int .i64 (a0 : Int)) ?_; try simp only [pS]
          refine gT (.pointer (some ⟨D, 0, none⟩)) ?_; try simp only [pS]
          refine gT (.pointer (some ⟨D, 0, none⟩)) ?_; try simp only [pS]
          refine gT (.pointer (some ⟨D, 0, none⟩)) ?_; try simp only [pS]
          refine wpG_take _ (.slice sp2 M cap2) rfl (by rfl) (fun X hX => ex_ldBbs rfl rfl (HCV.out X hX)) ?_; try simp only [pS]
          refine gT (.int .i64 M) ?_; try simp only [pS]
          refine gT (.bool true) ?_; try simp only [pS]
          refine gT (.bool true) ?_; try simp only [pS]
          refine wpG_nil ?_
          go_wp2_with fail
          exact HEND.out
        · have hgt : ¬ (M : Int) < (a0 : Int) := by omega
          refine gS (.take 0 (.take 1 (.take 2 (.take 3 (.take 4 (.take 5 (.take 6 (.take 7 (.take 8 (.take 9 (.take 10 (.take 11 (.take 12 (.take 13 (.take 14 (.take 15 (.nil))))))))))))))))) (ReS D G s1 p L1 v1 W1) (HS.out.drew) ?_
          refine gT (.pointer (some ⟨G, 37, none⟩)) ?_; try simp only [pS]
          refine gT (.pointer (some ⟨G, 37, none⟩)) ?_; try simp only [pS]
          refine wpG_take _ (.int .u16 (a0 : Int)) rfl (by rfl) (fun X hX => ex_ld1 Tryz.underlying23 rfl rfl (by rw [← HA0.out]; exact at0_cell HPO.out hX.box)) ?_; try simp only [pS]
          refine gT (.bool false) ?_; try simp only [pS]
          refine gT (.bool false) ?_; try simp only [pS]
          refine gT (.pointer (some ⟨G, 37, none⟩)) ?_; try simp only [pS]
          refine gT (.pointer (some ⟨G, 37, none⟩)) ?_; try simp only [pS]
          refine wpG_take _ (.int .u16 (a0 : Int)) rfl (by rfl) (fun X hX => ex_ld1 Tryz.underlying23 rfl rfl (by rw [← HA0.out]; exact at0_cell HPO.out hX.box)) ?_; try simp only [pS]
          refine gT (.int .i64 (a0 : Int)) ?_; try simp only [pS]
          refine gT (.pointer (some ⟨D, 0, none⟩)) ?_; try simp only [pS]
          refine gT (.pointer (some ⟨D, 0, none⟩)) ?_; try simp only [pS]
          refine gT (.pointer (some ⟨D, 0, none⟩)) ?_; try simp only [pS]
          refine wpG_take _ (.slice sp2 M cap2) rfl (by rfl) (fun X hX => ex_ldBbs rfl rfl (HCV.out X hX)) ?_; try simp only [pS]
          refine gT (.int .i64 M) ?_; try simp only [pS]
          refine gT (.bool false) ?_; try simp only [pS]
          refine gT (.bool false) ?_; try simp only [pS]
          refine wpG_nil ?_
          obtain ⟨g2, rfl, hg2, hown⟩ := HG2.out (by omega)
          obtain ⟨c, rfl⟩ : ∃ c, a0 = c + 1 := ⟨a0 - 1, by omega⟩
          obtain ⟨u, hu⟩ : ∃ u, vs[c]? = some u := ⟨_, List.getElem?_eq_getElem (by have := HVM.out; omega)⟩
          obtain ⟨b, hb⟩ : ∃ b, s.blocks[c]? = some b := ⟨_, List.getElem?_eq_getElem (by have := HM.out; omega)⟩
          have HBK : Hid (∀ X, Below wr.heap.size wr X → BkV X L1 u b) := Lib.hid (fun X hX => (HVB.out c u b hu (by rw [HS1.out.1]; exact hb)).chg (F := fun _ => False) (Chg.of_below hX) (fun _ hf => hf.elim) (fun _ _ => rfl) HS.out.sh.lt)
          obtain ⟨spu, capu, rfl, -⟩ := HBK.out wr (Below.refl _ _)
          have HCU : Hid (wr.cell? ⟨g2, c, none⟩ = some (.slice spu b.length capu)) := Lib.hid (by
            have h1 : wr.ownsRow 0 29 1 v1.bl vs.length vs := HOW.out
            rw [HE2.out, HVM.out] at h1
            rw [World.ownsRow.cellAt h1 c (by omega)]
            exact hu)
          have HKM : Hid (c < M ∧ M ≤ cap2) := Lib.hid ⟨by omega, HC2.out⟩
          have HRB2 : Hid (rdB s p = b) := Lib.hid (by
            rw [HRB.out, if_neg (by have := HM.out; omega)]
            simp [List.getD_eq_getElem?_getD, hb])
          have hsub : IntKind.u16.wrap (c : Int) = (c : Int) := by rw [IntKind.wrap_u16]; have := HAL.out; omega
          have HEND := Lib.hid (HPQ.out (.slice spu b.length capu) wr.drew.drew HS.out.drew.drew (by rw [HRB2.out]; exact HBK.out _ (Below.refl _ _).drew.drew))
          rw [HRE.out, if_neg (by have := HM.out; omega)] at HEND
          obtain ⟨bn, hbn⟩ : ∃ n, b.length = n := ⟨_, rfl⟩
          rw [hbn] at HCU HEND
          clear hbn hu hb hg2 hown h0 hM hgt hz0
          go_upto_region 9 with fail
          refine gS (.take 0 (.take 1 (.take 2 (.take 3 (.take 4 (.take 5 (.take 6 (.take 7 (.take 8 (.take 9 (.take 10 (.take 11 (.nil))))))))))))) (fun X => ReS D G s1 p L1 v1 W1 X ∧ X.cell? ⟨g2, c, none⟩ = some (.slice spu bn capu)) (⟨HS.out.drew.drew, HCU.out⟩) ?_
          refine gT (.pointer (some ⟨D, 0, none⟩)) ?_; try simp only [pS]
          refine gT (.pointer (some ⟨D, 0, none⟩)) ?_; try simp only [pS]
          refine gT (.pointer (some ⟨D, 0, none⟩)) ?_; try simp only [pS]
          refine wpG_take _ (.slice (some ⟨g2, 0, none⟩) M cap2) rfl (by rfl) (fun X hX => ex_ldBbs rfl rfl (HCV.out X hX.1)) ?_; try simp only [pS]
          refine gT (.pointer (some ⟨G, 37, none⟩)) ?_; try simp only [pS]
          refine gT (.pointer (some ⟨G, 37, none⟩)) ?_; try simp only [pS]
          refine wpG_take _ (.int .u16 ((c + 1 : Nat) : Int)) rfl (by rfl) (fun X hX => ex_ld1 Tryz.underlying23 rfl rfl (by rw [← HA0.out]; exact at0_cell HPO.out hX.1.box)) ?_; try simp only [pS]
          refine wpG_take _ (.int .u16 (c : Int)) rfl (by rfl) (fun X hX => by have := hsub; go_simp) ?_; try simp only [pS]
          refine wpG_take _ (.pointer (some ⟨g2, c, none⟩)) rfl (by rfl) (fun X hX => ex_iaB rfl rfl rfl HKM.out) ?_; try simp only [pS]
          refine wpG_take _ (.slice spu bn capu) rfl (by rfl) (fun X hX => ex_ldTb rfl rfl hX.2) ?_; try simp only [pS]
          refine gT (.slice spu bn capu) ?_; try simp only [pS]
          refine gT (.int .i64 0) ?_; try simp only [pS]
          refine wpG_nil ?_
          go_wp2_with fail
          exact HEND.out
end Go.Proofs.YtjgjohdeeeoeoaaGreatDoor
