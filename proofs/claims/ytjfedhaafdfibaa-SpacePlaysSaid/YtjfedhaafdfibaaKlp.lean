/- A space behind any acts answers, and counts, what the document says: the law, walked. -/
import Derived.Test.YtjfedhaafdfibaaKru
import Derived.Deep.DeepCutAuto
import Derived.Deep.CutBlock
namespace Go.Proofs.Ytjfedhaafdfibaa
open Go.RowKit

def PlAt (W wr : World) (D : Nat) (B : Nat → Nat) (G : Nat) (R : Nat → Nat) : Prop := ∃ sp lab v rd, Pl W wr D B sp G lab R v rd ∧ ∀ d, d < 2 → (sp d).length ≤ 29
/-- What the two errors are. -/
def Same2 (a b : Value) : Prop := ∃ c : Nat, a = .int .i64 (c : Int) ∧ b = .int .i64 (c : Int)
theorem count_none0 (d : Int) (D : Nat) (w : World) (hd : d < 0 ∨ 2 ≤ d) : Calls Try.prog 18 #[.pointer (some ⟨D, 0, none⟩), .int .i64 d] w fun e w' => e = .returned (.agg #[.int .i64 0, .int .i64 0, .int .i64 0, .int .i64 0]) ∧ Below w.heap.size w w' := count_none d D w hd
theorem exk_fa35 {ρ : Operand → Value} {o : Oper} {x : Operand} {w : World} {b j : Nat} (hj : j < 3) (ho : o.op = .fieldAddr 35 x j) (hx : ρ x = .pointer (some ⟨b, 0, none⟩)) : (execOp ρ o).run Try.prog w = .ok (.value (.pointer (some ⟨b, j, none⟩))) w := by
  unfold execOp
  simp only [ho]
  match j, hj with
  | 0, _ | 1, _ | 2, _ => go_simp
theorem exk_cv8 {ρ : Operand → Value} {o : Oper} {x : Operand} {w : World} {q : Int} (ho : o.op = .convert 5 3 x) (hx : ρ x = .int .u8 q) (h : IntKind.i64.wrap q = q) : (execOp ρ o).run Try.prog w = .ok (.value (.int .i64 q)) w := by
  unfold execOp
  simp only [ho]
  go_simp
theorem exk_ldi {ρ : Operand → Value} {o : Oper} {x : Operand} {w : World} {ad : Addr} {u : Value} (ho : o.op = .load 3 x) (hx : ρ x = .pointer (some ad)) (hc : w.cell? ad = some u) : (execOp ρ o).run Try.prog w = .ok (.value u) w := by
  unfold execOp
  simp only [ho]
  go_simp
theorem exk_ld8 {ρ : Operand → Value} {o : Oper} {x : Operand} {w : World} {ad : Addr} {u : Value} (ho : o.op = .load 5 x) (hx : ρ x = .pointer (some ad)) (hc : w.cell? ad = some u) : (execOp ρ o).run Try.prog w = .ok (.value u) w := by
  unfold execOp
  simp only [ho]
  go_simp
theorem exk_ld16 {ρ : Operand → Value} {o : Oper} {x : Operand} {w : World} {ad : Addr} {u : Value} (ho : o.op = .load 33 x) (hx : ρ x = .pointer (some ad)) (hc : w.cell? ad = some u) : (execOp ρ o).run Try.prog w = .ok (.value u) w := by
  unfold execOp
  simp only [ho]
  go_simp
set_option maxRecDepth 100000 in
set_option maxHeartbeats 40000000 in
theorem plays_body (na nb m c1 : Nat) (l : List KA) (sp : Option Addr) (W : World) (h1 : l.length = m) (hm : m ≤ 200) (ha1 : 1 ≤ na) (ha2 : na ≤ 30) (hb1 : 1 ≤ nb) (hb2 : nb ≤ 30) (A1 : KActs W sp l) : Calls Try.prog 3 #[.int .i64 (na : Int), .int .i64 (nb : Int), .slice sp m c1] W fun e w' => e = .returned (.bool true) ∧ Below W.heap.size W w' := by
  have HA1 := Lib.hid A1
  have H1 := Lib.hid h1
  have q1 : ¬ 200 < (m : Int) := by omega
  have q2 : ¬ 30 < (na : Int) := by omega
  have q3 : ¬ 30 < (nb : Int) := by omega
  have q4 : ¬ (na : Int) < 1 := by omega
  have q5 : ¬ (nb : Int) < 1 := by omega
  have q6 : decide ((na : Int) < 1) = false := by simp; omega
  have q7 : decide ((nb : Int) < 1) = false := by simp; omega
  clear A1 h1
  go_enter Try.func3, Try.ntmps3
  go_wp2_with fail
  refine (new_any (na : Int) (nb : Int) W).mono ?_
  rintro e w1 ⟨hbw, _, hy⟩
  obtain ⟨B, rfl, h1, hB⟩ := hy ⟨⟨by omega, by omega⟩, ⟨by omega, by omega⟩⟩
  have HL : Hid (Live W w1 W.heap.size B (freshS (na - 1) (nb - 1))) := Lib.hid ⟨by rw [show ((na : Int) - 1).toNat = na - 1 by omega, show ((nb : Int) - 1).toNat = nb - 1 by omega] at h1; exact h1, hB, hbw⟩
  clear h1 hB hbw hy
  obtain ⟨D, hD⟩ : ∃ D, W.heap.size = D := ⟨_, rfl⟩
  have HD := Lib.hid hD
  rw [hD] at HL ⊢
  clear hD
  go_wp2_with fail
  obtain ⟨r, hr⟩ : ∃ r, w1.heap.size = r := ⟨_, rfl⟩
  have hP0 : PlAt W (((w1.alloc (.cells #[.int .i64 (na : Int), .slice none 0 0, .slice none 0 0, .slice none 0 0] 31)).alloc (.cells #[.int .i64 (nb : Int), .slice none 0 0, .slice none 0 0, .slice none 0 0] 31)).alloc (.cells #[.pointer (some ⟨w1.heap.size, 0, none⟩), .pointer (some ⟨w1.heap.size + 1, 0, none⟩)] 28)) D B (w1.heap.size + 2) (fun d => if d = 0 then w1.heap.size else w1.heap.size + 1) := by
    have b1 : Below w1.heap.size w1 (((w1.alloc (.cells #[.int .i64 (na : Int), .slice none 0 0, .slice none 0 0, .slice none 0 0] 31)).alloc (.cells #[.int .i64 (nb : Int), .slice none 0 0, .slice none 0 0, .slice none 0 0] 31)).alloc (.cells #[.pointer (some ⟨w1.heap.size, 0, none⟩), .pointer (some ⟨w1.heap.size + 1, 0, none⟩)] 28)) := (((Below.refl _ _).alloc (Nat.le_refl _) _).alloc (by simp) _).alloc (by simp; omega) _
    have hlo := HL.out.bel.size
    have hB0 : Blk (((w1.alloc (.cells #[.int .i64 (na : Int), .slice none 0 0, .slice none 0 0, .slice none 0 0] 31)).alloc (.cells #[.int .i64 (nb : Int), .slice none 0 0, .slice none 0 0, .slice none 0 0] 31)).alloc (.cells #[.pointer (some ⟨w1.heap.size, 0, none⟩), .pointer (some ⟨w1.heap.size + 1, 0, none⟩)] 28)) w1.heap.size [.int .i64 (na : Int), .slice none 0 0, .slice none 0 0, .slice none 0 0] 31 := ((Blk.new w1 [.int .i64 (na : Int), .slice none 0 0, .slice none 0 0, .slice none 0 0] 31).alloc _).alloc _
    have hB1 : Blk (((w1.alloc (.cells #[.int .i64 (na : Int), .slice none 0 0, .slice none 0 0, .slice none 0 0] 31)).alloc (.cells #[.int .i64 (nb : Int), .slice none 0 0, .slice none 0 0, .slice none 0 0] 31)).alloc (.cells #[.pointer (some ⟨w1.heap.size, 0, none⟩), .pointer (some ⟨w1.heap.size + 1, 0, none⟩)] 28)) (w1.heap.size + 1) [.int .i64 (nb : Int), .slice none 0 0, .slice none 0 0, .slice none 0 0] 31 :=
      (Blk.new' (w1.alloc (.cells #[.int .i64 (na : Int), .slice none 0 0, .slice none 0 0, .slice none 0 0] 31)) _ [.int .i64 (nb : Int), .slice none 0 0, .slice none 0 0, .slice none 0 0] 31 (w1.heap.size + 1) (by simp) rfl).alloc _
    refine ⟨freshS (na - 1) (nb - 1), fun _ => 0, fun _ _ => .slice none 0 0, fun d => ⟨if d = 0 then na else nb, fun _ => []⟩, ⟨HL.out.below b1, Blk.new' _ _ _ _ _ (by simp) rfl, fun d hd => ?_, by simp, by omega, fun d hd => ?_⟩, fun d hd => ?_⟩
    · obtain rfl | rfl : d = 0 ∨ d = 1 := by omega
      · exact ⟨hB0, fun i hi => ⟨ownU_nil _ _, fun g hg => by cases hg⟩, hlo⟩
      · exact ⟨hB1, fun i hi => ⟨ownU_nil _ _, fun g hg => by cases hg⟩, Nat.le_succ_of_le hlo⟩
    · obtain rfl | rfl : d = 0 ∨ d = 1 := by omega
      · have := SimD.fresh (na - 1)
        rw [Nat.sub_add_cancel ha1] at this
        exact this
      · have := SimD.fresh (nb - 1)
        rw [Nat.sub_add_cancel hb1] at this
        exact this
    · unfold freshS; rw [List.length_replicate]; split <;> omega
  generalize (((w1.alloc (.cells #[.int .i64 (na : Int), .slice none 0 0, .slice none 0 0, .slice none 0 0] 31)).alloc (.cells #[.int .i64 (nb : Int), .slice none 0 0, .slice none 0 0, .slice none 0 0] 31)).alloc (.cells #[.pointer (some ⟨w1.heap.size, 0, none⟩), .pointer (some ⟨w1.heap.size + 1, 0, none⟩)] 28)) = w2 at hP0 ⊢
  have HP0 := Lib.hid hP0
  clear hP0 HL
  rw [hr] at HP0 ⊢
  clear hr
  rw [show r + 1 + 1 = r + 2 from rfl]
  obtain ⟨R, hR⟩ : ∃ R : Nat → Nat, (fun d => if d = 0 then r else r + 1) = R := ⟨_, rfl⟩
  obtain ⟨G, hG⟩ : ∃ G, r + 2 = G := ⟨_, rfl⟩
  rw [hR, hG] at HP0
  rw [hG]
  clear hR hG
  go_loopw [10] (fun i wr => ∃ j : Nat, j ≤ m ∧ i = .int .i64 (j : Int) ∧ PlAt W wr D B G R) (fun i _ => m - (intOf i).toNat)
  case atStart => exact ⟨0, by omega, rfl, HP0.out⟩
  case round =>
    clear HP0
    obtain ⟨j, hj, rfl, sp0, lab, v, rd, hA, hlen⟩ := hrel
    have wj := IntWalk.i64_in ((j : Int) + 1) (by omega)
    have HA := Lib.hid hA; have HN := Lib.hid hlen
    clear hA hlen
    by_cases hlt : j < m
    · obtain ⟨x, hx⟩ : ∃ x, l[j]? = some x := ⟨_, List.getElem?_eq_getElem (by rw [H1.out]; exact hlt)⟩
      have hok := HA1.out.1 x (List.mem_of_getElem? hx)
      obtain ⟨ga, oa, he, hga, hca⟩ := (HA1.out.below HA.out.live.bel (Nat.le_refl _)).2 (by rw [H1.out]; omega)
      subst he
      have c0 : wr.cell? ⟨ga, oa + j * 3, none⟩ = some (.int .u8 (x.what : Int)) := hca j x hx 0 _ rfl
      have c1 := hca j x hx 1 _ rfl
      have c2 := hca j x hx 2 _ rfl
      obtain ⟨ox1, ox2, ox3, ox4⟩ := hok
      clear hx hca
      obtain ⟨dd, hdd⟩ : ∃ dd : Int, x.disk = dd := ⟨_, rfl⟩
      obtain ⟨ad, had⟩ : ∃ ad : Nat, x.addr = ad := ⟨_, rfl⟩
      obtain ⟨wh, hwh⟩ : ∃ wh : Nat, x.what = wh := ⟨_, rfl⟩
      rw [hdd] at ox2 ox3 c1
      rw [had] at ox4 c2
      rw [hwh] at ox1 c0
      clear hdd had hwh
      go_upto_region 13 with fail
      have hY : Pl W (wr.alloc (.cells #[.int .u8 (wh : Int), .int .i64 dd, .int .u16 (ad : Int)] 35)) D B sp0 G lab R v rd := HA.out.below ((Below.refl _ _).alloc (Nat.le_refl _) _)
      have hbx : Blk (wr.alloc (.cells #[.int .u8 (wh : Int), .int .i64 dd, .int .u16 (ad : Int)] 35)) wr.heap.size [.int .u8 (wh : Int), .int .i64 dd, .int .u16 (ad : Int)] 35 := Blk.new wr [.int .u8 (wh : Int), .int .i64 dd, .int .u16 (ad : Int)] 35
      generalize (wr.alloc (.cells #[.int .u8 (wh : Int), .int .i64 dd, .int .u16 (ad : Int)] 35)) = Y at hY hbx ⊢
      have HY := Lib.hid hY
      have HBY := Lib.hid hbx
      have a0 := hbx.cell (j := 0) rfl
      have a1 := hbx.cell (j := 1) rfl
      have a2 := hbx.cell (j := 2) rfl
      clear hY hbx c0 c1 c2 HA
      obtain ⟨gx, hgx⟩ : ∃ gx, wr.heap.size = gx := ⟨_, rfl⟩
      rw [hgx] at a0 a1 a2 HBY ⊢
      clear hgx hga
      have hth : ∃ th : Bool, th = decide (dd = 0 ∨ dd = 1) := ⟨_, rfl⟩
      obtain ⟨th, hth⟩ := hth
      have HTH := Lib.hid hth
      clear hth
      go_cut [12] (fun s wy => s = .bool th ∧ wy = Y)
      case first =>
        as_aux_lemma =>
          have hth := HTH.out
          by_cases z0 : dd = 0
          · subst z0
            obtain rfl : th = true := by simpa using hth
            clear hth HTH
            go_wp2_with fail
            go_meet
            exact ⟨rfl, rfl⟩
          · have t0 : (dd == 0) = false := by simp; omega
            by_cases z1 : dd = 1
            · subst z1
              obtain rfl : th = true := by simpa using hth
              clear hth HTH
              go_wp2_with fail
              go_meet
              exact ⟨rfl, rfl⟩
            · have t1 : (dd == 1) = false := by simp; omega
              obtain rfl : th = false := by rw [hth]; simp; exact ⟨z0, z1⟩
              clear hth HTH
              go_wp2_with fail
              go_meet
              exact ⟨rfl, rfl⟩
      case rest =>
        obtain ⟨rfl, rfl⟩ := hcut
        go_upto_block 2 with (fail)
        go_cut [13, 14] (fun s13 s14 wy => Same2 s13 s14 ∧ PlAt W wy D B G R)
        case first =>
          by_cases z0 : wh = 0
          · skip
            as_aux_lemma =>
              obtain rfl : wh = 0 := by omega
              have e0 : ((0 : Nat) : Int) = (0 : Int) := rfl
              rw [e0] at a0
              clear e0
              by_cases hd : dd = 0 ∨ dd = 1
              · skip
                obtain ⟨d, rfl, hd3⟩ : ∃ d : Nat, dd = (d : Int) ∧ d < 2 := ⟨dd.toNat, by omega, by omega⟩
                have hd2 : (d : Int) < 2 := by omega
                have hd4 : ¬ 2 ≤ (d : Int) := by omega
                obtain rfl : th = true := by rw [HTH.out]; simp; omega
                have p0 := HY.out.ptr hd3
                have hl29 := HN.out d hd3
                obtain ⟨z, rd', sp', hc, e1, e2, hb⟩ := alloc_pair (HY.out.rds d hd3) (HY.out.sim d hd3) (by omega)
                have HC := Lib.hid hc; have HE1 := Lib.hid e1; have HE2 := Lib.hid e2; have HB := Lib.hid hb
                clear hc e1 e2 hb
                go_wp2_with fail
                refine HC.out.mono ?_
                rintro e w3 ⟨rfl, hp⟩
                obtain ⟨lab3, v3, hP3⟩ := HY.out.mem.ref hd3 hp
                have HP3 := Lib.hid hP3
                have hbx3 := hp.blk (HY.out.rds d hd3).blk HBY.out (by decide) (by decide)
                have b1 := hbx3.cell (j := 1) rfl
                clear hP3 hp hbx3 a0 a1 a2 p0
                go_wp2_with fail
                refine (alloc_any d D B sp0 w3 HP3.out.live.at' hd3).mono ?_
                rw [HE1.out, HE2.out]
                rintro e w4 ⟨rfl, h4⟩
                have HP4 := Lib.hid (HP3.out.space h4)
                clear h4 b1
                go_wp2_with fail
                go_meet
                exact ⟨⟨0, rfl, rfl⟩, _, _, _, _, HP4.out.pl (sims_up HY.out.sim HB.out), HB.out.lens HN.out⟩
              · skip
                have hdn : dd < 0 ∨ 2 ≤ dd := by omega
                obtain rfl : th = false := by rw [HTH.out]; simp; omega
                have HDN := Lib.hid hdn
                clear hdn
                go_wp2_with fail
                refine (alloc_none dd D _ HDN.out).mono ?_
                rintro e w4 ⟨rfl, h4⟩
                have HP4 := Lib.hid (HY.out.below h4)
                clear h4 a0 a1 a2
                go_wp2_with fail
                go_meet
                exact ⟨⟨0, rfl, rfl⟩, _, _, _, _, HP4.out, HN.out⟩
          · have t0 : ((wh : Int) == 0) = false := by simp; omega
            by_cases z1 : wh = 1
            · skip
              as_aux_lemma =>
                obtain rfl : wh = 1 := by omega
                have e1 : ((1 : Nat) : Int) = (1 : Int) := rfl
                rw [e1] at a0
                clear e1
                by_cases hd : dd = 0 ∨ dd = 1
                · skip
                  obtain ⟨d, rfl, hd3⟩ : ∃ d : Nat, dd = (d : Int) ∧ d < 2 := ⟨dd.toNat, by omega, by omega⟩
                  have hd2 : (d : Int) < 2 := by omega
                  have hd4 : ¬ 2 ≤ (d : Int) := by omega
                  obtain rfl : th = true := by rw [HTH.out]; simp; omega
                  have p0 := HY.out.ptr hd3
                  have hl29 := HN.out d hd3
                  have HYD : Hid (Pl W wc.drew D B sp0 G lab R v rd) := Lib.hid (HY.out.below ⟨rfl, rfl, rfl, Nat.le_refl _, fun _ _ => rfl⟩)
                  have HBQ : Hid (Blk wc.drew gx [.int .u8 1, .int .i64 (d : Int), .int .u16 (ad : Int)] 35) := Lib.hid HBY.out.drew
                  have HPT : Hid (wc.drew.cell? ⟨G, d, none⟩ = some (.pointer (some ⟨R d, 0, none⟩))) := Lib.hid p0
                  obtain ⟨c, rd', sp', hc, e1, e2, hb⟩ := pair_mark (HYD.out.rds d hd3) (HYD.out.sim d hd3) (by omega) ad ox4
                  have HC := Lib.hid hc; have HE1 := Lib.hid e1; have HE2 := Lib.hid e2; have HB := Lib.hid hb
                  clear hc e1 e2 hb p0
                  go_upto_region 35 with fail
                  clear a0 a1 a2
                  refine wp_region_sched (.take 0 (.take 1 (.take 2 (.take 3 (.take 4 (.take 5 (.take 6 (.take 7 (.take 8 (.take 9 (.take 10 (.step 11 (.take 12 (.nil)))))))))))))) (by kernel_rfl) (by kernel_rfl) (fun d _ _ _ _ h => by cases d <;> exact h) (fun Z => Blk Z gx [.int .u8 1, .int .i64 (d : Int), .int .u16 (ad : Int)] 35 ∧ Z.cell? ⟨G, d, none⟩ = some (.pointer (some ⟨R d, 0, none⟩))) ⟨HBQ.out, HPT.out⟩ ?_
                  refine wpG_take _ (.slice (some ⟨G, 0, none⟩) 2 2) rfl (by rfl) (fun Z hZ => by rfl) ?_
                  (try simp only [Act.put, List.setIfInBounds_toArray, List.set_cons_zero, List.set_cons_succ])
                  refine wpG_take _ (.pointer (some ⟨gx, 1, none⟩)) rfl (by rfl) (fun Z hZ => exk_fa35 (by omega) rfl rfl) ?_
                  (try simp only [Act.put, List.setIfInBounds_toArray, List.set_cons_zero, List.set_cons_succ])
                  refine wpG_take _ (.int .i64 (d : Int)) rfl (by rfl) (fun Z hZ => exk_ldi rfl rfl (hZ.1.cell rfl)) ?_
                  (try simp only [Act.put, List.setIfInBounds_toArray, List.set_cons_zero, List.set_cons_succ])
                  refine wpG_take _ (.pointer (some ⟨G, d, none⟩)) rfl (by rfl) (fun Z hZ => exk_ia32 hd3 rfl rfl rfl) ?_
                  (try simp only [Act.put, List.setIfInBounds_toArray, List.set_cons_zero, List.set_cons_succ])
                  refine wpG_take _ (.pointer (some ⟨R d, 0, none⟩)) rfl (by rfl) (fun Z hZ => exk_ldp rfl rfl hZ.2) ?_
                  (try simp only [Act.put, List.setIfInBounds_toArray, List.set_cons_zero, List.set_cons_succ])
                  refine wpG_take _ (.pointer (some ⟨gx, 0, none⟩)) rfl (by rfl) (fun Z hZ => exk_fa35 (by omega) rfl rfl) ?_
                  (try simp only [Act.put, List.setIfInBounds_toArray, List.set_cons_zero, List.set_cons_succ])
                  refine wpG_take _ (.int .u8 1) rfl (by rfl) (fun Z hZ => exk_ld8 rfl rfl (hZ.1.cell rfl)) ?_
                  (try simp only [Act.put, List.setIfInBounds_toArray, List.set_cons_zero, List.set_cons_succ])
                  refine wpG_take _ (.int .i64 1) rfl (by rfl) (fun Z hZ => exk_cv8 rfl rfl (by decide)) ?_
                  (try simp only [Act.put, List.setIfInBounds_toArray, List.set_cons_zero, List.set_cons_succ])
                  refine wpG_take _ (.int .i64 0) rfl (by rfl) (fun Z hZ => exk_sub rfl rfl rfl (by decide)) ?_
                  (try simp only [Act.put, List.setIfInBounds_toArray, List.set_cons_zero, List.set_cons_succ])
                  refine wpG_take _ (.pointer (some ⟨gx, 2, none⟩)) rfl (by rfl) (fun Z hZ => exk_fa35 (by omega) rfl rfl) ?_
                  (try simp only [Act.put, List.setIfInBounds_toArray, List.set_cons_zero, List.set_cons_succ])
                  refine wpG_take _ (.int .u16 (ad : Int)) rfl (by rfl) (fun Z hZ => exk_ld16 rfl rfl (hZ.1.cell rfl)) ?_
                  (try simp only [Act.put, List.setIfInBounds_toArray, List.set_cons_zero, List.set_cons_succ])
                  refine wpG_call _ rfl (by rfl) 10 #[.pointer (some ⟨R d, 0, none⟩), .int .i64 0, .int .u16 (ad : Int)] (fun _ => by go_simp) (fun u Z => u = .int .i64 (c : Int) ∧ ∃ lab3 v3, Pm W Z D B sp0 G lab3 R v3 (upR rd d rd')) ?_ ?_
                  · refine HC.out.mono ?_
                    rintro e Z ⟨rfl, hp⟩
                    obtain ⟨lab3, v3, hP3⟩ := HYD.out.mem.ref hd3 hp
                    exact ⟨_, rfl, ⟨hp.blk (HYD.out.rds d hd3).blk HBQ.out (by decide) (by decide), hP3.ptr hd3⟩, rfl, lab3, v3, hP3⟩
                  rintro u Z hZ ⟨rfl, lab3, v3, hP3⟩
                  refine ⟨_, fun _ h => h, hZ, ?_⟩
                  (try simp only [Act.put, List.setIfInBounds_toArray, List.set_cons_zero, List.set_cons_succ])
                  refine wpG_take _ (.int .i64 (c : Int)) rfl (by rfl) (fun Z hZ => by rfl) ?_
                  (try simp only [Act.put, List.setIfInBounds_toArray, List.set_cons_zero, List.set_cons_succ])
                  refine wpG_nil ?_
                  have HP3 := Lib.hid hP3
                  have b0 := hZ.1.cell (j := 0) rfl
                  have b1 := hZ.1.cell (j := 1) rfl
                  have b2 := hZ.1.cell (j := 2) rfl
                  clear hP3 hZ
                  go_wp2_with fail
                  refine (mark_any d D ad B sp0 Z HP3.out.live.at' hd3 ox4).mono ?_
                  rw [HE1.out, HE2.out]
                  rintro e w4 ⟨rfl, h4⟩
                  have HP4 := Lib.hid (HP3.out.space h4)
                  clear h4 b0 b1 b2
                  go_wp2_with fail
                  go_meet
                  exact ⟨⟨c, rfl, rfl⟩, _, _, _, _, HP4.out.pl (sims_up HY.out.sim HB.out), HB.out.lens HN.out⟩
                · skip
                  have hdn : dd < 0 ∨ 2 ≤ dd := by omega
                  obtain rfl : th = false := by rw [HTH.out]; simp; omega
                  have HDN := Lib.hid hdn
                  clear hdn
                  go_wp2_with fail
                  refine (mark_none dd D ad _ HDN.out ox4).mono ?_
                  rintro e w4 ⟨rfl, h4⟩
                  have HP4 := Lib.hid (HY.out.below h4)
                  clear h4 a0 a1 a2
                  go_wp2_with fail
                  go_meet
                  exact ⟨⟨1, rfl, rfl⟩, _, _, _, _, HP4.out, HN.out⟩
            · have t1 : ((wh : Int) == 1) = false := by simp; omega
              by_cases z2 : wh = 2
              · skip
                as_aux_lemma =>
                  obtain rfl : wh = 2 := by omega
                  have e2 : ((2 : Nat) : Int) = (2 : Int) := rfl
                  rw [e2] at a0
                  clear e2
                  by_cases hd : dd = 0 ∨ dd = 1
                  · skip
                    obtain ⟨d, rfl, hd3⟩ : ∃ d : Nat, dd = (d : Int) ∧ d < 2 := ⟨dd.toNat, by omega, by omega⟩
                    have hd2 : (d : Int) < 2 := by omega
                    have hd4 : ¬ 2 ≤ (d : Int) := by omega
                    obtain rfl : th = true := by rw [HTH.out]; simp; omega
                    have p0 := HY.out.ptr hd3
                    have hl29 := HN.out d hd3
                    have HYD : Hid (Pl W wc.drew D B sp0 G lab R v rd) := Lib.hid (HY.out.below ⟨rfl, rfl, rfl, Nat.le_refl _, fun _ _ => rfl⟩)
                    have HBQ : Hid (Blk wc.drew gx [.int .u8 2, .int .i64 (d : Int), .int .u16 (ad : Int)] 35) := Lib.hid HBY.out.drew
                    have HPT : Hid (wc.drew.cell? ⟨G, d, none⟩ = some (.pointer (some ⟨R d, 0, none⟩))) := Lib.hid p0
                    obtain ⟨c, rd', sp', hc, e1, e2, hb⟩ := pair_give (HYD.out.rds d hd3) (HYD.out.sim d hd3) (by omega) ad ox4
                    have HC := Lib.hid hc; have HE1 := Lib.hid e1; have HE2 := Lib.hid e2; have HB := Lib.hid hb
                    clear hc e1 e2 hb p0
                    go_upto_region 35 with fail
                    clear a0 a1 a2
                    refine wp_region_sched (.take 0 (.take 1 (.take 2 (.take 3 (.take 4 (.take 5 (.take 6 (.take 7 (.take 8 (.take 9 (.take 10 (.step 11 (.take 12 (.nil)))))))))))))) (by kernel_rfl) (by kernel_rfl) (fun d _ _ _ _ h => by cases d <;> exact h) (fun Z => Blk Z gx [.int .u8 2, .int .i64 (d : Int), .int .u16 (ad : Int)] 35 ∧ Z.cell? ⟨G, d, none⟩ = some (.pointer (some ⟨R d, 0, none⟩))) ⟨HBQ.out, HPT.out⟩ ?_
                    refine wpG_take _ (.slice (some ⟨G, 0, none⟩) 2 2) rfl (by rfl) (fun Z hZ => by rfl) ?_
                    (try simp only [Act.put, List.setIfInBounds_toArray, List.set_cons_zero, List.set_cons_succ])
                    refine wpG_take _ (.pointer (some ⟨gx, 1, none⟩)) rfl (by rfl) (fun Z hZ => exk_fa35 (by omega) rfl rfl) ?_
                    (try simp only [Act.put, List.setIfInBounds_toArray, List.set_cons_zero, List.set_cons_succ])
                    refine wpG_take _ (.int .i64 (d : Int)) rfl (by rfl) (fun Z hZ => exk_ldi rfl rfl (hZ.1.cell rfl)) ?_
                    (try simp only [Act.put, List.setIfInBounds_toArray, List.set_cons_zero, List.set_cons_succ])
                    refine wpG_take _ (.pointer (some ⟨G, d, none⟩)) rfl (by rfl) (fun Z hZ => exk_ia32 hd3 rfl rfl rfl) ?_
                    (try simp only [Act.put, List.setIfInBounds_toArray, List.set_cons_zero, List.set_cons_succ])
                    refine wpG_take _ (.pointer (some ⟨R d, 0, none⟩)) rfl (by rfl) (fun Z hZ => exk_ldp rfl rfl hZ.2) ?_
                    (try simp only [Act.put, List.setIfInBounds_toArray, List.set_cons_zero, List.set_cons_succ])
                    refine wpG_take _ (.pointer (some ⟨gx, 0, none⟩)) rfl (by rfl) (fun Z hZ => exk_fa35 (by omega) rfl rfl) ?_
                    (try simp only [Act.put, List.setIfInBounds_toArray, List.set_cons_zero, List.set_cons_succ])
                    refine wpG_take _ (.int .u8 2) rfl (by rfl) (fun Z hZ => exk_ld8 rfl rfl (hZ.1.cell rfl)) ?_
                    (try simp only [Act.put, List.setIfInBounds_toArray, List.set_cons_zero, List.set_cons_succ])
                    refine wpG_take _ (.int .i64 2) rfl (by rfl) (fun Z hZ => exk_cv8 rfl rfl (by decide)) ?_
                    (try simp only [Act.put, List.setIfInBounds_toArray, List.set_cons_zero, List.set_cons_succ])
                    refine wpG_take _ (.int .i64 1) rfl (by rfl) (fun Z hZ => exk_sub rfl rfl rfl (by decide)) ?_
                    (try simp only [Act.put, List.setIfInBounds_toArray, List.set_cons_zero, List.set_cons_succ])
                    refine wpG_take _ (.pointer (some ⟨gx, 2, none⟩)) rfl (by rfl) (fun Z hZ => exk_fa35 (by omega) rfl rfl) ?_
                    (try simp only [Act.put, List.setIfInBounds_toArray, List.set_cons_zero, List.set_cons_succ])
                    refine wpG_take _ (.int .u16 (ad : Int)) rfl (by rfl) (fun Z hZ => exk_ld16 rfl rfl (hZ.1.cell rfl)) ?_
                    (try simp only [Act.put, List.setIfInBounds_toArray, List.set_cons_zero, List.set_cons_succ])
                    refine wpG_call _ rfl (by rfl) 10 #[.pointer (some ⟨R d, 0, none⟩), .int .i64 1, .int .u16 (ad : Int)] (fun _ => by go_simp) (fun u Z => u = .int .i64 (c : Int) ∧ ∃ lab3 v3, Pm W Z D B sp0 G lab3 R v3 (upR rd d rd')) ?_ ?_
                    · refine HC.out.mono ?_
                      rintro e Z ⟨rfl, hp⟩
                      obtain ⟨lab3, v3, hP3⟩ := HYD.out.mem.ref hd3 hp
                      exact ⟨_, rfl, ⟨hp.blk (HYD.out.rds d hd3).blk HBQ.out (by decide) (by decide), hP3.ptr hd3⟩, rfl, lab3, v3, hP3⟩
                    rintro u Z hZ ⟨rfl, lab3, v3, hP3⟩
                    refine ⟨_, fun _ h => h, hZ, ?_⟩
                    (try simp only [Act.put, List.setIfInBounds_toArray, List.set_cons_zero, List.set_cons_succ])
                    refine wpG_take _ (.int .i64 (c : Int)) rfl (by rfl) (fun Z hZ => by rfl) ?_
                    (try simp only [Act.put, List.setIfInBounds_toArray, List.set_cons_zero, List.set_cons_succ])
                    refine wpG_nil ?_
                    have HP3 := Lib.hid hP3
                    have b0 := hZ.1.cell (j := 0) rfl
                    have b1 := hZ.1.cell (j := 1) rfl
                    have b2 := hZ.1.cell (j := 2) rfl
                    clear hP3 hZ
                    go_wp2_with fail
                    refine (give_any d D ad B sp0 Z HP3.out.live.at' hd3 ox4).mono ?_
                    rw [HE1.out, HE2.out]
                    rintro e w4 ⟨rfl, h4⟩
                    have HP4 := Lib.hid (HP3.out.space h4)
                    clear h4 b0 b1 b2
                    go_wp2_with fail
                    go_meet
                    exact ⟨⟨c, rfl, rfl⟩, _, _, _, _, HP4.out.pl (sims_up HY.out.sim HB.out), HB.out.lens HN.out⟩
                  · skip
                    have hdn : dd < 0 ∨ 2 ≤ dd := by omega
                    obtain rfl : th = false := by rw [HTH.out]; simp; omega
                    have HDN := Lib.hid hdn
                    clear hdn
                    go_wp2_with fail
                    refine (give_none dd D ad _ HDN.out ox4).mono ?_
                    rintro e w4 ⟨rfl, h4⟩
                    have HP4 := Lib.hid (HY.out.below h4)
                    clear h4 a0 a1 a2
                    go_wp2_with fail
                    go_meet
                    exact ⟨⟨1, rfl, rfl⟩, _, _, _, _, HP4.out, HN.out⟩
              · have t2 : ((wh : Int) == 2) = false := by simp; omega
                by_cases z3 : wh = 3
                · skip
                  as_aux_lemma =>
                    obtain rfl : wh = 3 := by omega
                    have e3 : ((3 : Nat) : Int) = (3 : Int) := rfl
                    rw [e3] at a0
                    clear e3
                    by_cases hd : dd = 0 ∨ dd = 1
                    · skip
                      obtain ⟨d, rfl, hd3⟩ : ∃ d : Nat, dd = (d : Int) ∧ d < 2 := ⟨dd.toNat, by omega, by omega⟩
                      have hd2 : (d : Int) < 2 := by omega
                      have hd4 : ¬ 2 ≤ (d : Int) := by omega
                      obtain rfl : th = true := by rw [HTH.out]; simp; omega
                      have p0 := HY.out.ptr hd3
                      have hl29 := HN.out d hd3
                      have HYD : Hid (Pl W wc.drew D B sp0 G lab R v rd) := Lib.hid (HY.out.below ⟨rfl, rfl, rfl, Nat.le_refl _, fun _ _ => rfl⟩)
                      have HBQ : Hid (Blk wc.drew gx [.int .u8 3, .int .i64 (d : Int), .int .u16 (ad : Int)] 35) := Lib.hid HBY.out.drew
                      have HPT : Hid (wc.drew.cell? ⟨G, d, none⟩ = some (.pointer (some ⟨R d, 0, none⟩))) := Lib.hid p0
                      obtain ⟨c, rd', sp', hc, e1, e2, hb⟩ := pair_hold (HYD.out.rds d hd3) (HYD.out.sim d hd3) (by omega) ad ox4
                      have HC := Lib.hid hc; have HE1 := Lib.hid e1; have HE2 := Lib.hid e2; have HB := Lib.hid hb
                      clear hc e1 e2 hb p0
                      go_upto_region 35 with fail
                      clear a0 a1 a2
                      refine wp_region_sched (.take 0 (.take 1 (.take 2 (.take 3 (.take 4 (.take 5 (.take 6 (.take 7 (.take 8 (.take 9 (.take 10 (.step 11 (.take 12 (.nil)))))))))))))) (by kernel_rfl) (by kernel_rfl) (fun d _ _ _ _ h => by cases d <;> exact h) (fun Z => Blk Z gx [.int .u8 3, .int .i64 (d : Int), .int .u16 (ad : Int)] 35 ∧ Z.cell? ⟨G, d, none⟩ = some (.pointer (some ⟨R d, 0, none⟩))) ⟨HBQ.out, HPT.out⟩ ?_
                      refine wpG_take _ (.slice (some ⟨G, 0, none⟩) 2 2) rfl (by rfl) (fun Z hZ => by rfl) ?_
                      (try simp only [Act.put, List.setIfInBounds_toArray, List.set_cons_zero, List.set_cons_succ])
                      refine wpG_take _ (.pointer (some ⟨gx, 1, none⟩)) rfl (by rfl) (fun Z hZ => exk_fa35 (by omega) rfl rfl) ?_
                      (try simp only [Act.put, List.setIfInBounds_toArray, List.set_cons_zero, List.set_cons_succ])
                      refine wpG_take _ (.int .i64 (d : Int)) rfl (by rfl) (fun Z hZ => exk_ldi rfl rfl (hZ.1.cell rfl)) ?_
                      (try simp only [Act.put, List.setIfInBounds_toArray, List.set_cons_zero, List.set_cons_succ])
                      refine wpG_take _ (.pointer (some ⟨G, d, none⟩)) rfl (by rfl) (fun Z hZ => exk_ia32 hd3 rfl rfl rfl) ?_
                      (try simp only [Act.put, List.setIfInBounds_toArray, List.set_cons_zero, List.set_cons_succ])
                      refine wpG_take _ (.pointer (some ⟨R d, 0, none⟩)) rfl (by rfl) (fun Z hZ => exk_ldp rfl rfl hZ.2) ?_
                      (try simp only [Act.put, List.setIfInBounds_toArray, List.set_cons_zero, List.set_cons_succ])
                      refine wpG_take _ (.pointer (some ⟨gx, 0, none⟩)) rfl (by rfl) (fun Z hZ => exk_fa35 (by omega) rfl rfl) ?_
                      (try simp only [Act.put, List.setIfInBounds_toArray, List.set_cons_zero, List.set_cons_succ])
                      refine wpG_take _ (.int .u8 3) rfl (by rfl) (fun Z hZ => exk_ld8 rfl rfl (hZ.1.cell rfl)) ?_
                      (try simp only [Act.put, List.setIfInBounds_toArray, List.set_cons_zero, List.set_cons_succ])
                      refine wpG_take _ (.int .i64 3) rfl (by rfl) (fun Z hZ => exk_cv8 rfl rfl (by decide)) ?_
                      (try simp only [Act.put, List.setIfInBounds_toArray, List.set_cons_zero, List.set_cons_succ])
                      refine wpG_take _ (.int .i64 2) rfl (by rfl) (fun Z hZ => exk_sub rfl rfl rfl (by decide)) ?_
                      (try simp only [Act.put, List.setIfInBounds_toArray, List.set_cons_zero, List.set_cons_succ])
                      refine wpG_take _ (.pointer (some ⟨gx, 2, none⟩)) rfl (by rfl) (fun Z hZ => exk_fa35 (by omega) rfl rfl) ?_
                      (try simp only [Act.put, List.setIfInBounds_toArray, List.set_cons_zero, List.set_cons_succ])
                      refine wpG_take _ (.int .u16 (ad : Int)) rfl (by rfl) (fun Z hZ => exk_ld16 rfl rfl (hZ.1.cell rfl)) ?_
                      (try simp only [Act.put, List.setIfInBounds_toArray, List.set_cons_zero, List.set_cons_succ])
                      refine wpG_call _ rfl (by rfl) 10 #[.pointer (some ⟨R d, 0, none⟩), .int .i64 2, .int .u16 (ad : Int)] (fun _ => by go_simp) (fun u Z => u = .int .i64 (c : Int) ∧ ∃ lab3 v3, Pm W Z D B sp0 G lab3 R v3 (upR rd d rd')) ?_ ?_
                      · refine HC.out.mono ?_
                        rintro e Z ⟨rfl, hp⟩
                        obtain ⟨lab3, v3, hP3⟩ := HYD.out.mem.ref hd3 hp
                        exact ⟨_, rfl, ⟨hp.blk (HYD.out.rds d hd3).blk HBQ.out (by decide) (by decide), hP3.ptr hd3⟩, rfl, lab3, v3, hP3⟩
                      rintro u Z hZ ⟨rfl, lab3, v3, hP3⟩
                      refine ⟨_, fun _ h => h, hZ, ?_⟩
                      (try simp only [Act.put, List.setIfInBounds_toArray, List.set_cons_zero, List.set_cons_succ])
                      refine wpG_take _ (.int .i64 (c : Int)) rfl (by rfl) (fun Z hZ => by rfl) ?_
                      (try simp only [Act.put, List.setIfInBounds_toArray, List.set_cons_zero, List.set_cons_succ])
                      refine wpG_nil ?_
                      have HP3 := Lib.hid hP3
                      have b0 := hZ.1.cell (j := 0) rfl
                      have b1 := hZ.1.cell (j := 1) rfl
                      have b2 := hZ.1.cell (j := 2) rfl
                      clear hP3 hZ
                      go_wp2_with fail
                      refine (hold_any d D ad B sp0 Z HP3.out.live.at' hd3 ox4).mono ?_
                      rw [HE1.out, HE2.out]
                      rintro e w4 ⟨rfl, h4⟩
                      have HP4 := Lib.hid (HP3.out.space h4)
                      clear h4 b0 b1 b2
                      go_wp2_with fail
                      go_meet
                      exact ⟨⟨c, rfl, rfl⟩, _, _, _, _, HP4.out.pl (sims_up HY.out.sim HB.out), HB.out.lens HN.out⟩
                    · skip
                      have hdn : dd < 0 ∨ 2 ≤ dd := by omega
                      obtain rfl : th = false := by rw [HTH.out]; simp; omega
                      have HDN := Lib.hid hdn
                      clear hdn
                      go_wp2_with fail
                      refine (hold_none dd D ad _ HDN.out ox4).mono ?_
                      rintro e w4 ⟨rfl, h4⟩
                      have HP4 := Lib.hid (HY.out.below h4)
                      clear h4 a0 a1 a2
                      go_wp2_with fail
                      go_meet
                      exact ⟨⟨1, rfl, rfl⟩, _, _, _, _, HP4.out, HN.out⟩
                · have t3 : ((wh : Int) == 3) = false := by simp; omega
                  by_cases z4 : wh = 4
                  · skip
                    as_aux_lemma =>
                      obtain rfl : wh = 4 := by omega
                      have e4 : ((4 : Nat) : Int) = (4 : Int) := rfl
                      rw [e4] at a0
                      clear e4
                      by_cases hd : dd = 0 ∨ dd = 1
                      · skip
                        obtain ⟨d, rfl, hd3⟩ : ∃ d : Nat, dd = (d : Int) ∧ d < 2 := ⟨dd.toNat, by omega, by omega⟩
                        have hd2 : (d : Int) < 2 := by omega
                        have hd4 : ¬ 2 ≤ (d : Int) := by omega
                        obtain rfl : th = true := by rw [HTH.out]; simp; omega
                        have p0 := HY.out.ptr hd3
                        have hl29 := HN.out d hd3
                        have HYD : Hid (Pl W wc.drew D B sp0 G lab R v rd) := Lib.hid (HY.out.below ⟨rfl, rfl, rfl, Nat.le_refl _, fun _ _ => rfl⟩)
                        have HBQ : Hid (Blk wc.drew gx [.int .u8 4, .int .i64 (d : Int), .int .u16 (ad : Int)] 35) := Lib.hid HBY.out.drew
                        have HPT : Hid (wc.drew.cell? ⟨G, d, none⟩ = some (.pointer (some ⟨R d, 0, none⟩))) := Lib.hid p0
                        obtain ⟨c, rd', sp', hc, e1, e2, hb⟩ := pair_sick (HYD.out.rds d hd3) (HYD.out.sim d hd3) (by omega) ad ox4
                        have HC := Lib.hid hc; have HE1 := Lib.hid e1; have HE2 := Lib.hid e2; have HB := Lib.hid hb
                        clear hc e1 e2 hb p0
                        go_upto_region 35 with fail
                        clear a0 a1 a2
                        refine wp_region_sched (.take 0 (.take 1 (.take 2 (.take 3 (.take 4 (.take 5 (.take 6 (.take 7 (.take 8 (.take 9 (.take 10 (.step 11 (.take 12 (.nil)))))))))))))) (by kernel_rfl) (by kernel_rfl) (fun d _ _ _ _ h => by cases d <;> exact h) (fun Z => Blk Z gx [.int .u8 4, .int .i64 (d : Int), .int .u16 (ad : Int)] 35 ∧ Z.cell? ⟨G, d, none⟩ = some (.pointer (some ⟨R d, 0, none⟩))) ⟨HBQ.out, HPT.out⟩ ?_
                        refine wpG_take _ (.slice (some ⟨G, 0, none⟩) 2 2) rfl (by rfl) (fun Z hZ => by rfl) ?_
                        (try simp only [Act.put, List.setIfInBounds_toArray, List.set_cons_zero, List.set_cons_succ])
                        refine wpG_take _ (.pointer (some ⟨gx, 1, none⟩)) rfl (by rfl) (fun Z hZ => exk_fa35 (by omega) rfl rfl) ?_
                        (try simp only [Act.put, List.setIfInBounds_toArray, List.set_cons_zero, List.set_cons_succ])
                        refine wpG_take _ (.int .i64 (d : Int)) rfl (by rfl) (fun Z hZ => exk_ldi rfl rfl (hZ.1.cell rfl)) ?_
                        (try simp only [Act.put, List.setIfInBounds_toArray, List.set_cons_zero, List.set_cons_succ])
                        refine wpG_take _ (.pointer (some ⟨G, d, none⟩)) rfl (by rfl) (fun Z hZ => exk_ia32 hd3 rfl rfl rfl) ?_
                        (try simp only [Act.put, List.setIfInBounds_toArray, List.set_cons_zero, List.set_cons_succ])
                        refine wpG_take _ (.pointer (some ⟨R d, 0, none⟩)) rfl (by rfl) (fun Z hZ => exk_ldp rfl rfl hZ.2) ?_
                        (try simp only [Act.put, List.setIfInBounds_toArray, List.set_cons_zero, List.set_cons_succ])
                        refine wpG_take _ (.pointer (some ⟨gx, 0, none⟩)) rfl (by rfl) (fun Z hZ => exk_fa35 (by omega) rfl rfl) ?_
                        (try simp only [Act.put, List.setIfInBounds_toArray, List.set_cons_zero, List.set_cons_succ])
                        refine wpG_take _ (.int .u8 4) rfl (by rfl) (fun Z hZ => exk_ld8 rfl rfl (hZ.1.cell rfl)) ?_
                        (try simp only [Act.put, List.setIfInBounds_toArray, List.set_cons_zero, List.set_cons_succ])
                        refine wpG_take _ (.int .i64 4) rfl (by rfl) (fun Z hZ => exk_cv8 rfl rfl (by decide)) ?_
                        (try simp only [Act.put, List.setIfInBounds_toArray, List.set_cons_zero, List.set_cons_succ])
                        refine wpG_take _ (.int .i64 3) rfl (by rfl) (fun Z hZ => exk_sub rfl rfl rfl (by decide)) ?_
                        (try simp only [Act.put, List.setIfInBounds_toArray, List.set_cons_zero, List.set_cons_succ])
                        refine wpG_take _ (.pointer (some ⟨gx, 2, none⟩)) rfl (by rfl) (fun Z hZ => exk_fa35 (by omega) rfl rfl) ?_
                        (try simp only [Act.put, List.setIfInBounds_toArray, List.set_cons_zero, List.set_cons_succ])
                        refine wpG_take _ (.int .u16 (ad : Int)) rfl (by rfl) (fun Z hZ => exk_ld16 rfl rfl (hZ.1.cell rfl)) ?_
                        (try simp only [Act.put, List.setIfInBounds_toArray, List.set_cons_zero, List.set_cons_succ])
                        refine wpG_call _ rfl (by rfl) 10 #[.pointer (some ⟨R d, 0, none⟩), .int .i64 3, .int .u16 (ad : Int)] (fun _ => by go_simp) (fun u Z => u = .int .i64 (c : Int) ∧ ∃ lab3 v3, Pm W Z D B sp0 G lab3 R v3 (upR rd d rd')) ?_ ?_
                        · refine HC.out.mono ?_
                          rintro e Z ⟨rfl, hp⟩
                          obtain ⟨lab3, v3, hP3⟩ := HYD.out.mem.ref hd3 hp
                          exact ⟨_, rfl, ⟨hp.blk (HYD.out.rds d hd3).blk HBQ.out (by decide) (by decide), hP3.ptr hd3⟩, rfl, lab3, v3, hP3⟩
                        rintro u Z hZ ⟨rfl, lab3, v3, hP3⟩
                        refine ⟨_, fun _ h => h, hZ, ?_⟩
                        (try simp only [Act.put, List.setIfInBounds_toArray, List.set_cons_zero, List.set_cons_succ])
                        refine wpG_take _ (.int .i64 (c : Int)) rfl (by rfl) (fun Z hZ => by rfl) ?_
                        (try simp only [Act.put, List.setIfInBounds_toArray, List.set_cons_zero, List.set_cons_succ])
                        refine wpG_nil ?_
                        have HP3 := Lib.hid hP3
                        have b0 := hZ.1.cell (j := 0) rfl
                        have b1 := hZ.1.cell (j := 1) rfl
                        have b2 := hZ.1.cell (j := 2) rfl
                        clear hP3 hZ
                        go_wp2_with fail
                        refine (sick_any d D ad B sp0 Z HP3.out.live.at' hd3 ox4).mono ?_
                        rw [HE1.out, HE2.out]
                        rintro e w4 ⟨rfl, h4⟩
                        have HP4 := Lib.hid (HP3.out.space h4)
                        clear h4 b0 b1 b2
                        go_wp2_with fail
                        go_meet
                        exact ⟨⟨c, rfl, rfl⟩, _, _, _, _, HP4.out.pl (sims_up HY.out.sim HB.out), HB.out.lens HN.out⟩
                      · skip
                        have hdn : dd < 0 ∨ 2 ≤ dd := by omega
                        obtain rfl : th = false := by rw [HTH.out]; simp; omega
                        have HDN := Lib.hid hdn
                        clear hdn
                        go_wp2_with fail
                        refine (sick_none dd D ad _ HDN.out ox4).mono ?_
                        rintro e w4 ⟨rfl, h4⟩
                        have HP4 := Lib.hid HY.out
                        subst h4
                        clear a0 a1 a2
                        go_wp2_with fail
                        go_meet
                        exact ⟨⟨1, rfl, rfl⟩, _, _, _, _, HP4.out, HN.out⟩
                  · have t4 : ((wh : Int) == 4) = false := by simp; omega
                    by_cases z5 : wh = 5
                    · skip
                      as_aux_lemma =>
                        obtain rfl : wh = 5 := by omega
                        have e5 : ((5 : Nat) : Int) = (5 : Int) := rfl
                        rw [e5] at a0
                        clear e5
                        go_wp2_with fail
                        refine (release_any D B sp0 _ HY.out.live.at').mono ?_
                        rintro e w3 ⟨rfl, h2⟩
                        have HP3 : Hid (Pm W w3.drew D B (allS sp0 (turnA 2 0)) G lab R v rd) := Lib.hid ((HY.out.mem.space h2).below ⟨rfl, rfl, rfl, Nat.le_refl _, fun _ _ => rfl⟩)
                        obtain ⟨lab4, v4, hP4⟩ := HP3.out.ref (d := 0) (by omega) ((HP3.out.rds 0 (by omega)).nil (i := 1) (by omega))
                        have HP4 := Lib.hid hP4
                        obtain ⟨lab5, v5, hP5⟩ := HP4.out.ref (d := 1) (by omega) ((HP4.out.rds 1 (by omega)).nil (i := 1) (by omega))
                        have HP5 := Lib.hid hP5
                        clear h2 a0 a1 a2 hP4 hP5
                        go_wp2_with fail
                        refine wp_region_sched (.take 0 (.take 1 (.take 2 (.take 3 (.take 4 (.take 5 (.take 6 (.take 7 (.step 8 (.take 9 (.take 10 (.step 11 (.nil))))))))))))) (by kernel_rfl) (by kernel_rfl) (fun d _ _ _ _ h => by cases d <;> exact h) (fun Z => Z.cell? ⟨G, 0, none⟩ = some (.pointer (some ⟨R 0, 0, none⟩)) ∧ Z.cell? ⟨G, 1, none⟩ = some (.pointer (some ⟨R 1, 0, none⟩))) ⟨HP3.out.ptr (d := 0) (by omega), HP3.out.ptr (d := 1) (by omega)⟩ ?_
                        refine wpG_take _ (.slice (some ⟨G, 0, none⟩) 2 2) rfl (by rfl) (fun Z hZ => by rfl) ?_
                        (try simp only [Act.put, List.setIfInBounds_toArray, List.set_cons_zero, List.set_cons_succ])
                        refine wpG_take _ (.pointer (some ⟨G, 0, none⟩)) rfl (by rfl) (fun Z hZ => exk_ia32 (k := 0) (by omega) rfl rfl rfl) ?_
                        (try simp only [Act.put, List.setIfInBounds_toArray, List.set_cons_zero, List.set_cons_succ])
                        refine wpG_take _ (.pointer (some ⟨R 0, 0, none⟩)) rfl (by rfl) (fun Z hZ => exk_ldp rfl rfl hZ.1) ?_
                        (try simp only [Act.put, List.setIfInBounds_toArray, List.set_cons_zero, List.set_cons_succ])
                        refine wpG_take _ (.slice (some ⟨G, 0, none⟩) 2 2) rfl (by rfl) (fun Z hZ => by rfl) ?_
                        (try simp only [Act.put, List.setIfInBounds_toArray, List.set_cons_zero, List.set_cons_succ])
                        refine wpG_take _ (.pointer (some ⟨G, 1, none⟩)) rfl (by rfl) (fun Z hZ => exk_ia32 (k := 1) (by omega) rfl rfl rfl) ?_
                        (try simp only [Act.put, List.setIfInBounds_toArray, List.set_cons_zero, List.set_cons_succ])
                        refine wpG_take _ (.pointer (some ⟨R 1, 0, none⟩)) rfl (by rfl) (fun Z hZ => exk_ldp rfl rfl hZ.2) ?_
                        (try simp only [Act.put, List.setIfInBounds_toArray, List.set_cons_zero, List.set_cons_succ])
                        refine wpG_take _ (.pointer (some ⟨R 0, 0, none⟩)) rfl (by rfl) (fun Z hZ => exk_nc rfl rfl) ?_
                        (try simp only [Act.put, List.setIfInBounds_toArray, List.set_cons_zero, List.set_cons_succ])
                        refine wpG_take _ (.pointer (some ⟨R 0, 2, none⟩)) rfl (by rfl) (fun Z hZ => exk_faR (by omega) rfl rfl) ?_
                        (try simp only [Act.put, List.setIfInBounds_toArray, List.set_cons_zero, List.set_cons_succ])
                        refine wpK_st _ rfl (by rfl) (w3.drew.setCell ⟨R 0, 2, none⟩ (.slice none 0 0)) (exk_sts rfl rfl rfl ((HP3.out.rds 0 (by omega)).blk.cell rfl) ((HP3.out.rds 0 (by omega)).blk.free _)) _ ⟨HP4.out.ptr (d := 0) (by omega), HP4.out.ptr (d := 1) (by omega)⟩ (fun _ h => h) ?_
                        (try simp only [Act.put])
                        refine wpG_take _ (.pointer (some ⟨R 1, 0, none⟩)) rfl (by rfl) (fun Z hZ => exk_nc rfl rfl) ?_
                        (try simp only [Act.put, List.setIfInBounds_toArray, List.set_cons_zero, List.set_cons_succ])
                        refine wpG_take _ (.pointer (some ⟨R 1, 2, none⟩)) rfl (by rfl) (fun Z hZ => exk_faR (by omega) rfl rfl) ?_
                        (try simp only [Act.put, List.setIfInBounds_toArray, List.set_cons_zero, List.set_cons_succ])
                        refine wpK_st _ rfl (by rfl) ((w3.drew.setCell ⟨R 0, 2, none⟩ (.slice none 0 0)).setCell ⟨R 1, 2, none⟩ (.slice none 0 0)) (exk_sts rfl rfl rfl ((HP4.out.rds 1 (by omega)).blk.cell rfl) ((HP4.out.rds 1 (by omega)).blk.free _)) _ ⟨HP5.out.ptr (d := 0) (by omega), HP5.out.ptr (d := 1) (by omega)⟩ (fun _ h => h) ?_
                        refine wpG_nil ?_
                        generalize hgw : ((w3.drew.setCell ⟨R 0, 2, none⟩ (.slice none 0 0)).setCell ⟨R 1, 2, none⟩ (.slice none 0 0)) = w5
                        have HP6 : Hid (Pm W w5 D B (allS sp0 (turnA 2 0)) G lab5 R v5 _) := Lib.hid (by rw [← hgw]; exact HP5.out)
                        clear hgw HP5
                        go_wp2_with fail
                        go_meet
                        refine ⟨⟨0, rfl, rfl⟩, _, _, _, _, HP6.out.pl (fun e he => ?_), fun e he => by unfold allS; rw [List.length_map]; exact HN.out e he⟩
                        have hs := (HY.out.sim e he).release
                        obtain rfl | rfl : e = 0 ∨ e = 1 := by omega
                        · exact hs
                        · exact hs
                    · have t5 : ((wh : Int) == 5) = false := by simp; omega
                      as_aux_lemma =>
                        go_wp2_with fail
                        refine (back_any D B sp0 _ HY.out.live.at').mono ?_
                        rintro e w3 ⟨rfl, h2⟩
                        have HP3 := Lib.hid (HY.out.mem.space h2)
                        have HSM := Lib.hid HY.out.sim
                        clear h2 a0 a1 a2 HY HBY
                        go_wp2_with fail
                        obtain ⟨wo, hwo⟩ : ∃ wo : World, wo = wr := ⟨_, rfl⟩
                        subst hwo
                        go_loopw [16] (fun i wx => ∃ k : Nat, k ≤ 2 ∧ i = .int .i64 (k : Int) ∧ ∃ lab v, Pm W wx D B (allS sp0 (turnA 2 1)) G lab R v (backRd rd k)) (fun i _ => 2 - (intOf i).toNat)
                        case atStart => exact ⟨0, by omega, rfl, _, _, HP3.out⟩
                        case round =>
                          obtain ⟨k, hk2, rfl, lab6, v6, hW⟩ := hrel
                          have wk := IntWalk.i64_in ((k : Int) + 1) (by omega)
                          by_cases hlt2 : k < 2
                          · have HWD : Hid (Pm W wr.drew D B (allS sp0 (turnA 2 1)) G lab6 R v6 (backRd rd k)) := Lib.hid (hW.below ⟨rfl, rfl, rfl, Nat.le_refl _, fun _ _ => rfl⟩)
                            have hrd := HWD.out.rds k hlt2
                            rw [backRd_at] at hrd
                            have hl0 := (HSM.out k hlt2).len 0 (by omega)
                            have hl1 := (HSM.out k hlt2).len 1 (by omega)
                            have hn9 := HN.out k hlt2
                            obtain ⟨s0, k0, e0, _, _, _, _⟩ := (hrd.row 0 (by omega)).1.form
                            obtain ⟨s1, k1, e1, hle1, _, src1, hz1⟩ := (hrd.row 1 (by omega)).1.form
                            obtain ⟨v', w7, hr7, ⟨s7, n7, c7, e7⟩, hc7, hf7, hp7, hk7⟩ := hrd.app' (i := 0) (by omega) (by omega) (m := (rd k).l 1) (by omega) (Below.refl _ _) src1 (c := k1) (fun h => by have := hz1 h; omega) 29
                            subst e7
                            have hb7 := hk7 _ _ _ hrd.blk (by decide)
                            have hg7 := hk7 _ _ _ HWD.out.g (by decide)
                            have hgk : wr.drew.cell? ⟨G, k, none⟩ = some (.pointer (some ⟨R k, 0, none⟩)) := HWD.out.ptr hlt2
                            have hgk7 : w7.cell? ⟨G, k, none⟩ = some (.pointer (some ⟨R k, 0, none⟩)) := by
                              obtain rfl | rfl : k = 0 ∨ k = 1 := by omega
                              · exact hg7.cell rfl
                              · exact hg7.cell rfl
                            obtain ⟨lab8, v8, hP8⟩ := HWD.out.ref hlt2 hp7
                            have hr1 : wr.drew.cell? ⟨R k, 1, none⟩ = some (v6 k 0) := hrd.blk.cell rfl
                            have hr2 : wr.drew.cell? ⟨R k, 2, none⟩ = some (v6 k 1) := hrd.blk.cell rfl
                            have hr27 : w7.cell? ⟨R k, 2, none⟩ = some (v6 k 1) := hb7.cell rfl
                            have hr28 : (w7.setCell ⟨R k, 1, none⟩ (.slice s7 n7 c7)).cell? ⟨R k, 2, none⟩ = some (v6 k 1) := (hb7.set 1 (.slice s7 n7 c7)).cell rfl
                            rw [e0] at hr1 hr7 hc7
                            rw [e1] at hr2 hr27 hr28
                            obtain ⟨n0, hn0⟩ : ∃ n0, ((rd k).l 0).length = n0 := ⟨_, rfl⟩
                            obtain ⟨n1, hn1⟩ : ∃ n1, ((rd k).l 1).length = n1 := ⟨_, rfl⟩
                            rw [hn0] at hr1 hr7 hc7
                            rw [hn1] at hr2 hr27 hr28 hr7
                            have HGK := Lib.hid (⟨hgk, hr2⟩ : _ ∧ _)
                            have HR1 := Lib.hid hr1
                            have HAP := Lib.hid hr7
                            have HS7 := Lib.hid (⟨hgk7, hr27⟩ : _ ∧ _)
                            have HC7 := Lib.hid (⟨hc7, hf7⟩ : _ ∧ _)
                            have HS8 := Lib.hid (⟨hP8.ptr hlt2, hr28⟩ : (w7.setCell ⟨R k, 1, none⟩ (.slice s7 n7 c7)).cell? ⟨G, k, none⟩ = _ ∧ _)
                            have HP8 := Lib.hid hP8
                            clear hW hrd hl0 hl1 hn9 e0 e1 hle1 src1 hz1 hr7 hc7 hf7 hp7 hk7 hb7 hg7 hgk hgk7 hP8 hr1 hr2 hr27 hr28 hn0 hn1 HP3
                            go_wp2_with fail
                            refine wp_region_sched (.take 0 (.take 1 (.take 2 (.take 3 (.take 4 (.take 5 (.take 6 (.take 7 (.take 8 (.take 9 (.take 11 (.take 12 (.take 13 (.take 14 (.take 15 (.take 16 (.take 17 (.step 10 (.step 18 (.take 19 (.take 20 (.step 21 (.nil))))))))))))))))))))))) (by kernel_rfl) (by kernel_rfl) (fun d _ _ _ _ h => by cases d <;> exact h) (fun Z => Z.cell? ⟨G, k, none⟩ = some (.pointer (some ⟨R k, 0, none⟩)) ∧ Z.cell? ⟨R k, 2, none⟩ = some (.slice s1 n1 k1)) ⟨HGK.out.1, HGK.out.2⟩ ?_
                            refine wpG_take _ (.slice (some ⟨G, 0, none⟩) 2 2) rfl (by rfl) (fun Z hZ => by rfl) ?_
                            (try simp only [Act.put, List.setIfInBounds_toArray, List.set_cons_zero, List.set_cons_succ])
                            refine wpG_take _ (.int .i64 (k : Int)) rfl (by rfl) (fun Z hZ => by rfl) ?_
                            (try simp only [Act.put, List.setIfInBounds_toArray, List.set_cons_zero, List.set_cons_succ])
                            refine wpG_take _ (.pointer (some ⟨G, k, none⟩)) rfl (by rfl) (fun Z hZ => exk_ia32 hlt2 rfl rfl rfl) ?_
                            (try simp only [Act.put, List.setIfInBounds_toArray, List.set_cons_zero, List.set_cons_succ])
                            refine wpG_take _ (.pointer (some ⟨R k, 0, none⟩)) rfl (by rfl) (fun Z hZ => exk_ldp rfl rfl hZ.1) ?_
                            (try simp only [Act.put, List.setIfInBounds_toArray, List.set_cons_zero, List.set_cons_succ])
                            refine wpG_take _ (.slice (some ⟨G, 0, none⟩) 2 2) rfl (by rfl) (fun Z hZ => by rfl) ?_
                            (try simp only [Act.put, List.setIfInBounds_toArray, List.set_cons_zero, List.set_cons_succ])
                            refine wpG_take _ (.int .i64 (k : Int)) rfl (by rfl) (fun Z hZ => by rfl) ?_
                            (try simp only [Act.put, List.setIfInBounds_toArray, List.set_cons_zero, List.set_cons_succ])
                            refine wpG_take _ (.pointer (some ⟨G, k, none⟩)) rfl (by rfl) (fun Z hZ => exk_ia32 hlt2 rfl rfl rfl) ?_
                            (try simp only [Act.put, List.setIfInBounds_toArray, List.set_cons_zero, List.set_cons_succ])
                            refine wpG_take _ (.pointer (some ⟨R k, 0, none⟩)) rfl (by rfl) (fun Z hZ => exk_ldp rfl rfl hZ.1) ?_
                            (try simp only [Act.put, List.setIfInBounds_toArray, List.set_cons_zero, List.set_cons_succ])
                            refine wpG_take _ (.pointer (some ⟨R k, 0, none⟩)) rfl (by rfl) (fun Z hZ => exk_nc rfl rfl) ?_
                            (try simp only [Act.put, List.setIfInBounds_toArray, List.set_cons_zero, List.set_cons_succ])
                            refine wpG_take _ (.pointer (some ⟨R k, 1, none⟩)) rfl (by rfl) (fun Z hZ => exk_faR (by omega) rfl rfl) ?_
                            (try simp only [Act.put, List.setIfInBounds_toArray, List.set_cons_zero, List.set_cons_succ])
                            refine wpG_take _ (.slice (some ⟨G, 0, none⟩) 2 2) rfl (by rfl) (fun Z hZ => by rfl) ?_
                            (try simp only [Act.put, List.setIfInBounds_toArray, List.set_cons_zero, List.set_cons_succ])
                            refine wpG_take _ (.int .i64 (k : Int)) rfl (by rfl) (fun Z hZ => by rfl) ?_
                            (try simp only [Act.put, List.setIfInBounds_toArray, List.set_cons_zero, List.set_cons_succ])
                            refine wpG_take _ (.pointer (some ⟨G, k, none⟩)) rfl (by rfl) (fun Z hZ => exk_ia32 hlt2 rfl rfl rfl) ?_
                            (try simp only [Act.put, List.setIfInBounds_toArray, List.set_cons_zero, List.set_cons_succ])
                            refine wpG_take _ (.pointer (some ⟨R k, 0, none⟩)) rfl (by rfl) (fun Z hZ => exk_ldp rfl rfl hZ.1) ?_
                            (try simp only [Act.put, List.setIfInBounds_toArray, List.set_cons_zero, List.set_cons_succ])
                            refine wpG_take _ (.pointer (some ⟨R k, 0, none⟩)) rfl (by rfl) (fun Z hZ => exk_nc rfl rfl) ?_
                            (try simp only [Act.put, List.setIfInBounds_toArray, List.set_cons_zero, List.set_cons_succ])
                            refine wpG_take _ (.pointer (some ⟨R k, 2, none⟩)) rfl (by rfl) (fun Z hZ => exk_faR (by omega) rfl rfl) ?_
                            (try simp only [Act.put, List.setIfInBounds_toArray, List.set_cons_zero, List.set_cons_succ])
                            refine wpG_take _ (.slice s1 n1 k1) rfl (by rfl) (fun Z hZ => exk_lds rfl rfl hZ.2) ?_
                            (try simp only [Act.put, List.setIfInBounds_toArray, List.set_cons_zero, List.set_cons_succ])
                            refine wpK_mk _ rfl (by rfl) (.slice s0 n0 k0) wr.drew (exk_lds rfl rfl HR1.out) _ ⟨HGK.out.1, HGK.out.2⟩ (fun _ h => h) ?_
                            (try simp only [Act.put, List.setIfInBounds_toArray, List.set_cons_zero, List.set_cons_succ])
                            refine wpK_mk _ rfl (by rfl) (.slice s7 n7 c7) w7 (ex_appU rfl rfl rfl HAP.out) _ HS7.out (fun _ h => h) ?_
                            (try simp only [Act.put, List.setIfInBounds_toArray, List.set_cons_zero, List.set_cons_succ])
                            refine wpG_take _ (.pointer (some ⟨R k, 0, none⟩)) rfl (by rfl) (fun Z hZ => exk_nc rfl rfl) ?_
                            (try simp only [Act.put, List.setIfInBounds_toArray, List.set_cons_zero, List.set_cons_succ])
                            refine wpG_take _ (.pointer (some ⟨R k, 1, none⟩)) rfl (by rfl) (fun Z hZ => exk_faR (by omega) rfl rfl) ?_
                            (try simp only [Act.put, List.setIfInBounds_toArray, List.set_cons_zero, List.set_cons_succ])
                            refine wpK_st _ rfl (by rfl) (w7.setCell ⟨R k, 1, none⟩ (.slice s7 n7 c7)) (exk_sts rfl rfl rfl HC7.out.1 HC7.out.2) _ HS8.out (fun _ h => h) ?_
                            refine wpG_nil ?_
                            generalize hgw : (w7.setCell ⟨R k, 1, none⟩ (.slice s7 n7 c7)) = w8
                            have HP9 : Hid (Pm W w8 D B (allS sp0 (turnA 2 1)) G lab8 R v8 (upR (backRd rd k) k ((rd k).set 0 ((rd k).l 0 ++ (rd k).l 1)))) := Lib.hid (by rw [← hgw]; exact HP8.out)
                            clear hgw HP8
                            have p9 := HP9.out.ptr hlt2
                            have hrd9 := HP9.out.rds k hlt2
                            rw [upR_at] at hrd9
                            have cc : w8.cell? ⟨R k, 2, none⟩ = some (v8 k 1) := hrd9.blk.cell rfl
                            have ff := hrd9.blk.free 2
                            obtain ⟨lab9, v9, hP10⟩ := HP9.out.ref hlt2 (hrd9.nil (i := 1) (by omega))
                            rw [backRd_succ] at hP10
                            have HP10 := Lib.hid hP10
                            clear hrd9 hP10
                            have hkk : ¬ 2 ≤ (k : Int) := by omega
                            go_wp2_with fail
                            go_roundw
                            case rel => exact ⟨k + 1, by omega, by go_num, _, _, HP10.out⟩
                            case measure => simp [intOf]; omega
                          · obtain rfl : k = 2 := by omega
                            have HW2 := Lib.hid hW
                            clear hW HP3
                            rw [show ((2 : Nat) : Int) = (2 : Int) from rfl]
                            go_wp2_with fail
                            go_meet
                            refine ⟨⟨0, rfl, rfl⟩, _, _, _, _, HW2.out.pl (fun e he => ?_), fun e he => by unfold allS; rw [List.length_map]; exact HN.out e he⟩
                            have hs := (HSM.out e he).back
                            obtain rfl | rfl : e = 0 ∨ e = 1 := by omega
                            · exact hs
                            · exact hs
        case rest =>
          as_aux_lemma =>
            obtain ⟨⟨c, rfl, rfl⟩, sp1, lab1, v1, rd1, h1, h2⟩ := hcut
            have HZ := Lib.hid h1; have HNZ := Lib.hid h2
            clear h1 h2 HY HBY a0 a1 a2 HN
            go_wp2_with fail
            refine (same_any W _ D B sp1 G lab1 R v1 rd1 HZ.out (fun d hd => by have h1 := (HZ.out.sim d hd).n; have h2 := HNZ.out d hd; omega)).mono ?_
            rintro e w4 ⟨rfl, hb⟩
            have HZ4 := Lib.hid (HZ.out.below hb)
            clear hb HZ
            go_wp2_with fail
            go_roundw
            case rel => exact ⟨j + 1, by omega, by go_num, _, _, _, _, HZ4.out, HNZ.out⟩
            case measure => simp [intOf]; omega
    · obtain rfl : j = m := by omega
      as_aux_lemma =>
        go_wp2_with fail
        refine (count_none0 2 D _ (by omega)).mono ?_
        rintro e w3 ⟨rfl, hb⟩
        have HB3 := Lib.hid (HA.out.live.bel.trans (hb.mono HA.out.live.bel.size))
        clear hb
        go_wp2_with fail
        refine (is_none (-1) D 1 _ (by omega) (by omega)).mono ?_
        rintro e w4 ⟨rfl, hb⟩
        have HB4 := Lib.hid (HB3.out.trans (hb.mono HB3.out.size))
        clear hb HB3
        go_wp2_with fail
        refine (wakes_any _).mono ?_
        rintro e w5 ⟨rfl, hb⟩
        have HB5 := Lib.hid (HB4.out.trans (hb.mono HB4.out.size))
        clear hb HB4
        go_wp2_with fail
        go_ret
        exact ⟨rfl, HB5.out⟩
end Go.Proofs.Ytjfedhaafdfibaa
