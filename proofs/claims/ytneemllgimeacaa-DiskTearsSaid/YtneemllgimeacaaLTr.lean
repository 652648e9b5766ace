/- Behind a crash each byte is one that stood there, or was written: the law, walked. -/
import Derived.Test.YtneemllgimeacaaTy
import Derived.Deep.DeepCutAuto
namespace Go.Proofs.Ytneemllgimeacaa
open Go.RowKit

theorem MayAt.shape {w : World} {F : Nat → Prop} {v : Value} {ms : List (List Bs)} {us : List Value} (h : MayAt w F v ms us) : ∃ sp n c, v = .slice sp n c := by
  rcases h.own.2 with ⟨h, _⟩ | ⟨_, _, _, h, _⟩ <;> exact ⟨_, _, _, h⟩
theorem SrcA.out {F : Nat → Prop} {w w' : World} {sp : Option Addr} {b : Bs} (h : SrcA w sp b) (hc : Chg F w w') (hn : ∀ ad, sp = some ad → ¬ F ad.block) : SrcA w' sp b := fun h0 => by
  obtain ⟨g, o, rfl, hg, hcl⟩ := h h0
  exact ⟨g, o, rfl, Nat.lt_of_lt_of_le hg hc.size, fun j hj => (World.cell?_of_block (w := w) (hc.block g hg (hn _ rfl))).trans (hcl j hj)⟩
def Abs2 (w : World) (a : Ac) (e : Ending) (w' : World) : Prop := ∃ sp cap, e = .returned (.slice sp (abytes a).length cap) ∧ (abytes a).length ≤ cap ∧ cap ≤ maxLen ∧ SrcA w' sp (abytes a) ∧ Below w.heap.size w w' ∧ ((a.short = true ∧ sp = a.spb) ∨ (∀ ad, sp = some ad → w.heap.size ≤ ad.block))
set_option maxRecDepth 100000 in
theorem bytes_any2 (a : Ac) (w : World) (h : AcOK w a) (hb : a.b.length ≤ 600) : Calls Try.prog 33 #[aval a] w (Abs2 w a) := by
  obtain ⟨act, d, addr, b, spb, capb, short, n, z, spz, capz⟩ := a
  have H := Lib.hid h
  unfold aval Abs2 abytes
  simp only at hb ⊢
  clear h
  cases short
  · simp only [Bool.false_eq_true, if_false]
    go_enter Try.func33, Try.ntmps33
    go_wp2_with (first | (go_at_call 34; refine (full_any b spb b.length capb rfl (by omega) _ (H.out.b.grown ((Below.refl _ _).alloc (Nat.le_refl _) _))).mono ?_; rintro e w1 ⟨v, rfl, ho, hw⟩; have HO := Lib.hid ho; have HW := Lib.hid hw; clear ho hw) | fail)
    go_ret
    obtain ⟨sp, cap, rfl, h1, h2, h3, _, h5⟩ := HO.out.form
    exact ⟨sp, cap, rfl, h1, h2, h3, ((Below.refl _ _).alloc (Nat.le_refl _) _).trans (HW.out.mono (by simp)), .inr (fun ad e => by have := (h5 ad e).1; simp at this; omega)⟩
  · simp only [if_true]
    go_enter Try.func33, Try.ntmps33
    go_wp2_with fail
    go_ret
    exact ⟨spb, capb, rfl, H.out.cb, H.out.mb, H.out.b.grown ((Below.refl _ _).alloc (Nat.le_refl _) _), (Below.refl _ _).alloc (Nat.le_refl _) _, .inl ⟨trivial, rfl⟩⟩
theorem ex_eq8 {ρ : Operand → Value} {o : Oper} {x y : Operand} {k : Nat} {p r : Bs} {w : World} (ho : o.op = .binOp .eql 5 x y 5) (hx : ρ x = V8 (r.getD k 0)) (hy : ρ y = V8 (p.getD k 0)) : (execOp ρ o).run Try.prog w = .ok (.value (.bool (hit p r k))) w := by
  unfold hit
  unfold execOp
  simp only [ho]
  go_simp
theorem wpL_skip {ops : Array Oper} {rest : List Oper} {o : Oper} {a : Act} {Q : Exit → Act → World → Prop} {w w' : World} (hg : o.guard = none) (hrun : (execOp a.eval o).run Try.prog w = .ok .skip w')
    (hK : wpList Try.prog ops Q rest (a.put o.dst undef) w') : wpList Try.prog ops Q (o :: rest) a w := by
  refine wpList_plain hg fun K' hK' => ?_
  unfold Oper.wp
  rw [hrun]
  exact hK' _ _ hK
theorem ex_neT {ρ : Operand → Value} {o : Oper} {x y : Operand} {l : Bs} {w : World} (ho : o.op = .binOp .neq 9 x y 9) (hx : ρ x = .string (bstr l)) (hy : ρ y = .string (bstr l)) : (execOp ρ o).run Try.prog w = .ok (.value (.bool false)) w := by
  unfold execOp
  simp only [ho]
  go_simp
def trOK (W : World) (e : Ending) (w' : World) : Prop := e = .returned (.bool true) ∧ Below W.heap.size W w'
theorem u16_in (k : Nat) (h : k < 65536) : IntKind.u16.wrap (k : Int) = (k : Int) := by simp only [IntKind.wrap_u16]; omega
def L1Rel (W : World) (D Q nb n1 : Nat) (i : Value) (wr : World) : Prop :=
  ∃ k : Nat, k ≤ n1 ∧ i = .int .i64 (k : Int) ∧ ∃ S c, Lw W.heap.size W wr D Q S (pdn nb (fun _ => blank) c) p0 ∧ AllB c ∧ c.length ≤ k
def L2Rel (W : World) (D Q nb : Nat) (S : Nat → Prop) (m : Nat → Bk) (v i : Value) (wr : World) : Prop :=
  ∃ k : Nat, k ≤ nb ∧ i = .int .i64 (k : Int) ∧ Lw W.heap.size W wr D Q S (pdn nb m []) p0 ∧ ∃ us, MayAt wr (Fw W S Q) v (mays k m []) us
def L3Rel (W : World) (D Q nb n2 : Nat) (m : Nat → Bk) (v i : Value) (wr : World) : Prop :=
  ∃ k : Nat, k ≤ n2 ∧ i = .int .i64 (k : Int) ∧ ∃ S c us, Lw W.heap.size W wr D Q S (pdn nb m c) p0 ∧ AllB c ∧ c.length ≤ k ∧ MayAt wr (Fw W S Q) v (mays nb m c) us
def L5Rel (W : World) (D Q nb : Nat) (S : Nat → Prop) (m : Nat → Bk) (v : Value) (top : Nat) (i : Value) (wr : World) : Prop :=
  ∃ k : Nat, k ≤ top ∧ i = .int .i64 (k : Int) ∧ Lw W.heap.size W wr D Q S (pdn nb m []) p0 ∧ ∃ ms us, MayAt wr (Fw W S Q) v ms us ∧ ms.length = nb ∧ MaysOK m ms
theorem allB_if {c c' : List (Nat × Bs)} {a n : Nat} {b : Bs} (h : AllB c) (e : c' = (if a < n ∧ b.length = 512 then c ++ [(a, b)] else c)) : AllB c' := by
  subst e
  split
  · rename_i h1
    exact h.snoc h1.2
  · exact h
theorem len_if {c c' : List (Nat × Bs)} {a n k : Nat} {b : Bs} (h : c.length ≤ k) (e : c' = (if a < n ∧ b.length = 512 then c ++ [(a, b)] else c)) : c'.length ≤ k + 1 := by
  subst e
  split
  · simp; omega
  · omega
set_option maxRecDepth 100000 in
set_option maxHeartbeats 16000000 in
theorem tears_body (nb n1 c1 n2 c2 nz cz : Nat) (l1 l2 : List Ac) (zs : List Int) (sp1 sp2 spz : Option Addr) (W : World) (h1 : l1.length = n1) (h2 : l2.length = n2) (hz : zs.length = nz) (k1 : n1 ≤ c1) (k2 : n2 ≤ c2) (kz : nz ≤ cz) (hmz : cz ≤ maxLen) (hm1 : c1 ≤ maxLen) (hm2 : c2 ≤ maxLen)
    (A1 : ActsAt W sp1 l1) (A2 : ActsAt W sp2 l2) (AZ : SrcI W spz zs) (g1 : great l1 = false) (g2 : great l2 = false) (b1 : n1 ≤ 60) (b2 : n2 ≤ 60) (bz : nz ≤ 200) (hb1 : 1 ≤ nb) (hb2 : nb ≤ 20) :
    Calls Try.prog 5 #[.int .u8 (nb : Int), .slice sp1 n1 c1, .slice sp2 n2 c2, .slice spz nz cz] W (trOK W) := by
  have H1 := Lib.hid h1
  have H2 := Lib.hid h2
  have HZ := Lib.hid hz
  have HA1 := Lib.hid A1
  have HA2 := Lib.hid A2
  have HAZ := Lib.hid AZ
  have G1 := Lib.hid (great_small g1)
  have G2 := Lib.hid (great_small g2)
  have HMZ := Lib.hid hmz
  have e1 : great l1 = false := g1
  have e2 : great l2 = false := g2
  have HE1 := Lib.hid e1
  have HE2 := Lib.hid e2
  have i1 : ¬ ((60 : Int) < (n1 : Int)) := by omega
  have i2 : ¬ ((60 : Int) < (n2 : Int)) := by omega
  have iz : ¬ ((200 : Int) < (nz : Int)) := by omega
  have ib1 : ¬ ((nb : Int) < 1) := by omega
  have ib2 : ¬ ((20 : Int) < (nb : Int)) := by omega
  have wnb := IntWalk.i64_in (nb : Int) (by omega)
  clear A1 A2 AZ g1 g2 h1 h2 hz hmz e1 e2
  go_enter Try.func5, Try.ntmps5
  go_wp2_with fail
  refine (great_any l1 sp1 n1 c1 H1.out k1 hm1 W HA1.out).mono ?_
  rw [HE1.out]
  rintro e w' ⟨rfl, rfl⟩
  go_wp2_with fail
  refine (great_any l2 sp2 n2 c2 H2.out k2 hm2 W HA2.out).mono ?_
  rw [HE2.out]
  rintro e w' ⟨rfl, rfl⟩
  go_wp2_with fail
  refine (on_any W).mono ?_
  rintro e w1 ⟨Q, rfl, hQ1, hQ2, hp1, hb1'⟩
  have HP1 := Lib.hid hp1
  have HB1 := Lib.hid hb1'
  clear hp1 hb1'
  go_wp2_with fail
  refine (new_ok nb Q p0 rfl w1 HP1.out hb1 (by omega)).mono ?_
  rintro e w2 ⟨D, S, rfl, hd2, hs2, hb2'⟩
  have HL : Hid (Lw W.heap.size W w2 D Q S (pdn nb (fun _ => blank) []) p0) := Lib.hid ⟨hd2, HP1.out.chg (Chg.of_below (F := fun _ => False) hb2') (fun h => h), fun k hk => Nat.le_trans HB1.out.size (hs2 k hk), hQ1, Nat.le_refl _, HB1.out.trans (hb2'.mono HB1.out.size)⟩
  clear hd2 hs2 hb2' HP1 HB1 hQ1 hQ2
  go_wp2_with fail
  have HR := Lib.hid (show L1Rel W D Q nb n1 (.int .i64 0) w2 from ⟨0, Nat.zero_le _, rfl, S, [], HL.out, fun x hx => by simp at hx, Nat.le_refl _⟩)
  clear HL
  go_loopw [12] (fun i wr => L1Rel W D Q nb n1 i wr) (fun i _ => n1 - (intOf i).toNat)
  case atStart => exact HR.out
  case round =>
    clear HR S
    obtain ⟨k, hk, rfl, S, c, hL, hAll, hcl⟩ := hrel
    have HL := Lib.hid hL
    have HALL := Lib.hid hAll
    clear hL hAll
    have wk1 := IntWalk.i64_in ((k : Int) + 1) (by omega)
    by_cases hlt : k < n1
    · obtain ⟨a, ha⟩ : ∃ a, l1[k]? = some a := ⟨_, List.getElem?_eq_getElem (by have := H1.out; omega)⟩
      obtain ⟨g, og, rfl, hg, hcl2⟩ := HA1.out.2 (by have := H1.out; omega)
      have hca := hcl2 k a ha
      have hok := HA1.out.1 a (List.mem_of_getElem? ha)
      have hab := (G1.out.2 a (List.mem_of_getElem? ha)).1
      have HCA : Hid (∀ X : World, Below W.heap.size W X → ∀ j, j < 7 → X.cell? ⟨g, og + k * 7 + j, none⟩ = some (a.cell j)) := Lib.hid (fun X hX j hj => (hX.cell (p := ⟨g, og + k * 7 + j, none⟩) hg).trans (hca j hj))
      have HOK := Lib.hid hok
      have HAB := Lib.hid hab
      clear hcl2 hca hok hab ha hg
      go_wp2_with fail
      refine wp_region_sched (.take 0 (.take 1 (.take 2 (.take 3 (.take 4 (.take 5 (.take 6 (.take 7 (.take 8 (.take 9 (.step 10 (.step 11 (.nil))))))))))))) (by kernel_rfl) (by kernel_rfl) (fun d _ _ _ _ h => by cases d <;> exact h) (fun X => Below W.heap.size W X) HL.out.bel.drew ?_
      refine wpG_take _ (.pointer (some ⟨D, 0, none⟩)) rfl (by rfl) (fun X hX => by first | rfl | go_simp) ?_
      (try simp only [Act.put, List.setIfInBounds_toArray, List.set_cons_zero, List.set_cons_succ])
      refine wpG_take _ (.slice (some ⟨g, og, none⟩) n1 c1) rfl (by rfl) (fun X hX => by first | rfl | go_simp) ?_
      (try simp only [Act.put, List.setIfInBounds_toArray, List.set_cons_zero, List.set_cons_succ])
      refine wpG_take _ (.int .i64 (k : Int)) rfl (by rfl) (fun X hX => by first | rfl | go_simp) ?_
      (try simp only [Act.put, List.setIfInBounds_toArray, List.set_cons_zero, List.set_cons_succ])
      refine wpG_take _ (.pointer (some ⟨g, og + k * 7, none⟩)) rfl (by rfl) (fun X hX => ex_ix22 rfl rfl rfl hlt) ?_
      (try simp only [Act.put, List.setIfInBounds_toArray, List.set_cons_zero, List.set_cons_succ])
      refine wpG_take _ (.pointer (some ⟨g, og + k * 7 + 2, none⟩)) rfl (by rfl) (fun X hX => ex_fa45 rfl rfl) ?_
      (try simp only [Act.put, List.setIfInBounds_toArray, List.set_cons_zero, List.set_cons_succ])
      refine wpG_take _ (.int .u16 (a.addr : Int)) rfl (by rfl) (fun X hX => ex_ld41 rfl rfl (HCA.out X hX 2 (by omega))) ?_
      (try simp only [Act.put, List.setIfInBounds_toArray, List.set_cons_zero, List.set_cons_succ])
      refine wpG_take _ (.slice (some ⟨g, og, none⟩) n1 c1) rfl (by rfl) (fun X hX => by first | rfl | go_simp) ?_
      (try simp only [Act.put, List.setIfInBounds_toArray, List.set_cons_zero, List.set_cons_succ])
      refine wpG_take _ (.int .i64 (k : Int)) rfl (by rfl) (fun X hX => by first | rfl | go_simp) ?_
      (try simp only [Act.put, List.setIfInBounds_toArray, List.set_cons_zero, List.set_cons_succ])
      refine wpG_take _ (.pointer (some ⟨g, og + k * 7, none⟩)) rfl (by rfl) (fun X hX => ex_ix22 rfl rfl rfl hlt) ?_
      (try simp only [Act.put, List.setIfInBounds_toArray, List.set_cons_zero, List.set_cons_succ])
      refine wpG_take _ (aval a) rfl (by rfl) (fun X hX => ex_ld45 rfl rfl (HCA.out X hX)) ?_
      (try simp only [Act.put, List.setIfInBounds_toArray, List.set_cons_zero, List.set_cons_succ])
      refine wpG_call _ rfl (by rfl) 33 #[aval a] (fun _ => by go_simp) (fun u w' => ∃ sp cap, u = .slice sp (abytes a).length cap ∧ SrcA w' sp (abytes a) ∧ Below wr.heap.size wr w') ((bytes_any a wr.drew (HOK.out.below HL.out.bel.drew (Nat.le_refl _)) HAB.out).mono fun e w' ⟨sp, cap, e1, _, _, e4, e5⟩ => ⟨_, e1, HL.out.bel.drew.trans (e5.mono HL.out.bel.size), _, _, rfl, e4, (Below.refl _ wr).drew.trans e5⟩) ?_
      rintro u v1 - ⟨spb, cpb, rfl, hsb, hwb⟩
      refine ⟨_, fun _ h => h, HL.out.bel.trans (hwb.mono HL.out.bel.size), ?_⟩
      (try simp only [Act.put, List.setIfInBounds_toArray, List.set_cons_zero, List.set_cons_succ])
      refine wpG_call _ rfl (by rfl) 25 #[.pointer (some ⟨D, 0, none⟩), .int .u16 (a.addr : Int), .slice spb (abytes a).length cpb] (fun _ => by go_simp) (fun u w' => ∃ S' c', Lw W.heap.size W w' D Q S' (pdn nb (fun _ => blank) c') p0 ∧ AllB c' ∧ c'.length ≤ k + 1) ((tw_write (HL.out.grown hwb) a.addr HOK.out.addr (abytes a) spb cpb hsb (by omega)).mono fun e w' ⟨S', c', hL', hc', he, _, _⟩ => ⟨_, he, hL'.bel, S', c', hL', allB_if HALL.out hc', len_if hcl hc'⟩) ?_
      rintro u v2 - ⟨S2, cc2, hL2, hA2, hcl2⟩
      refine ⟨_, fun _ h => h, hL2.bel, ?_⟩
      (try simp only [Act.put, List.setIfInBounds_toArray, List.set_cons_zero, List.set_cons_succ])
      refine wpG_nil ?_
      have HR2 : Hid (L1Rel W D Q nb n1 (.int .i64 ((k + 1 : Nat) : Int)) v2) := Lib.hid ⟨k + 1, by omega, rfl, S2, cc2, hL2, hA2, hcl2⟩
      clear hL2 hA2 hcl2 hwb hsb HL HALL
      go_wp2_with fail
      go_roundw
      case rel => exact HR2.out
      case measure => simp [intOf]; omega
    · obtain rfl : k = n1 := by omega
      clear hlt hk
      go_wp2_with fail
      refine (flush_any D Q S (pdn nb (fun _ => blank) c) p0 wr HL.out.dk HL.out.pw (by simp [pdn]; omega)).mono ?_
      intro e w3 h
      unfold Did at h
      rw [pdn_flushed] at h
      obtain ⟨rfl, hd, hp, hc⟩ := h
      have hm : Good (settled (fun _ => 512) c (fun _ => blank) c.length) := good_settled good0 HALL.out (fun _ => .inr (by omega)) _
      have hL3 := HL.out.stay hd hp hc
      obtain ⟨m, hmm⟩ : ∃ m, settled (fun _ => 512) c (fun _ => blank) c.length = m := ⟨_, rfl⟩
      rw [hmm] at hL3 hm
      have HL3 := Lib.hid hL3
      have HM := Lib.hid hm
      clear hd hp hc hL3 hm hmm HL HALL hcl
      go_wp2_with fail
      refine (cached_any D Q S (pdn nb m []) w3 HL3.out.dk).mono ?_
      rintro e w' ⟨he, rfl⟩
      rw [show ((pdn nb m []).cache.length : Int) = 0 from rfl] at he
      subst he
      go_wp2_with fail
      have HR := Lib.hid (show L2Rel W D Q nb S m (.slice none 0 0) (.int .i64 0) w3 from ⟨0, Nat.zero_le _, rfl, HL3.out, [], MayAt.nil _ _⟩)
      clear HL3
      go_loopw [13, 14] (fun v i wr => L2Rel W D Q nb S m v i wr) (fun _ i _ => nb - (intOf i).toNat)
      case atStart => exact HR.out
      case round =>
        clear HR
        obtain ⟨q, hq, rfl, hL, us, hMay⟩ := hrel
        have HL := Lib.hid hL
        have HY := Lib.hid hMay
        obtain ⟨vsp, vn, vc, rfl⟩ := hMay.shape
        clear hL hMay
        have wq1 := IntWalk.i64_in ((q : Int) + 1) (by omega)
        have wq16 := u16_in q (by omega)
        by_cases hlt : q < nb
        · go_wp2_with fail
          refine (look_any D Q S (pdn nb m []) q (by omega) wr HL.out.dk (by simp [pdn])).mono ?_
          rw [pdn_look HM.out nb [] q hlt, cur_nil]
          rintro e w4 ⟨u, rfl, ⟨gb, rfl, hbl, hbb, -⟩, hb⟩
          have hcv : (convert 42 9 (.slice (some ⟨gb, 0, none⟩) 512 512)).run Try.prog w4 = .ok (.string (bstr (m q).b)) w4 := by
            have := conv_str (cap := 512) hbb.srcB
            rw [hbl] at this
            exact this
          have HL4 := Lib.hid (HL.out.grown hb)
          have HY4 := Lib.hid (HY.out.grown hb)
          clear hb hbb hbl HL HY
          obtain ⟨v', w5, hr, ⟨us', hm5⟩, hc5⟩ := push_new HY4.out HL4.out.fw (m q).b (by rw [mays_length]; omega) 64
          have HR5 := Lib.hid hr
          have HN5 : Hid (L2Rel W D Q nb S m v' (.int .i64 ((q + 1 : Nat) : Int)) w5) := Lib.hid ⟨q + 1, by omega, rfl, HL4.out.law hc5 (fun k hk => HY4.out.out k hk), us', by rw [mays_succ]; exact hm5⟩
          clear hr hm5 hc5
          go_wp2_with (first | (at_builtin; refine wpL_val rfl (ex_app64 rfl rfl rfl HR5.out) ?_) | fail)
          go_roundw
          case rel => exact HN5.out
          case measure => simp [intOf]; omega
        · obtain rfl : q = nb := by omega
          clear hlt hq
          have hsh := own_shape HY.out.own (by rw [mays_length]; omega)
          rw [mays_length] at hsh
          obtain ⟨g13, c13, e13, _, _, _⟩ := hsh
          cases e13
          have HR3 := Lib.hid (show L3Rel W D Q q n2 m (.slice (some ⟨g13, 0, none⟩) q vc) (.int .i64 0) wr from ⟨0, Nat.zero_le _, rfl, S, [], us, HL.out, fun x hx => by simp at hx, Nat.le_refl _, HY.out⟩)
          clear HL HY
          go_wp2_with fail
          go_loopw [17] (fun i wr => L3Rel W D Q q n2 m (.slice (some ⟨g13, 0, none⟩) q vc) i wr) (fun i _ => n2 - (intOf i).toNat)
          case atStart => exact HR3.out
          case round =>
            clear HR3
            obtain ⟨p, hp, rfl, S, c, us, hL, hAll, hcl, hMay⟩ := hrel
            have HL := Lib.hid hL
            have HALL := Lib.hid hAll
            have HY := Lib.hid hMay
            clear hL hAll hMay
            have wp1 := IntWalk.i64_in ((p : Int) + 1) (by omega)
            by_cases hlt : p < n2
            · obtain ⟨a, ha⟩ : ∃ a, l2[p]? = some a := ⟨_, List.getElem?_eq_getElem (by have := H2.out; omega)⟩
              obtain ⟨g, og, rfl, hg, hcl2⟩ := HA2.out.2 (by have := H2.out; omega)
              have hca := hcl2 p a ha
              have hok := HA2.out.1 a (List.mem_of_getElem? ha)
              have hab := (G2.out.2 a (List.mem_of_getElem? ha)).1
              have HCA : Hid (∀ X : World, Below W.heap.size W X → ∀ j, j < 7 → X.cell? ⟨g, og + p * 7 + j, none⟩ = some (a.cell j)) := Lib.hid (fun X hX j hj => (hX.cell (p := ⟨g, og + p * 7 + j, none⟩) hg).trans (hca j hj))
              have HOK := Lib.hid hok
              have HAB := Lib.hid hab
              clear hcl2 hca hok hab ha hg
              go_wp2_with (first | (refine wpL_val rfl (ex_ld45 rfl rfl (HCA.out _ HL.out.bel)) ?_) | fail)
              refine (bytes_any2 a wr (HOK.out.below HL.out.bel (Nat.le_refl _)) HAB.out).mono ?_
              rintro e v1 ⟨spb, cpb, rfl, hcb, hmb, hsb, hwb, hwhere⟩
              have hwlt : ∀ k, Fo S Q k → k < wr.heap.size := HL.out.fo
              have HS : Hid (∀ X : World, Chg (fun k => ¬ wr.heap.size ≤ k) v1 X → Below W.heap.size W X → SrcA X spb (abytes a)) := Lib.hid (fun X hX hbX => by
                rcases hwhere with ⟨hsh, hspe⟩ | hnew
                · have hbb := HOK.out.b.below hbX (Nat.le_refl _)
                  unfold abytes
                  rw [if_pos hsh, hspe]
                  exact hbb
                · exact hsb.out hX (fun ad hsp hf => hf (hnew ad hsp)))
              have hrows : ∀ (j : Nat) (u : Value) (k : Nat), us[j]? = some u → u.ownBlock = some k → k < wr.heap.size := fun j u k hu hk => by
                obtain ⟨y, hy⟩ : ∃ y, (mays q m c)[j]? = some y := ⟨_, List.getElem?_eq_getElem (by have := (List.getElem?_eq_some_iff.1 hu).1; rw [HY.out.len] at this; exact this)⟩
                exact ((HY.out.inner j y u hy hu).own.lt k hk).2
              have hg13 : g13 < wr.heap.size := (HY.out.own.lt g13 rfl).2
              have HROWS := Lib.hid hrows
              have HL1 := Lib.hid (HL.out.grown hwb)
              have HY1 := Lib.hid (HY.out.grown hwb)
              have hw1s : wr.heap.size ≤ v1.heap.size := hwb.size
              have HW1S := Lib.hid hw1s
              clear hwb hsb HL HY hrows hwhere hw1s
              have q2 := HCA.out v1 HL1.out.bel 2 (by omega)
              simp only [Ac.cell] at q2
              have hal := HOK.out.addr
              go_wp2_with fail
              refine (tw_write HL1.out a.addr hal (abytes a) spb cpb (HS.out v1 (Chg.refl _ _) HL1.out.bel) (by omega)).mono ?_
              rintro e v2 ⟨S2, cc2, hL2, hc2, rfl, hfo2, hch2⟩
              have HL2 := Lib.hid hL2
              have HY2 := Lib.hid (HY1.out.next (hch2.mono (fun _ h => .inl h)) (fw_mono hfo2))
              have HCH2 : Hid (Chg (fun k => ¬ wr.heap.size ≤ k) v1 v2) := Lib.hid (hch2.mono (fun k hk hle => by have := hwlt k hk; omega))
              clear hL2 hfo2 hch2 q2 HL1 HY1 hwlt
              have q2 := HCA.out v2 HL2.out.bel 2 (by omega)
              simp only [Ac.cell] at q2
              have wa := IntWalk.i64_in (a.addr : Int) (by omega)
              by_cases hcond : a.addr < q ∧ (abytes a).length = 512
              · rw [if_pos hcond] at hc2 ⊢
                have HC2 := Lib.hid hc2
                have hlen := hcond.2
                have hadr : (a.addr : Int) < (q : Int) := by omega
                have hadn := hcond.1
                rw [hlen]
                clear hcond hc2
                go_wp2_with fail
                have hms : (mays q m c)[a.addr]? = some ((m a.addr).b :: writesOf c a.addr) := mays_at m c hadn
                have hwl : ((m a.addr).b :: writesOf c a.addr).length < 1000000 := by
                  have h1 := List.length_filter_le (fun x : Nat × Bs => x.1 == a.addr) c
                  unfold writesOf
                  simp
                  omega
                obtain ⟨u, hu, hcellu, hall⟩ := row_more (HY2.out.grown (Below.refl _ v2).drew) (by rw [mays_length]) hadn hms (fun k hk => (HL2.out.grown (Below.refl _ v2).drew).fw k hk) (abytes a) hwl hg13 HROWS.out
                obtain ⟨u', w1, hr, hcw1, hfw1, ⟨usp, un, uc, hush⟩, hput, hchr⟩ := hall 65
                subst hush
                have hsrc2 : SrcA v2.drew spb (abytes a) := HS.out _ HCH2.out.drew HL2.out.bel.drew
                have hcell2 : (v2.drew.alloc (.cells #[VT (abytes a)] 9)).cell? ⟨g13, a.addr, none⟩ = some u := (((Below.refl v2.heap.size v2).drew.alloc (Nat.le_refl _) (.cells #[VT (abytes a)] 9)).cell (p := ⟨g13, a.addr, none⟩) (Nat.lt_of_lt_of_le hg13 (Nat.le_trans HW1S.out HCH2.out.size))).trans hcellu
                have HLz := Lib.hid ((HL2.out.grown (Below.refl _ v2).drew).law hchr (fun k hk => hk.1))
                have HYz := Lib.hid hput
                have HCHz : Hid (Chg (fun k => ¬ wr.heap.size ≤ k) v1 (w1.setCell ⟨g13, a.addr, none⟩ (.slice usp un uc))) := Lib.hid (HCH2.out.drew.trans' (hchr.mono (fun k hk hle => by omega)))
                have hbel1 : Below W.heap.size W v2.drew := HL2.out.bel.drew
                have hbelA : Below W.heap.size W (v2.drew.alloc (.cells #[VT (abytes a)] 9)) := hbel1.alloc hbel1.size _
                have hbw1 : Below W.heap.size W w1 := by
                  have hz := HLz.out.bel
                  refine ⟨hz.os, hz.tape, hz.output, by have := hz.size; simpa [World.setCell] using this, fun k hk => ?_⟩
                  have h9 := hz.block k hk
                  rw [← h9]
                  have hne : k ≠ g13 := fun e => HY2.out.out g13 rfl (.inr (by omega))
                  exact (Below.heap_setCell _ _ _ _ hne).symm
                refine wp_region_sched (.take 0 (.take 1 (.take 2 (.take 3 (.take 4 (.take 5 (.take 6 (.take 7 (.take 8 (.take 9 (.take 10 (.take 11 (.take 12 (.take 14 (.fork 13 (.step 15 (.step 16 (.step 17 (.take 18 (.step 19 (.nil)))))) 15 (.fork 13 (.step 16 (.step 17 (.take 18 (.step 19 (.nil))))) 16 (.step 13 (.step 17 (.take 18 (.step 19 (.nil))))))))))))))))))))) (by kernel_rfl) (by kernel_rfl) (fun d _ _ _ _ h => by cases d <;> exact h) (fun X => Below W.heap.size W X) hbel1 ?_
                refine wpG_take _ (.slice (some ⟨g13, 0, none⟩) q vc) rfl (by rfl) (fun X hX => by first | rfl | go_simp) ?_
                (try simp only [Act.put, List.setIfInBounds_toArray, List.set_cons_zero, List.set_cons_succ])
                refine wpG_take _ (.slice (some ⟨g, og, none⟩) n2 c2) rfl (by rfl) (fun X hX => by first | rfl | go_simp) ?_
                (try simp only [Act.put, List.setIfInBounds_toArray, List.set_cons_zero, List.set_cons_succ])
                refine wpG_take _ (.int .i64 (p : Int)) rfl (by rfl) (fun X hX => by first | rfl | go_simp) ?_
                (try simp only [Act.put, List.setIfInBounds_toArray, List.set_cons_zero, List.set_cons_succ])
                refine wpG_take _ (.pointer (some ⟨g, og + p * 7, none⟩)) rfl (by rfl) (fun X hX => ex_ix22 rfl rfl rfl hlt) ?_
                (try simp only [Act.put, List.setIfInBounds_toArray, List.set_cons_zero, List.set_cons_succ])
                refine wpG_take _ (.pointer (some ⟨g, og + p * 7 + 2, none⟩)) rfl (by rfl) (fun X hX => ex_fa45 rfl rfl) ?_
                (try simp only [Act.put, List.setIfInBounds_toArray, List.set_cons_zero, List.set_cons_succ])
                refine wpG_take _ (.int .u16 (a.addr : Int)) rfl (by rfl) (fun X hX => ex_ld41 rfl rfl (HCA.out X hX 2 (by omega))) ?_
                (try simp only [Act.put, List.setIfInBounds_toArray, List.set_cons_zero, List.set_cons_succ])
                refine wpG_take _ (.slice (some ⟨g13, 0, none⟩) q vc) rfl (by rfl) (fun X hX => by first | rfl | go_simp) ?_
                (try simp only [Act.put, List.setIfInBounds_toArray, List.set_cons_zero, List.set_cons_succ])
                refine wpG_take _ (.slice (some ⟨g, og, none⟩) n2 c2) rfl (by rfl) (fun X hX => by first | rfl | go_simp) ?_
                (try simp only [Act.put, List.setIfInBounds_toArray, List.set_cons_zero, List.set_cons_succ])
                refine wpG_take _ (.int .i64 (p : Int)) rfl (by rfl) (fun X hX => by first | rfl | go_simp) ?_
                (try simp only [Act.put, List.setIfInBounds_toArray, List.set_cons_zero, List.set_cons_succ])
                refine wpG_take _ (.pointer (some ⟨g, og + p * 7, none⟩)) rfl (by rfl) (fun X hX => ex_ix22 rfl rfl rfl hlt) ?_
                (try simp only [Act.put, List.setIfInBounds_toArray, List.set_cons_zero, List.set_cons_succ])
                refine wpG_take _ (.pointer (some ⟨g, og + p * 7 + 2, none⟩)) rfl (by rfl) (fun X hX => ex_fa45 rfl rfl) ?_
                (try simp only [Act.put, List.setIfInBounds_toArray, List.set_cons_zero, List.set_cons_succ])
                refine wpG_take _ (.int .u16 (a.addr : Int)) rfl (by rfl) (fun X hX => ex_ld41 rfl rfl (HCA.out X hX 2 (by omega))) ?_
                (try simp only [Act.put, List.setIfInBounds_toArray, List.set_cons_zero, List.set_cons_succ])
                refine wpG_take _ (.pointer (some ⟨g13, a.addr, none⟩)) rfl (by rfl) (fun X hX => ex_ix64 rfl rfl rfl hadn) ?_
                (try simp only [Act.put, List.setIfInBounds_toArray, List.set_cons_zero, List.set_cons_succ])
                refine wpG_take _ (.slice spb 512 cpb) rfl (by rfl) (fun X hX => by first | rfl | go_simp) ?_
                (try simp only [Act.put, List.setIfInBounds_toArray, List.set_cons_zero, List.set_cons_succ])
                refine wpG_fork (wpG_mk _ rfl (by rfl) (u) (v2.drew) (ex_ld65 rfl rfl hcellu) (fun X => Below W.heap.size W X) hbel1 (fun _ h => h) ?_) (wpG_mk _ rfl (by rfl) (VT (abytes a)) (v2.drew) (ex_cv rfl rfl hlen hsrc2) (fun X => Below W.heap.size W X) hbel1 (fun _ h => h) ?_)
                (try simp only [Act.put, List.setIfInBounds_toArray, List.set_cons_zero, List.set_cons_succ])
                refine wpG_mk _ rfl (by rfl) (VT (abytes a)) (v2.drew) (ex_cv rfl rfl hlen hsrc2) (fun X => Below W.heap.size W X) hbel1 (fun _ h => h) ?_
                (try simp only [Act.put, List.setIfInBounds_toArray, List.set_cons_zero, List.set_cons_succ])
                refine wpG_mk _ rfl (by rfl) (.slice (some ⟨v2.heap.size, 0, none⟩) 1 1) (v2.drew.alloc (.cells #[VT (abytes a)] 9)) (ex_one65 rfl rfl) (fun X => Below W.heap.size W X) hbelA (fun _ h => h) ?_
                (try simp only [Act.put, List.setIfInBounds_toArray, List.set_cons_zero, List.set_cons_succ])
                rotate_left
                (try simp only [Act.put, List.setIfInBounds_toArray, List.set_cons_zero, List.set_cons_succ])
                refine wpG_fork (wpG_mk _ rfl (by rfl) (u) (v2.drew) (ex_ld65 rfl rfl hcellu) (fun X => Below W.heap.size W X) hbel1 (fun _ h => h) ?_) (wpG_mk _ rfl (by rfl) (.slice (some ⟨v2.heap.size, 0, none⟩) 1 1) (v2.drew.alloc (.cells #[VT (abytes a)] 9)) (ex_one65 rfl rfl) (fun X => Below W.heap.size W X) hbelA (fun _ h => h) ?_)
                (try simp only [Act.put, List.setIfInBounds_toArray, List.set_cons_zero, List.set_cons_succ])
                refine wpG_mk _ rfl (by rfl) (.slice (some ⟨v2.heap.size, 0, none⟩) 1 1) (v2.drew.alloc (.cells #[VT (abytes a)] 9)) (ex_one65 rfl rfl) (fun X => Below W.heap.size W X) hbelA (fun _ h => h) ?_
                (try simp only [Act.put, List.setIfInBounds_toArray, List.set_cons_zero, List.set_cons_succ])
                rotate_left
                (try simp only [Act.put, List.setIfInBounds_toArray, List.set_cons_zero, List.set_cons_succ])
                refine wpG_mk _ rfl (by rfl) (u) (v2.drew.alloc (.cells #[VT (abytes a)] 9)) (ex_ld65 rfl rfl hcell2) (fun X => Below W.heap.size W X) hbelA (fun _ h => h) ?_
                (try simp only [Act.put, List.setIfInBounds_toArray, List.set_cons_zero, List.set_cons_succ])
                all_goals
                  refine wpG_mk _ rfl (by rfl) (.slice usp un uc) w1 (ex_app65 rfl rfl rfl hr) (fun X => Below W.heap.size W X) hbw1 (fun _ h => h) ?_
                  (try simp only [Act.put, List.setIfInBounds_toArray, List.set_cons_zero, List.set_cons_succ])
                  refine wpG_take _ (.pointer (some ⟨g13, a.addr, none⟩)) rfl (by rfl) (fun X hX => ex_ix64 rfl rfl rfl hadn) ?_
                  (try simp only [Act.put, List.setIfInBounds_toArray, List.set_cons_zero, List.set_cons_succ])
                  refine wpG_st _ rfl (by rfl) (w1.setCell ⟨g13, a.addr, none⟩ (.slice usp un uc)) (ex_st65 rfl rfl rfl hcw1 hfw1) (fun X => Below W.heap.size W X) HLz.out.bel HLz.out.bel (fun _ h => h) ?_
                  refine wpG_nil ?_
                  generalize (w1.setCell ⟨g13, a.addr, none⟩ (.slice usp un uc)) = vz at HLz HYz HCHz ⊢
                  clear hput hchr hr hcw1 hfw1 hcell2 hsrc2 hbw1 hbelA hbel1 hcellu hall q2
                  have q2 := HCA.out vz HLz.out.bel 2 (by omega)
                  simp only [Ac.cell] at q2
                  go_wp2_with fail
                  refine (look_any D Q S2 (pdn q m cc2) a.addr hal vz HLz.out.dk (by rw [show (pdn q m cc2).cache = cc2 from rfl, HC2.out]; simp; omega)).mono ?_
                  rw [pdn_look HM.out q cc2 a.addr hadn, HC2.out, cur_snoc]
                  rintro e v4 ⟨_, rfl, ⟨gb, rfl, _, hbb, -⟩, hb⟩
                  have hcv1 : (convert 42 9 (.slice (some ⟨gb, 0, none⟩) 512 512)).run Try.prog v4 = .ok (.string (bstr (abytes a))) v4 := by
                    have := conv_str (cap := 512) hbb.srcB
                    rw [hlen] at this
                    exact this
                  have hcv2 : (convert 42 9 (.slice spb 512 cpb)).run Try.prog v4 = .ok (.string (bstr (abytes a))) v4 := by
                    have := conv_str (cap := cpb) (HS.out v4 (HCHz.out.trans' (Chg.of_below hb)) (HLz.out.bel.trans (hb.mono HLz.out.bel.size)))
                    rw [hlen] at this
                    exact this
                  have HN : Hid (L3Rel W D Q q n2 m (.slice (some ⟨g13, 0, none⟩) q vc) (.int .i64 ((p + 1 : Nat) : Int)) v4) := Lib.hid ⟨p + 1, by omega, rfl, S2, cc2, _, HLz.out.grown hb, by rw [HC2.out]; exact HALL.out.snoc hlen, by rw [HC2.out]; simp; omega, by rw [HC2.out, mays_write]; exact HYz.out.grown hb⟩
                  clear hb hbb HLz HYz HCHz
                  go_wp2_with fail
                  go_roundw
                  case rel => exact HN.out
                  case measure => simp [intOf]; omega
              · rw [if_neg hcond] at hc2 ⊢
                have hL2 := HL2.out
                have hY2 := HY2.out
                rw [hc2] at hL2
                have HN : Hid (L3Rel W D Q q n2 m (.slice (some ⟨g13, 0, none⟩) q vc) (.int .i64 ((p + 1 : Nat) : Int)) v2) := Lib.hid ⟨p + 1, by omega, rfl, S2, c, us, hL2, HALL.out, by omega, hY2⟩
                clear hL2 hY2 hc2
                by_cases hadn : a.addr < q
                · have hlen : ¬ (abytes a).length = 512 := fun e => hcond ⟨hadn, e⟩
                  have hadr : (a.addr : Int) < (q : Int) := by omega
                  have hleb : (((abytes a).length : Int) == 512) = false := by simp; omega
                  clear hcond hlen
                  go_wp2_with fail
                  go_roundw
                  case rel => exact HN.out
                  case measure => simp [intOf]; omega
                · have hadr : ¬ ((a.addr : Int) < (q : Int)) := by omega
                  clear hcond
                  go_wp2_with fail
                  go_roundw
                  case rel => exact HN.out
                  case measure => simp [intOf]; omega
            · obtain rfl : p = n2 := by omega
              clear hlt hp
              go_wp2_with fail
              have hspz : 0 < zs.length → ∀ a, spz = some a → ¬ S a.block := fun h0 a e hs => by
                obtain ⟨gz, oz, e1, hgz, _⟩ := HAZ.out.2 h0
                rw [e] at e1
                cases e1
                have h3 := HL.out.bs _ hs
                simp at h3
                omega
              refine (crash_any2 D Q S (pdn q m c) zs spz nz cz wr HL.out.dk (by rw [show (pdn q m c).cache = c from rfl]; omega) (HAZ.out.below HL.out.bel (Nat.le_refl _)) HZ.out kz HMZ.out hspz).mono ?_
              rintro e w6 ⟨rfl, hd, hc⟩
              rw [pdn_crashed] at hd
              have hm2 : Good (settled (pickOf zs) c m c.length) := good_settled HM.out HALL.out (pickOf_bounds zs) _
              have hok2 : MaysOK (settled (pickOf zs) c m c.length) (mays q m c) := fun i x hx => by
                have hi : i < q := by
                  have := (List.getElem?_eq_some_iff.1 hx).1
                  rw [mays_length] at this
                  exact this
                rw [mays_at m c hi] at hx
                cases hx
                exact tears HM.out HALL.out (pickOf_bounds zs) i
              have hL6 := HL.out.stay hd (HL.out.pw.chg hc HL.out.dk.nq) (hc.mono (fun _ h => .inl h))
              have hY6 := HY.out.next (hc.mono (fun k h => (.inl (.inl h) : Fw W S Q k))) (fun _ h => .inl h) (F' := Fw W S Q)
              obtain ⟨m2, hmm2⟩ : ∃ m2, settled (pickOf zs) c m c.length = m2 := ⟨_, rfl⟩
              rw [hmm2] at hm2 hok2 hL6
              have HM2 := Lib.hid hm2
              have HSPZ := Lib.hid hspz
              have HR4 := Lib.hid (show L5Rel W D Q q S m2 (.slice (some ⟨g13, 0, none⟩) q vc) 2 (.int .i64 0) w6 from ⟨0, by omega, rfl, hL6, _, us, hY6, mays_length _ _ _, hok2⟩)
              clear hd hc hL6 hY6 hm2 hok2 hmm2 HL HALL HY hspz hcl
              go_wp2_with fail
              go_loopw [22] (fun i wr => L5Rel W D Q q S m2 (.slice (some ⟨g13, 0, none⟩) q vc) 2 i wr) (fun i _ => 2 - (intOf i).toNat)
              case atStart => exact HR4.out
              case round =>
                clear HR4
                obtain ⟨t, ht, rfl, hL, ms, us, hMay, hml, hmo⟩ := hrel
                have wt1 := IntWalk.i64_in ((t : Int) + 1) (by omega)
                by_cases hlt : t < 2
                · have HR5 := Lib.hid (show L5Rel W D Q q S m2 (.slice (some ⟨g13, 0, none⟩) q vc) q (.int .i64 0) wr from ⟨0, by omega, rfl, hL, ms, us, hMay, hml, hmo⟩)
                  clear hL hMay hml hmo
                  have hlt3 : decide ((t : Int) < 2) = true := by simp; omega
                  go_wp2_with fail
                  go_loopw [23] (fun i wr => L5Rel W D Q q S m2 (.slice (some ⟨g13, 0, none⟩) q vc) q i wr) (fun i _ => q - (intOf i).toNat)
                  case atStart => exact HR5.out
                  case round =>
                    clear HR5
                    obtain ⟨i, hi, rfl, hL, ms, us, hMay, hml, hmo⟩ := hrel
                    have HL := Lib.hid hL
                    have HY := Lib.hid hMay
                    have HML := Lib.hid hml
                    have HMO := Lib.hid hmo
                    clear hL hMay hml hmo
                    have wi1 := IntWalk.i64_in ((i : Int) + 1) (by omega)
                    have wi16 := u16_in i (by omega)
                    by_cases hlti : i < q
                    · obtain ⟨x, hx⟩ : ∃ x, ms[i]? = some x := ⟨_, List.getElem?_eq_getElem (by have := HML.out; omega)⟩
                      obtain ⟨ok1, ok2, ok3⟩ := HMO.out i x hx
                      obtain ⟨gi, ci, hcell, _, hci, hmci, hgi, hcells⟩ := HY.out.cells hx
                      have HX := Lib.hid hx
                      have hpos : 0 < x.length := by
                        obtain ⟨u, hu⟩ : ∃ u, us[i]? = some u := ⟨_, List.getElem?_eq_getElem (by rw [HY.out.len]; have := HML.out; omega)⟩
                        exact (HY.out.inner i x u hx hu).pos
                      have hg13 : g13 < wr.heap.size := (HY.out.own.lt g13 rfl).2
                      have HOK := Lib.hid (show _ ∧ _ ∧ _ from ⟨ok1, ok2, ok3⟩)
                      have HCE := Lib.hid hcell
                      have HCS := Lib.hid hcells
                      clear hcell hcells ok1 ok2 ok3 hx
                      go_wp2_with fail
                      refine (look_any D Q S (pdn q m2 []) i (by omega) wr HL.out.dk (by simp [pdn])).mono ?_
                      rw [pdn_look HM2.out q [] i hlti, cur_nil]
                      rintro e v4 ⟨_, rfl, ⟨gb, rfl, hbl, hbb, -⟩, hb⟩
                      obtain ⟨b, hbe⟩ : ∃ b, (m2 i).b = b := ⟨_, rfl⟩
                      rw [hbe] at hbl hbb
                      have HBE := Lib.hid hbe
                      have HL4 := Lib.hid (HL.out.grown hb)
                      have HY4 := Lib.hid (HY.out.grown hb)
                      have HBB := Lib.hid hbb
                      have hF1 : Hid (∀ X : World, Below v4.heap.size v4 X → X.cell? ⟨g13, i, none⟩ = some (.slice (some ⟨gi, 0, none⟩) x.length ci) ∧ (∀ j y, x[j]? = some y → X.cell? ⟨gi, j, none⟩ = some (VT y)) ∧ (∀ k, k < 512 → X.cell? ⟨gb, k, none⟩ = some (V8 (b.getD k 0))) ∧ SrcA X (some ⟨gb, 0, none⟩) b) := Lib.hid (fun X hX => by
                        refine ⟨(hX.cell (p := ⟨g13, i, none⟩) (Nat.lt_of_lt_of_le hg13 hb.size)).trans ((hb.cell (p := ⟨g13, i, none⟩) hg13).trans HCE.out), fun j y hy => (hX.cell (p := ⟨gi, j, none⟩) (Nat.lt_of_lt_of_le hgi hb.size)).trans ((hb.cell (p := ⟨gi, j, none⟩) hgi).trans (HCS.out j y hy)), fun k hk => ?_, ?_⟩
                        · exact ((HBB.out.below hX HBB.out.lt).cell (get_map V8 b k (by omega) 0))
                        · exact (HBB.out.below hX HBB.out.lt).srcB)
                      have HBL := Lib.hid hbl
                      obtain ⟨xl, hxl⟩ : ∃ xl, x.length = xl := ⟨_, rfl⟩
                      have HXL := Lib.hid hxl
                      rw [hxl] at hF1 hci hpos
                      have hxlm : xl ≤ 9223372036854775807 := by unfold maxLen at hmci; omega
                      clear hb hbb hbe hbl HL HY HCE HCS hxl
                      go_wp2_with fail
                      go_cut [246] (fun t wx => t = .bool false ∧ wx = v4.drew)
                      case first =>
                        by_cases hone : xl = 1
                        · refine wp_region_sched (.take 0 (.take 1 (.take 2 (.take 3 (.take 4 (.take 5 (.take 6 (.take 7 (.take 8 (.take 9 (.take 10 (.take 11 (.take 12 (.take 13 (.take 14 (.take 15 (.take 16 (.take 17 (.take 18 (.take 19 (.take 20 (.take 21 (.take 22 (.take 23 (.take 24 (.take 25 (.nil))))))))))))))))))))))))))) (by kernel_rfl) (by kernel_rfl) (fun d _ _ _ _ h => by cases d <;> exact h) (fun X => Below v4.heap.size v4 X) (Below.refl _ v4).drew ?_
                          refine wpG_take _ (.bool true) rfl (by rfl) (fun X hX => by first | rfl | go_simp) ?_
                          (try simp only [Act.put, List.setIfInBounds_toArray, List.set_cons_zero, List.set_cons_succ])
                          refine wpG_take _ (.bool false) rfl (by rfl) (fun X hX => by first | rfl | go_simp) ?_
                          (try simp only [Act.put, List.setIfInBounds_toArray, List.set_cons_zero, List.set_cons_succ])
                          refine wpG_take _ (.bool false) rfl (by rfl) (fun X hX => by first | rfl | go_simp) ?_
                          (try simp only [Act.put, List.setIfInBounds_toArray, List.set_cons_zero, List.set_cons_succ])
                          refine wpG_take _ (.slice (some ⟨gb, 0, none⟩) 512 512) rfl (by rfl) (fun X hX => by first | rfl | go_simp) ?_
                          (try simp only [Act.put, List.setIfInBounds_toArray, List.set_cons_zero, List.set_cons_succ])
                          refine wpG_take _ (.int .i64 512) rfl (by rfl) (fun X hX => by first | rfl | go_simp) ?_
                          (try simp only [Act.put, List.setIfInBounds_toArray, List.set_cons_zero, List.set_cons_succ])
                          refine wpG_take _ (.bool false) rfl (by rfl) (fun X hX => by first | rfl | go_simp) ?_
                          (try simp only [Act.put, List.setIfInBounds_toArray, List.set_cons_zero, List.set_cons_succ])
                          refine wpG_take _ (.bool false) rfl (by rfl) (fun X hX => by first | rfl | go_simp) ?_
                          (try simp only [Act.put, List.setIfInBounds_toArray, List.set_cons_zero, List.set_cons_succ])
                          refine wpG_take _ (.bool false) rfl (by rfl) (fun X hX => by first | rfl | go_simp) ?_
                          (try simp only [Act.put, List.setIfInBounds_toArray, List.set_cons_zero, List.set_cons_succ])
                          refine wpG_take _ (.slice (some ⟨g13, 0, none⟩) q vc) rfl (by rfl) (fun X hX => by first | rfl | go_simp) ?_
                          (try simp only [Act.put, List.setIfInBounds_toArray, List.set_cons_zero, List.set_cons_succ])
                          refine wpG_take _ (.int .i64 (i : Int)) rfl (by rfl) (fun X hX => by first | rfl | go_simp) ?_
                          (try simp only [Act.put, List.setIfInBounds_toArray, List.set_cons_zero, List.set_cons_succ])
                          refine wpG_take _ (.pointer (some ⟨g13, i, none⟩)) rfl (by rfl) (fun X hX => ex_ix64 rfl rfl rfl hlti) ?_
                          (try simp only [Act.put, List.setIfInBounds_toArray, List.set_cons_zero, List.set_cons_succ])
                          refine wpG_take _ (.slice (some ⟨gi, 0, none⟩) xl ci) rfl (by rfl) (fun X hX => ex_ld65 rfl rfl (hF1.out X hX).1) ?_
                          (try simp only [Act.put, List.setIfInBounds_toArray, List.set_cons_zero, List.set_cons_succ])
                          refine wpG_take _ (.int .i64 (xl : Int)) rfl (by rfl) (fun X hX => by first | rfl | go_simp) ?_
                          (try simp only [Act.put, List.setIfInBounds_toArray, List.set_cons_zero, List.set_cons_succ])
                          refine wpG_take _ (.bool true) rfl (by rfl) (fun X hX => by (subst hone; go_simp)) ?_
                          (try simp only [Act.put, List.setIfInBounds_toArray, List.set_cons_zero, List.set_cons_succ])
                          refine wpG_take _ (.bool true) rfl (by rfl) (fun X hX => by first | rfl | go_simp) ?_
                          (try simp only [Act.put, List.setIfInBounds_toArray, List.set_cons_zero, List.set_cons_succ])
                          refine wpG_take _ (.slice (some ⟨gb, 0, none⟩) 512 512) rfl (by rfl) (fun X hX => by first | rfl | go_simp) ?_
                          (try simp only [Act.put, List.setIfInBounds_toArray, List.set_cons_zero, List.set_cons_succ])
                          refine wpG_take _ (VT b) rfl (by rfl) (fun X hX => ex_cv rfl rfl HBL.out (hF1.out X hX).2.2.2) ?_
                          (try simp only [Act.put, List.setIfInBounds_toArray, List.set_cons_zero, List.set_cons_succ])
                          refine wpG_take _ (.slice (some ⟨g13, 0, none⟩) q vc) rfl (by rfl) (fun X hX => by first | rfl | go_simp) ?_
                          (try simp only [Act.put, List.setIfInBounds_toArray, List.set_cons_zero, List.set_cons_succ])
                          refine wpG_take _ (.int .i64 (i : Int)) rfl (by rfl) (fun X hX => by first | rfl | go_simp) ?_
                          (try simp only [Act.put, List.setIfInBounds_toArray, List.set_cons_zero, List.set_cons_succ])
                          refine wpG_take _ (.pointer (some ⟨g13, i, none⟩)) rfl (by rfl) (fun X hX => ex_ix64 rfl rfl rfl hlti) ?_
                          (try simp only [Act.put, List.setIfInBounds_toArray, List.set_cons_zero, List.set_cons_succ])
                          refine wpG_take _ (.slice (some ⟨gi, 0, none⟩) xl ci) rfl (by rfl) (fun X hX => ex_ld65 rfl rfl (hF1.out X hX).1) ?_
                          (try simp only [Act.put, List.setIfInBounds_toArray, List.set_cons_zero, List.set_cons_succ])
                          refine wpG_take _ (.pointer (some ⟨gi, 0, none⟩)) rfl (by rfl) (fun X hX => ex_ix65 (k := 0) rfl rfl rfl hpos) ?_
                          (try simp only [Act.put, List.setIfInBounds_toArray, List.set_cons_zero, List.set_cons_succ])
                          refine wpG_take _ (VT b) rfl (by rfl) (fun X hX => ex_ld9 rfl rfl ((hF1.out X hX).2.1 0 b (by rw [HOK.out.2.1 (by rw [HXL.out, hone]), HBE.out]; rfl))) ?_
                          (try simp only [Act.put, List.setIfInBounds_toArray, List.set_cons_zero, List.set_cons_succ])
                          refine wpG_take _ (.bool false) rfl (by rfl) (fun X hX => ex_neT rfl rfl rfl) ?_
                          (try simp only [Act.put, List.setIfInBounds_toArray, List.set_cons_zero, List.set_cons_succ])
                          refine wpG_take _ (.bool false) rfl (by rfl) (fun X hX => by first | rfl | go_simp) ?_
                          (try simp only [Act.put, List.setIfInBounds_toArray, List.set_cons_zero, List.set_cons_succ])
                          refine wpG_take _ (.bool false) rfl (by rfl) (fun X hX => by first | rfl | go_simp) ?_
                          (try simp only [Act.put, List.setIfInBounds_toArray, List.set_cons_zero, List.set_cons_succ])
                          refine wpG_nil ?_
                          go_wp2_with fail
                          go_meet
                          case rel => exact ⟨rfl, rfl⟩
                        · refine wp_region_sched (.take 0 (.take 1 (.take 2 (.take 3 (.take 4 (.take 5 (.take 6 (.take 7 (.take 8 (.take 9 (.take 10 (.take 11 (.take 12 (.take 13 (.take 14 (.take 15 (.take 16 (.take 17 (.take 18 (.take 19 (.take 20 (.take 21 (.take 22 (.take 23 (.take 24 (.take 25 (.nil))))))))))))))))))))))))))) (by kernel_rfl) (by kernel_rfl) (fun d _ _ _ _ h => by cases d <;> exact h) (fun X => Below v4.heap.size v4 X) (Below.refl _ v4).drew ?_
                          refine wpG_take _ (.bool true) rfl (by rfl) (fun X hX => by first | rfl | go_simp) ?_
                          (try simp only [Act.put, List.setIfInBounds_toArray, List.set_cons_zero, List.set_cons_succ])
                          refine wpG_take _ (.bool false) rfl (by rfl) (fun X hX => by first | rfl | go_simp) ?_
                          (try simp only [Act.put, List.setIfInBounds_toArray, List.set_cons_zero, List.set_cons_succ])
                          refine wpG_take _ (.bool false) rfl (by rfl) (fun X hX => by first | rfl | go_simp) ?_
                          (try simp only [Act.put, List.setIfInBounds_toArray, List.set_cons_zero, List.set_cons_succ])
                          refine wpG_take _ (.slice (some ⟨gb, 0, none⟩) 512 512) rfl (by rfl) (fun X hX => by first | rfl | go_simp) ?_
                          (try simp only [Act.put, List.setIfInBounds_toArray, List.set_cons_zero, List.set_cons_succ])
                          refine wpG_take _ (.int .i64 512) rfl (by rfl) (fun X hX => by first | rfl | go_simp) ?_
                          (try simp only [Act.put, List.setIfInBounds_toArray, List.set_cons_zero, List.set_cons_succ])
                          refine wpG_take _ (.bool false) rfl (by rfl) (fun X hX => by first | rfl | go_simp) ?_
                          (try simp only [Act.put, List.setIfInBounds_toArray, List.set_cons_zero, List.set_cons_succ])
                          refine wpG_take _ (.bool false) rfl (by rfl) (fun X hX => by first | rfl | go_simp) ?_
                          (try simp only [Act.put, List.setIfInBounds_toArray, List.set_cons_zero, List.set_cons_succ])
                          refine wpG_take _ (.bool false) rfl (by rfl) (fun X hX => by first | rfl | go_simp) ?_
                          (try simp only [Act.put, List.setIfInBounds_toArray, List.set_cons_zero, List.set_cons_succ])
                          refine wpG_take _ (.slice (some ⟨g13, 0, none⟩) q vc) rfl (by rfl) (fun X hX => by first | rfl | go_simp) ?_
                          (try simp only [Act.put, List.setIfInBounds_toArray, List.set_cons_zero, List.set_cons_succ])
                          refine wpG_take _ (.int .i64 (i : Int)) rfl (by rfl) (fun X hX => by first | rfl | go_simp) ?_
                          (try simp only [Act.put, List.setIfInBounds_toArray, List.set_cons_zero, List.set_cons_succ])
                          refine wpG_take _ (.pointer (some ⟨g13, i, none⟩)) rfl (by rfl) (fun X hX => ex_ix64 rfl rfl rfl hlti) ?_
                          (try simp only [Act.put, List.setIfInBounds_toArray, List.set_cons_zero, List.set_cons_succ])
                          refine wpG_take _ (.slice (some ⟨gi, 0, none⟩) xl ci) rfl (by rfl) (fun X hX => ex_ld65 rfl rfl (hF1.out X hX).1) ?_
                          (try simp only [Act.put, List.setIfInBounds_toArray, List.set_cons_zero, List.set_cons_succ])
                          refine wpG_take _ (.int .i64 (xl : Int)) rfl (by rfl) (fun X hX => by first | rfl | go_simp) ?_
                          (try simp only [Act.put, List.setIfInBounds_toArray, List.set_cons_zero, List.set_cons_succ])
                          refine wpG_take _ (.bool false) rfl (by rfl) (fun X hX => by (have hne : ((xl : Int) == 1) = false := (by simp; omega); go_simp)) ?_
                          (try simp only [Act.put, List.setIfInBounds_toArray, List.set_cons_zero, List.set_cons_succ])
                          refine wpG_take _ (.bool false) rfl (by rfl) (fun X hX => by first | rfl | go_simp) ?_
                          (try simp only [Act.put, List.setIfInBounds_toArray, List.set_cons_zero, List.set_cons_succ])
                          refine wpG_pass _ rfl (by rfl) ?_
                          (try simp only [Act.put, List.setIfInBounds_toArray, List.set_cons_zero, List.set_cons_succ])
                          refine wpG_pass _ rfl (by rfl) ?_
                          (try simp only [Act.put, List.setIfInBounds_toArray, List.set_cons_zero, List.set_cons_succ])
                          refine wpG_pass _ rfl (by rfl) ?_
                          (try simp only [Act.put, List.setIfInBounds_toArray, List.set_cons_zero, List.set_cons_succ])
                          refine wpG_pass _ rfl (by rfl) ?_
                          (try simp only [Act.put, List.setIfInBounds_toArray, List.set_cons_zero, List.set_cons_succ])
                          refine wpG_pass _ rfl (by rfl) ?_
                          (try simp only [Act.put, List.setIfInBounds_toArray, List.set_cons_zero, List.set_cons_succ])
                          refine wpG_pass _ rfl (by rfl) ?_
                          (try simp only [Act.put, List.setIfInBounds_toArray, List.set_cons_zero, List.set_cons_succ])
                          refine wpG_pass _ rfl (by rfl) ?_
                          (try simp only [Act.put, List.setIfInBounds_toArray, List.set_cons_zero, List.set_cons_succ])
                          refine wpG_pass _ rfl (by rfl) ?_
                          (try simp only [Act.put, List.setIfInBounds_toArray, List.set_cons_zero, List.set_cons_succ])
                          refine wpG_pass _ rfl (by rfl) ?_
                          (try simp only [Act.put, List.setIfInBounds_toArray, List.set_cons_zero, List.set_cons_succ])
                          refine wpG_take _ (.bool false) rfl (by rfl) (fun X hX => by first | rfl | go_simp) ?_
                          (try simp only [Act.put, List.setIfInBounds_toArray, List.set_cons_zero, List.set_cons_succ])
                          refine wpG_take _ (.bool false) rfl (by rfl) (fun X hX => by first | rfl | go_simp) ?_
                          (try simp only [Act.put, List.setIfInBounds_toArray, List.set_cons_zero, List.set_cons_succ])
                          refine wpG_nil ?_
                          go_wp2_with fail
                          go_meet
                          case rel => exact ⟨rfl, rfl⟩
                      case rest =>
                        obtain ⟨rfl, rfl⟩ := hcut
                        go_wp2_with fail
                        have HR6 := Lib.hid (show ∃ k : Nat, k ≤ 512 ∧ (Value.int .i64 0) = .int .i64 (k : Int) ∧ Below v4.heap.size v4 v4.drew from ⟨0, by omega, rfl, (Below.refl _ v4).drew⟩)
                        go_loopw [26] (fun i wr => ∃ k : Nat, k ≤ 512 ∧ i = .int .i64 (k : Int) ∧ Below v4.heap.size v4 wr) (fun i _ => 512 - (intOf i).toNat)
                        case atStart => exact HR6.out
                        case round =>
                          clear HR6
                          obtain ⟨kk, hkk, rfl, hbk⟩ := hrel
                          have HBK := Lib.hid hbk
                          clear hbk
                          have wkk1 := IntWalk.i64_in ((kk : Int) + 1) (by omega)
                          by_cases hltk : kk < 512
                          · have HR7 := Lib.hid (show ∃ j : Nat, j ≤ xl ∧ (Value.int .i64 0) = .int .i64 (j : Int) ∧ (Value.bool false) = .bool ((x.take j).any (fun y => hit b y kk)) ∧ Below v4.heap.size v4 wr from ⟨0, by omega, rfl, by simp, HBK.out⟩)
                            clear HBK
                            go_wp2_with fail
                            go_loopw [27, 28] (fun t jj wr => ∃ j : Nat, j ≤ xl ∧ jj = .int .i64 (j : Int) ∧ t = .bool ((x.take j).any (fun y => hit b y kk)) ∧ Below v4.heap.size v4 wr) (fun _ jj _ => xl - (intOf jj).toNat)
                            case atStart => exact HR7.out
                            case round =>
                              clear HR7
                              obtain ⟨j, hj, rfl, rfl, hbj⟩ := hrel
                              have HBJ := Lib.hid hbj
                              have cz := (hF1.out wr hbj).1
                              clear hbj
                              by_cases hltj : j < xl
                              · have wj1 := IntWalk.i64_in ((j : Int) + 1) (by omega)
                                obtain ⟨y, hy⟩ : ∃ y, x[j]? = some y := ⟨_, List.getElem?_eq_getElem (by have := HXL.out; omega)⟩
                                have hstep : (x.take (j + 1)).any (fun y => hit b y kk) = ((x.take j).any (fun y => hit b y kk) || hit b y kk) := by
                                  obtain ⟨h2, h3⟩ := List.getElem?_eq_some_iff.1 hy
                                  rw [List.take_succ_eq_append_getElem h2, h3, List.any_append]
                                  simp
                                have HST := Lib.hid hstep
                                have HYY := Lib.hid hy
                                have hy512 : y.length = 512 := HOK.out.1 y (List.mem_of_getElem? hy)
                                have HY512 := Lib.hid hy512
                                clear hstep hy hy512
                                obtain ⟨inn, hinn⟩ : ∃ inn, (x.take j).any (fun y => hit b y kk) = inn := ⟨_, rfl⟩
                                have HIN := Lib.hid hinn
                                rw [hinn]
                                clear hinn
                                cases inn
                                · go_wp2_with fail
                                  refine wp_region_sched (.take 0 (.take 1 (.take 2 (.take 3 (.take 4 (.take 5 (.take 6 (.take 7 (.take 8 (.take 9 (.take 10 (.take 11 (.take 12 (.take 13 (.take 14 (.take 15 (.take 16 (.take 17 (.nil))))))))))))))))))) (by kernel_rfl) (by kernel_rfl) (fun d _ _ _ _ h => by cases d <;> exact h) (fun X => Below v4.heap.size v4 X) HBJ.out.drew ?_
                                  refine wpG_take _ (.bool false) rfl (by rfl) (fun X hX => by first | rfl | go_simp) ?_
                                  (try simp only [Act.put, List.setIfInBounds_toArray, List.set_cons_zero, List.set_cons_succ])
                                  refine wpG_take _ (.bool false) rfl (by rfl) (fun X hX => by first | rfl | go_simp) ?_
                                  (try simp only [Act.put, List.setIfInBounds_toArray, List.set_cons_zero, List.set_cons_succ])
                                  refine wpG_take _ (.slice (some ⟨g13, 0, none⟩) q vc) rfl (by rfl) (fun X hX => by first | rfl | go_simp) ?_
                                  (try simp only [Act.put, List.setIfInBounds_toArray, List.set_cons_zero, List.set_cons_succ])
                                  refine wpG_take _ (.int .i64 (i : Int)) rfl (by rfl) (fun X hX => by first | rfl | go_simp) ?_
                                  (try simp only [Act.put, List.setIfInBounds_toArray, List.set_cons_zero, List.set_cons_succ])
                                  refine wpG_take _ (.pointer (some ⟨g13, i, none⟩)) rfl (by rfl) (fun X hX => ex_ix64 rfl rfl rfl hlti) ?_
                                  (try simp only [Act.put, List.setIfInBounds_toArray, List.set_cons_zero, List.set_cons_succ])
                                  refine wpG_take _ (.slice (some ⟨gi, 0, none⟩) xl ci) rfl (by rfl) (fun X hX => ex_ld65 rfl rfl (hF1.out X hX).1) ?_
                                  (try simp only [Act.put, List.setIfInBounds_toArray, List.set_cons_zero, List.set_cons_succ])
                                  refine wpG_take _ (.int .i64 (j : Int)) rfl (by rfl) (fun X hX => by first | rfl | go_simp) ?_
                                  (try simp only [Act.put, List.setIfInBounds_toArray, List.set_cons_zero, List.set_cons_succ])
                                  refine wpG_take _ (.pointer (some ⟨gi, j, none⟩)) rfl (by rfl) (fun X hX => ex_ix65 rfl rfl rfl hltj) ?_
                                  (try simp only [Act.put, List.setIfInBounds_toArray, List.set_cons_zero, List.set_cons_succ])
                                  refine wpG_take _ (VT y) rfl (by rfl) (fun X hX => ex_ld9 rfl rfl ((hF1.out X hX).2.1 j y HYY.out)) ?_
                                  (try simp only [Act.put, List.setIfInBounds_toArray, List.set_cons_zero, List.set_cons_succ])
                                  refine wpG_take _ (.int .i64 (kk : Int)) rfl (by rfl) (fun X hX => by first | rfl | go_simp) ?_
                                  (try simp only [Act.put, List.setIfInBounds_toArray, List.set_cons_zero, List.set_cons_succ])
                                  refine wpG_take _ (V8 (y.getD kk 0)) rfl (by rfl) (fun X hX => ex_index9 rfl rfl rfl (by rw [HY512.out]; exact hltk)) ?_
                                  (try simp only [Act.put, List.setIfInBounds_toArray, List.set_cons_zero, List.set_cons_succ])
                                  refine wpG_take _ (.slice (some ⟨gb, 0, none⟩) 512 512) rfl (by rfl) (fun X hX => by first | rfl | go_simp) ?_
                                  (try simp only [Act.put, List.setIfInBounds_toArray, List.set_cons_zero, List.set_cons_succ])
                                  refine wpG_take _ (.int .i64 (kk : Int)) rfl (by rfl) (fun X hX => by first | rfl | go_simp) ?_
                                  (try simp only [Act.put, List.setIfInBounds_toArray, List.set_cons_zero, List.set_cons_succ])
                                  refine wpG_take _ (.pointer (some ⟨gb, kk, none⟩)) rfl (by rfl) (fun X hX => ex_ix42 rfl rfl rfl hltk) ?_
                                  (try simp only [Act.put, List.setIfInBounds_toArray, List.set_cons_zero, List.set_cons_succ])
                                  refine wpG_take _ (V8 (b.getD kk 0)) rfl (by rfl) (fun X hX => ex_ld5 rfl rfl ((hF1.out X hX).2.2.1 kk hltk)) ?_
                                  (try simp only [Act.put, List.setIfInBounds_toArray, List.set_cons_zero, List.set_cons_succ])
                                  refine wpG_take _ (.bool (hit b y kk)) rfl (by rfl) (fun X hX => ex_eq8 rfl rfl rfl) ?_
                                  (try simp only [Act.put, List.setIfInBounds_toArray, List.set_cons_zero, List.set_cons_succ])
                                  refine wpG_take _ (.bool (hit b y kk)) rfl (by rfl) (fun X hX => by first | rfl | go_simp) ?_
                                  (try simp only [Act.put, List.setIfInBounds_toArray, List.set_cons_zero, List.set_cons_succ])
                                  refine wpG_take _ (.bool (hit b y kk)) rfl (by rfl) (fun X hX => by first | rfl | go_simp) ?_
                                  (try simp only [Act.put, List.setIfInBounds_toArray, List.set_cons_zero, List.set_cons_succ])
                                  refine wpG_nil ?_
                                  go_wp2_with fail
                                  go_roundw
                                  case rel => exact ⟨j + 1, by omega, by go_num, by rw [HST.out, HIN.out]; simp, HBJ.out.drew⟩
                                  case measure => simp [intOf]; omega
                                · go_wp2_with fail
                                  refine wp_region_sched (.take 0 (.take 1 (.take 2 (.take 3 (.take 4 (.take 5 (.take 6 (.take 7 (.take 8 (.take 9 (.take 10 (.take 11 (.take 12 (.take 13 (.take 14 (.take 15 (.take 16 (.take 17 (.nil))))))))))))))))))) (by kernel_rfl) (by kernel_rfl) (fun d _ _ _ _ h => by cases d <;> exact h) (fun X => Below v4.heap.size v4 X) HBJ.out.drew ?_
                                  refine wpG_take _ (.bool true) rfl (by rfl) (fun X hX => by first | rfl | go_simp) ?_
                                  (try simp only [Act.put, List.setIfInBounds_toArray, List.set_cons_zero, List.set_cons_succ])
                                  refine wpG_take _ (.bool true) rfl (by rfl) (fun X hX => by first | rfl | go_simp) ?_
                                  (try simp only [Act.put, List.setIfInBounds_toArray, List.set_cons_zero, List.set_cons_succ])
                                  refine wpG_pass _ rfl (by rfl) ?_
                                  (try simp only [Act.put, List.setIfInBounds_toArray, List.set_cons_zero, List.set_cons_succ])
                                  refine wpG_pass _ rfl (by rfl) ?_
                                  (try simp only [Act.put, List.setIfInBounds_toArray, List.set_cons_zero, List.set_cons_succ])
                                  refine wpG_pass _ rfl (by rfl) ?_
                                  (try simp only [Act.put, List.setIfInBounds_toArray, List.set_cons_zero, List.set_cons_succ])
                                  refine wpG_pass _ rfl (by rfl) ?_
                                  (try simp only [Act.put, List.setIfInBounds_toArray, List.set_cons_zero, List.set_cons_succ])
                                  refine wpG_pass _ rfl (by rfl) ?_
                                  (try simp only [Act.put, List.setIfInBounds_toArray, List.set_cons_zero, List.set_cons_succ])
                                  refine wpG_pass _ rfl (by rfl) ?_
                                  (try simp only [Act.put, List.setIfInBounds_toArray, List.set_cons_zero, List.set_cons_succ])
                                  refine wpG_pass _ rfl (by rfl) ?_
                                  (try simp only [Act.put, List.setIfInBounds_toArray, List.set_cons_zero, List.set_cons_succ])
                                  refine wpG_pass _ rfl (by rfl) ?_
                                  (try simp only [Act.put, List.setIfInBounds_toArray, List.set_cons_zero, List.set_cons_succ])
                                  refine wpG_pass _ rfl (by rfl) ?_
                                  (try simp only [Act.put, List.setIfInBounds_toArray, List.set_cons_zero, List.set_cons_succ])
                                  refine wpG_pass _ rfl (by rfl) ?_
                                  (try simp only [Act.put, List.setIfInBounds_toArray, List.set_cons_zero, List.set_cons_succ])
                                  refine wpG_pass _ rfl (by rfl) ?_
                                  (try simp only [Act.put, List.setIfInBounds_toArray, List.set_cons_zero, List.set_cons_succ])
                                  refine wpG_pass _ rfl (by rfl) ?_
                                  (try simp only [Act.put, List.setIfInBounds_toArray, List.set_cons_zero, List.set_cons_succ])
                                  refine wpG_pass _ rfl (by rfl) ?_
                                  (try simp only [Act.put, List.setIfInBounds_toArray, List.set_cons_zero, List.set_cons_succ])
                                  refine wpG_pass _ rfl (by rfl) ?_
                                  (try simp only [Act.put, List.setIfInBounds_toArray, List.set_cons_zero, List.set_cons_succ])
                                  refine wpG_take _ (.bool true) rfl (by rfl) (fun X hX => by first | rfl | go_simp) ?_
                                  (try simp only [Act.put, List.setIfInBounds_toArray, List.set_cons_zero, List.set_cons_succ])
                                  refine wpG_take _ (.bool true) rfl (by rfl) (fun X hX => by first | rfl | go_simp) ?_
                                  (try simp only [Act.put, List.setIfInBounds_toArray, List.set_cons_zero, List.set_cons_succ])
                                  refine wpG_nil ?_
                                  go_wp2_with fail
                                  go_roundw
                                  case rel => exact ⟨j + 1, by omega, by go_num, by rw [HST.out, HIN.out]; simp, HBJ.out.drew⟩
                                  case measure => simp [intOf]; omega
                              · obtain rfl : j = xl := by omega
                                have hall : (x.take j).any (fun y => hit b y kk) = true := by
                                  have h9 := HOK.out.2.2 kk hltk
                                  rw [HBE.out] at h9
                                  rw [List.take_of_length_le (by rw [HXL.out]; exact Nat.le_refl _)]
                                  exact h9
                                rw [hall]
                                clear hall hltj
                                go_wp2_with fail
                                go_roundw
                                case rel => exact ⟨kk + 1, by omega, by go_num, HBJ.out⟩
                                case measure => simp [intOf]; omega
                          · obtain rfl : kk = 512 := by omega
                            have hcvb : (convert 42 9 (.slice (some ⟨gb, 0, none⟩) 512 512)).run Try.prog wr = .ok (.string (bstr b)) wr := by
                              have := conv_str (cap := 512) ((hF1.out wr HBK.out).2.2.2)
                              rw [HBL.out] at this
                              exact this
                            obtain ⟨⟨uu, huu⟩, hfr, ⟨us', hput⟩, hchr⟩ := row_one (HY4.out.grown HBK.out) HML.out.symm hlti (fun k hk => (HL4.out.grown HBK.out).fw k hk) b
                            have HUU := Lib.hid huu
                            have HFR := Lib.hid hfr
                            have hmo3 : MaysOK m2 (ms.set i [b]) := by rw [← HBE.out]; exact HMO.out.set HM2.out i
                            have HN := Lib.hid (show L5Rel W D Q q S m2 (.slice (some ⟨g13, 0, none⟩) q vc) q (.int .i64 ((i + 1 : Nat) : Int)) ((wr.alloc (.cells #[VT b] 9)).setCell ⟨g13, i, none⟩ (.slice (some ⟨wr.heap.size, 0, none⟩) 1 1)) from ⟨i + 1, by omega, rfl, (HL4.out.grown HBK.out).law hchr (fun k hk => hk), _, us', hput, by rw [List.length_set]; exact HML.out, hmo3⟩)
                            clear huu hfr hput hchr hmo3 HL4 HY4 HBK hltk hkk
                            go_wp2_with (first | (refine wpL_skip rfl (ex_st65 rfl rfl rfl HUU.out HFR.out) ?_; simp only [Act.put, List.setIfInBounds_toArray, List.set_cons_zero, List.set_cons_succ]) | fail)
                            go_roundw
                            case rel => exact HN.out
                            case measure => simp [intOf]; omega
                    · obtain rfl : i = q := by omega
                      clear hlti hi
                      go_wp2_with fail
                      refine (flush_any D Q S (pdn i m2 []) p0 wr HL.out.dk HL.out.pw (by simp [pdn])).mono ?_
                      intro e v5 h
                      unfold Did at h
                      rw [pdn_flushed] at h
                      obtain ⟨rfl, hd, hp, hc⟩ := h
                      have hL5 : Lw W.heap.size W v5 D Q S (pdn i m2 []) p0 := HL.out.stay hd hp hc
                      have hY5 := HY.out.next (hc.mono (fun k h => (.inl h : Fw W S Q k))) (fun _ h => .inl h) (F' := Fw W S Q)
                      have HL5 := Lib.hid hL5
                      have HY5 := Lib.hid hY5
                      clear hd hp hc hL5 hY5 HL HY
                      go_wp2_with fail
                      refine (crash_any2 D Q S (pdn i m2 []) zs spz nz cz v5 HL5.out.dk (by simp [pdn]) (HAZ.out.below HL5.out.bel (Nat.le_refl _)) HZ.out kz HMZ.out HSPZ.out).mono ?_
                      rintro e v6 ⟨rfl, hd, hc⟩
                      rw [pdn_crashed] at hd
                      have hL6 : Lw W.heap.size W v6 D Q S (pdn i m2 []) p0 := HL5.out.stay hd (HL5.out.pw.chg hc HL5.out.dk.nq) (hc.mono (fun _ h => .inl h))
                      have hY6 := HY5.out.next (hc.mono (fun k h => (.inl (.inl h) : Fw W S Q k))) (fun _ h => .inl h) (F' := Fw W S Q)
                      have HN := Lib.hid (show L5Rel W D Q i S m2 (.slice (some ⟨g13, 0, none⟩) i vc) 2 (.int .i64 ((t + 1 : Nat) : Int)) v6 from ⟨t + 1, by omega, rfl, hL6, ms, us, hY6, HML.out, HMO.out⟩)
                      clear hd hc hL6 hY6 HL5 HY5
                      go_wp2_with fail
                      go_roundw
                      case rel => exact HN.out
                      case measure => simp [intOf]; omega
                · obtain rfl : t = 2 := by omega
                  have HLF := Lib.hid hL
                  clear hL hMay hlt ht
                  go_wp2_with fail
                  refine (wakes_any wr).mono ?_
                  rintro e v9 ⟨rfl, hb⟩
                  have HZZ := Lib.hid (HLF.out.bel.trans (hb.mono HLF.out.bel.size))
                  clear hb
                  go_wp2_with fail
                  go_ret
                  exact ⟨rfl, HZZ.out⟩
end Go.Proofs.Ytneemllgimeacaa
