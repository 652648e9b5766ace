/- The document's lists without an address; its power. -/
import Derived.Test.YtneemllgimeacaaRa
namespace Go.Proofs.Ytneemllgimeacaa
open Go.RowKit

theorem ex_app38 {ρ : Operand → Value} {o : Oper} {x y : Operand} {v u v' : Value} {w w' : World} (ho : o.op = .call { callee := .builtin .append, args := #[x, y], argTypes := #[38, 38] }) (hx : ρ x = v) (hy : ρ y = u)
    (hr : (Builtin.append_ #[38, 38] o.type #[v, u]).run Try.prog w = .ok v' w') : (execOp ρ o).run Try.prog w = .ok (.value v') w' := by
  unfold execOp
  simp only [ho, resolve, invoke, builtin, Sem.run_bind, Sem.run_pure, Result.andThen_ok, List.map_toArray, List.map_cons, List.map_nil, hx, hy, hr]
theorem ex_app37 {ρ : Operand → Value} {o : Oper} {x y : Operand} {v u v' : Value} {w w' : World} (ho : o.op = .call { callee := .builtin .append, args := #[x, y], argTypes := #[37, 37] }) (hx : ρ x = v) (hy : ρ y = u)
    (hr : (Builtin.append_ #[37, 37] o.type #[v, u]).run Try.prog w = .ok v' w') : (execOp ρ o).run Try.prog w = .ok (.value v') w' := by
  unfold execOp
  simp only [ho, resolve, invoke, builtin, Sem.run_bind, Sem.run_pure, Result.andThen_ok, List.map_toArray, List.map_cons, List.map_nil, hx, hy, hr]
theorem wpL_ok {ops : Array Oper} {rest : List Oper} {o : Oper} {a : Act} {Q : Exit → Act → World → Prop} {w w' : World} {v : Value} (hg : o.guard = none) (hrun : (execOp a.eval o).run Try.prog w = .ok (.value v) w')
    (hK : wpList Try.prog ops Q rest (a.put o.dst v) w') : wpList Try.prog ops Q (o :: rest) a w := by
  refine wpList_plain hg fun K' hK' => ?_
  unfold Oper.wp
  rw [hrun]
  exact hK' _ _ hK
def woN (l : List Nat) (a : Nat) : List Nat := l.filter (fun x => x != a)
theorem woN_snoc (l : List Nat) (x a : Nat) : woN (l ++ [x]) a = if x = a then woN l a else woN l a ++ [x] := by
  unfold woN
  rw [List.filter_append]
  by_cases h : x = a
  · rw [if_pos h]; simp [h]
  · rw [if_neg h]; simp [h]
def NRel (l : List Nat) (a : Nat) (w : World) (N : Nat) (s i : Value) (wr : World) : Prop := ∃ k : Nat, k ≤ N ∧ i = .int .i64 (k : Int) ∧ OwnN wr w.heap.size s (woN (l.take k) a) ∧ Below w.heap.size w wr
def PRel (l : List (Nat × Bs)) (a : Nat) (w : World) (N : Nat) (s i : Value) (wr : World) : Prop := ∃ k : Nat, k ≤ N ∧ i = .int .i64 (k : Int) ∧ OwnP wr w.heap.size s (others (l.take k) a) ∧ Below w.heap.size w wr
theorem own_slice {w : World} {B e k n : Nat} {v : Value} {xs : List Value} (h : w.ownsRow B e k v n xs) : ∃ sp c, v = .slice sp n c := by
  rcases h.2 with ⟨rfl, h0⟩ | ⟨_, c, _, rfl, _⟩
  · exact ⟨none, 0, by rw [h0]⟩
  · exact ⟨_, c, rfl⟩
set_option maxRecDepth 100000 in
set_option maxHeartbeats 1000000 in
theorem rwithout_any (l : List Nat) (v : Value) (a : Nat) (_ : a < 65536) (hl : l.length < 1000000) (w : World) (h : NsAt w v l) : Calls Try.prog 57 #[v, .int .u16 (a : Int)] w fun e w' => ∃ v', e = .returned v' ∧ OwnN w' w.heap.size v' (woN l a) ∧ Below w.heap.size w w' := by
  have HNS := Lib.hid h
  obtain ⟨sp, cap, rfl, h1, h2, h3⟩ := h
  obtain ⟨N, hN⟩ : ∃ N, l.length = N := ⟨_, rfl⟩
  have HN := Lib.hid hN
  rw [hN] at h1 hl HNS ⊢
  clear h3 hN
  go_enter Try.func57, Try.ntmps57
  go_wp2_with fail
  have HR := Lib.hid (show NRel l a w N (.slice none 0 0) (.int .i64 0) w from ⟨0, Nat.zero_le _, rfl, World.ownsRow_nil _ _ _ _, Below.refl _ _⟩)
  go_loopw [5, 6] (fun s i wr => NRel l a w N s i wr) (fun _ i _ => N - (intOf i).toNat)
  case atStart => exact HR.out
  case round =>
    clear HR
    obtain ⟨k, hk, rfl, hown, hb⟩ := hrel
    obtain ⟨sp2, c2, rfl⟩ := own_slice hown
    have HO := Lib.hid hown
    have HB := Lib.hid hb
    have hns := HNS.out.grown hb
    obtain ⟨sp', cap', e', _, _, h3⟩ := hns
    clear hown hb
    have hwk := IntWalk.i64_in ((k : Int) + 1) (by omega)
    by_cases hlt : k < N
    · obtain ⟨x, hx⟩ : ∃ x, l[k]? = some x := ⟨_, List.getElem?_eq_getElem (by have := HN.out; omega)⟩
      obtain ⟨g, rfl, hg, hcl⟩ := h3 (by have := HN.out; omega)
      have hc := hcl k x hx
      injection e' with q1 q2 q3
      subst q1
      clear q2 q3
      have HX := Lib.hid hx
      clear hcl hx hg
      by_cases hxa : x = a
      · have ht : ((x : Int) != (a : Int)) = false := by rw [hxa]; simp
        have HXA := Lib.hid hxa
        clear hxa
        go_wp2_with fail
        go_roundw
        case rel => exact ⟨k + 1, by omega, by go_num, by rw [take_one HX.out, woN_snoc, if_pos HXA.out]; exact HO.out, HB.out⟩
        case measure => simp [intOf]; omega
      · have ht : ((x : Int) != (a : Int)) = true := by simp; omega
        have HXA := Lib.hid hxa
        clear hxa
        have hlw : (woN (l.take k) a).length < 1000000 := by
          have q1 := List.length_filter_le (fun x => x != a) (l.take k)
          unfold woN
          simp at q1
          have := HN.out
          omega
        obtain ⟨v', w', hr, ho', hgr, _⟩ := ownN_app (HO.out.alloc (.cells #[Value.int .u16 (x : Int)] 41)) (by have := HB.out.size; simp; omega) hlw x (adr := ⟨wr.heap.size, 0, none⟩) (c := 1) (cell_one_new wr _ 41) 38
        have HN2 : Hid (NRel l a w N v' (.int .i64 ((k + 1 : Nat) : Int)) w') := Lib.hid ⟨k + 1, by omega, rfl, by rw [take_one HX.out, woN_snoc, if_neg HXA.out]; exact ho', (HB.out.alloc HB.out.size _).grown hgr (by have := HB.out.size; simp; omega) (fun j hj => (HO.out.lt j hj).1)⟩
        have HRR := Lib.hid hr
        clear ho' hgr hr
        go_wp2_with (first | (at_builtin; refine wpL_ok rfl (ex_app38 rfl rfl rfl HRR.out) ?_) | fail)
        go_roundw
        case rel => exact HN2.out
        case measure => simp [intOf]; omega
    · clear e' h3
      obtain rfl : k = N := by omega
      clear hlt hk
      go_wp2_with fail
      go_ret
      have eN : woN (l.take k) a = woN l a := by rw [List.take_of_length_le (by rw [HN.out]; exact Nat.le_refl _)]
      rw [← eN]
      exact ⟨_, rfl, HO.out, HB.out⟩
set_option maxRecDepth 100000 in
set_option maxHeartbeats 1000000 in
theorem rdrop_any (l : List (Nat × Bs)) (v : Value) (a : Nat) (_ : a < 65536) (hl : l.length < 1000000) (w : World) (h : PsAt w v l) : Calls Try.prog 56 #[v, .int .u16 (a : Int)] w fun e w' => ∃ v', e = .returned v' ∧ OwnP w' w.heap.size v' (others l a) ∧ Below w.heap.size w w' := by
  have HNS := Lib.hid h
  obtain ⟨sp, cap, rfl, h1, h2, h3⟩ := h
  obtain ⟨N, hN⟩ : ∃ N, l.length = N := ⟨_, rfl⟩
  have HN := Lib.hid hN
  rw [hN] at h1 hl HNS ⊢
  clear h3 hN
  go_enter Try.func56, Try.ntmps56
  go_wp2_with fail
  have HR := Lib.hid (show PRel l a w N (.slice none 0 0) (.int .i64 0) w from ⟨0, Nat.zero_le _, rfl, World.ownsRow_nil _ _ _ _, Below.refl _ _⟩)
  go_loopw [5, 6] (fun s i wr => PRel l a w N s i wr) (fun _ i _ => N - (intOf i).toNat)
  case atStart => exact HR.out
  case round =>
    clear HR
    obtain ⟨k, hk, rfl, hown, hb⟩ := hrel
    obtain ⟨sp2, c2, rfl⟩ := own_slice hown
    have HO := Lib.hid hown
    have HB := Lib.hid hb
    have hns := HNS.out.grown hb
    obtain ⟨sp', cap', e', _, _, h3⟩ := hns
    clear hown hb
    have hwk := IntWalk.i64_in ((k : Int) + 1) (by omega)
    by_cases hlt : k < N
    · obtain ⟨x, hx⟩ : ∃ x, l[k]? = some x := ⟨_, List.getElem?_eq_getElem (by have := HN.out; omega)⟩
      obtain ⟨g, rfl, hg, hcl⟩ := h3 (by have := HN.out; omega)
      obtain ⟨c0, c1⟩ := hcl k x hx
      injection e' with q1 q2 q3
      subst q1
      clear q2 q3
      have HX := Lib.hid hx
      clear hcl hx hg
      by_cases hxa : x.1 = a
      · have ht : ((x.1 : Int) != (a : Int)) = false := by rw [hxa]; simp
        have HXA := Lib.hid hxa
        clear hxa
        go_wp2_with fail
        go_roundw
        case rel => exact ⟨k + 1, by omega, by go_num, by rw [take_one HX.out, others_snoc, if_pos HXA.out]; exact HO.out, HB.out⟩
        case measure => simp [intOf]; omega
      · have ht : ((x.1 : Int) != (a : Int)) = true := by simp; omega
        have HXA := Lib.hid hxa
        clear hxa
        have hlw : (others (l.take k) a).length < 1000000 := by
          have q1 := List.length_filter_le (fun x : Nat × Bs => x.1 != a) (l.take k)
          unfold others
          simp at q1
          have := HN.out
          omega
        obtain ⟨v', w', hr, ho', hgr, _⟩ := ownP_app (HO.out.alloc (.cells (pcells x).toArray 92)) (by have := HB.out.size; simp; omega) hlw x (adr := ⟨wr.heap.size, 0, none⟩) (c := 1) (fun j u hj => by rw [Addr.add_mid, Nat.zero_add]; exact (Blk.new wr (pcells x) 92).cell hj) 37
        have HN2 : Hid (PRel l a w N v' (.int .i64 ((k + 1 : Nat) : Int)) w') := Lib.hid ⟨k + 1, by omega, rfl, by rw [take_one HX.out, others_snoc, if_neg HXA.out]; exact ho', (HB.out.alloc HB.out.size _).grown hgr (by have := HB.out.size; simp; omega) (fun j hj => (HO.out.lt j hj).1)⟩
        have HRR := Lib.hid hr
        clear ho' hgr hr
        go_wp2_with (first | (at_builtin; refine wpL_ok rfl (ex_app37 rfl rfl rfl HRR.out) ?_) | fail)
        go_roundw
        case rel => exact HN2.out
        case measure => simp [intOf]; omega
    · clear e' h3
      obtain rfl : k = N := by omega
      clear hlt hk
      go_wp2_with fail
      go_ret
      have eN : others (l.take k) a = others l a := by rw [List.take_of_length_le (by rw [HN.out]; exact Nat.le_refl _)]
      rw [← eN]
      exact ⟨_, rfl, HO.out, HB.out⟩
/-- The document's power. -/
structure RpAt (w : World) (q : Nat) (p : Pw) : Prop where
  blk : Blk w q [.bool (!p.on), .int .i64 p.fuse] 29
  lo : -1 ≤ p.fuse
  hi : p.fuse ≤ 9223372036854775807
theorem RpAt.chg {F : Nat → Prop} {w w' : World} {q : Nat} {p : Pw} (h : RpAt w q p) (hc : Chg F w w') (hn : ¬ F q) : RpAt w' q p := ⟨h.blk.chg hc hn, h.lo, h.hi⟩
theorem rstep_any (q : Nat) (p : Pw) (w : World) (h : RpAt w q p) : Calls Try.prog 42 #[.pointer (some ⟨q, 0, none⟩)] w fun e w' => e = .returned (.bool p.step.1) ∧ RpAt w' q p.step.2 ∧ Chg (fun k => k = q) w w' := by
  have H := Lib.hid h
  have c0 : w.cell? ⟨q, 0, none⟩ = some (.bool (!p.on)) := h.blk.cell rfl
  have c1 : w.cell? ⟨q, 1, none⟩ = some (.int .i64 p.fuse) := h.blk.cell rfl
  have f0 := h.blk.free 0
  have f1 := h.blk.free 1
  have hlo := h.lo
  have hhi := h.hi
  clear h
  obtain ⟨on, fu⟩ := p
  simp only at c0 c1 hlo hhi
  unfold Pw.step
  simp only
  cases on
  · rw [if_pos rfl]
    simp only [Bool.not_false] at c0
    go_enter Try.func42, Try.ntmps42
    go_wp2_with fail
    go_ret
    exact ⟨rfl, H.out, Chg.refl _ _⟩
  · rw [if_neg (by simp)]
    simp only [Bool.not_true] at c0
    by_cases h0 : fu = 0
    · rw [if_pos h0]
      subst h0
      go_enter Try.func42, Try.ntmps42
      go_wp2_with fail
      go_ret
      exact ⟨rfl, ⟨(H.out.blk.set 0 _).set 1 _, by simp, by simp⟩, (chgQ q 0 _).trans' (chgQ q 1 _)⟩
    · rw [if_neg h0]
      by_cases h1 : 0 < fu
      · rw [if_pos h1]
        have hw := IntWalk.i64_in (fu - 1) (by omega)
        go_enter Try.func42, Try.ntmps42
        go_wp2_with fail
        go_ret
        exact ⟨rfl, ⟨H.out.blk.set 1 _, by simp; omega, by simp; omega⟩, chgQ q 1 _⟩
      · rw [if_neg h1]
        go_enter Try.func42, Try.ntmps42
        go_wp2_with fail
        go_ret
        exact ⟨rfl, H.out, Chg.refl _ _⟩
end Go.Proofs.Ytneemllgimeacaa
