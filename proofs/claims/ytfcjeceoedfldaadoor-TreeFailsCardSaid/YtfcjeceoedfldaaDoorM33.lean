/- Acts that came in; Great. -/
import Derived.Test.YtfcjeceoedfldaaDoorM32
namespace Go.Proofs.YtfcjeceoedfldaaDoor
open Go.ChangeShapes Go.WideShapes Go.ChangeAt Go.WideMaps Go.WideElems Go.RowKit Go.Deep

attribute [local go_sem] Oper.semAt_some

structure AcT where
  b : List (BitVec 8)
  sp : Option Addr
  cap : Nat
  H : Int
  sm : Bool
instance : Inhabited AcT := ⟨⟨[], none, 0, 0, false⟩⟩
def tacells (a : AcT) : List Value := [.slice a.sp a.b.length a.cap, .int .u64 a.H, .bool a.sm]
def AcOKT (w : World) (a : AcT) : Prop := SrcA w a.sp a.b ∧ a.b.length ≤ a.cap
/-- The acts l lie where the slice begins. -/
def ActsT (w : World) (sp : Option Addr) (l : List AcT) : Prop :=
  (∀ a ∈ l, AcOKT w a) ∧ (0 < l.length → ∃ g o, sp = some ⟨g, o, none⟩ ∧ g < w.heap.size ∧ ∀ i a, l[i]? = some a → w.rangeAt g (o + i * 3) (tacells a))
theorem srcA_grown {w W : World} {sp : Option Addr} {b : List (BitVec 8)} (h : SrcA w sp b) (hb : Below w.heap.size w W) : SrcA W sp b := h.below (B := w.heap.size) ⟨hb.os, hb.tape, hb.output, hb.size, hb.block⟩ (Nat.le_refl _)
theorem ActsT.grown {w W : World} {sp : Option Addr} {l : List AcT} (h : ActsT w sp l) (hb : Below w.heap.size w W) : ActsT W sp l :=
  ⟨fun a ha => ⟨srcA_grown (h.1 a ha).1 hb, (h.1 a ha).2⟩, fun h0 => by
    obtain ⟨g, o, e, hg, hc⟩ := h.2 h0
    exact ⟨g, o, e, Nat.lt_of_lt_of_le hg hb.size, fun i a hi => rng_below (hc i a hi) hb hg⟩⟩
theorem cellsTA : Tryd.prog.cellsOf 43 = 3 := by kernel_rfl
theorem cellsTB : Tryd.prog.cellsOf 41 = 1 := by kernel_rfl
theorem cellsTU : Tryd.prog.cellsOf 33 = 1 := by kernel_rfl
theorem cellsTO : Tryd.prog.cellsOf 4 = 1 := by kernel_rfl
section
variable {H : Type} {enc : TypeId × Value → H} {W : World} {spare : Nat → Bool} {held : Bool} {b' : Nat}
theorem field_by {v : Value} {n : Nat} {x : DataW H × List MemPlace} (hf : DataW.trod enc Tryd.prog W b' spare held n 41 [v] = some x) :
    ∃ (l : List (BitVec 8)) (sp : Option Addr) (cap : Nat), v = .slice sp l.length cap ∧ l.length ≤ cap ∧ SrcA W sp l := by
  rcases open_ints Tryd.underlying41 Tryd.underlying5 cellsB hf with ⟨hcs, hx⟩ | ⟨a, len, cap, zs, hcs, _, hl, hm, hz, hx, hcell, hwz⟩
  · simp at hcs
    exact ⟨[], none, 0, hcs, by simp, SrcA.nil _ _⟩
  · simp at hcs
    have hlz : len ≤ zs.length := by rw [hz]; split <;> omega
    have hlen : ((zs.take len).map (fun m => BitVec.ofNat 8 m.toNat)).length = len := by simp; omega
    refine ⟨(zs.take len).map (fun m => BitVec.ofNat 8 m.toNat), some a, cap, by rw [hlen]; exact hcs, by omega, fun h0 => ?_⟩
    rw [hlen] at h0
    obtain ⟨g, o, rfl, hc⟩ := ints_at hcell (by omega)
    have hcl : ∀ j, j < len → W.cell? ⟨g, o + j, none⟩ = some (V8 (((zs.take len).map (fun m => BitVec.ofNat 8 m.toNat)).getD j 0)) := fun j hj => by
      have hj' : j < zs.length := by omega
      have hb := bounds_u8 (hwz _ (List.getElem_mem hj'))
      rw [hc j hj']
      simp only [List.getD_eq_getElem?_getD, List.getElem?_map, List.getElem?_take, if_pos hj, List.getElem?_eq_getElem hj', Option.map_some, Option.getD_some, V8, N8, BitVec.toNat_ofNat]
      congr 2
      omega
    exact ⟨g, o, rfl, lt_of_cell (hc 0 (by omega)), fun j hj => hcl j (by rw [hlen] at hj; exact hj)⟩
set_option maxRecDepth 100000 in
/-- An act that came in. -/
theorem cells_act {fuel : Nat} {cs : List Value} {x : DataW H × List MemPlace} (hlen : cs.length = 3) (h : DataW.trod enc Tryd.prog W b' spare held fuel 43 cs = some x) : ∃ q : AcT, AcOKT W q ∧ cs = tacells q := by
  obtain ⟨xs, k, _, _, _, hxl, hfl⟩ := DataW.trod_struct Tryd.underlying43 h
  match xs, hxl, cs, hlen with
  | [y0, y1, y2], _, [v0, v1, v2], _ =>
    have g0 := hfl 0 _ rfl
    have g1 := hfl 1 _ rfl
    have g2 := hfl 2 _ rfl
    simp [cellsTB, cellsTU, cellsTO] at g0 g1 g2
    obtain ⟨l0, sp0, c0, e0, k0, s0⟩ := field_by g0
    obtain ⟨z1, e1, _, w1⟩ := DataW.trod_int Tryd.underlying33 g1
    obtain ⟨b2, e2, _⟩ := DataW.trod_bool Tryd.underlying4 g2
    simp at e1 e2
    subst e0 e1 e2
    exact ⟨⟨l0, sp0, c0, z1, b2⟩, ⟨s0, k0⟩, rfl⟩
set_option maxRecDepth 100000 in
theorem open_actsT {b : Nat} {v : Value} {d : DataW H} {p : List MemPlace} (ho : Value.okWide Tryd.prog W .any b 22 v) (h : DataW.Trod enc Tryd.prog W b' spare held 22 v d p) :
    ∃ (l : List AcT) (sp : Option Addr) (cap : Nat), v = .slice sp l.length cap ∧ l.length ≤ cap ∧ ActsT W sp l := by
  obtain ⟨a0, len, cap, rfl⟩ := okWide_slice Tryd.underlying22 ho
  obtain ⟨fuel, hf⟩ := h
  rcases open_slice Tryd.underlying22 hf with ⟨hcs, hx⟩ | ⟨a, len', cap', m, n, D, Pl, hcs, _, hl, hm, hmm, hx, hcell⟩
  · simp [Value.cells] at hcs
    obtain ⟨rfl, rfl, rfl⟩ := hcs
    exact ⟨[], none, 0, rfl, by simp, ⟨fun a ha => by simp at ha, fun h => absurd h (by simp)⟩⟩
  · simp [Value.cells] at hcs
    obtain ⟨rfl, rfl, rfl⟩ := hcs
    have hlm : len ≤ m := by rw [hmm]; split <;> omega
    have each : ∀ i, i < m → ∃ q : AcT, AcOKT W q ∧ ∀ j v, (tacells q)[j]? = some v → W.cell? (a.add (i * 3 + j)) = some v := by
      intro i hi
      obtain ⟨cs', h1, h2⟩ := hcell i hi
      rw [cellsTA] at h1
      obtain ⟨_, hlen, hcl⟩ := World.cells?_some h1
      obtain ⟨q, hq, e⟩ := cells_act (by omega) h2
      refine ⟨q, hq, fun j v hj => ?_⟩
      rw [← e] at hj
      have hjl : j < cs'.length := (List.getElem?_eq_some_iff.1 hj).1
      have hc := hcl j (by omega)
      rw [add_add, hj] at hc
      exact hc
    obtain ⟨q, hq⟩ := choose_lt each
    refine ⟨(List.range len).map q, some a, cap, by simp, by simpa using hl, fun x hx => ?_, fun h0 => ?_⟩
    · obtain ⟨i, hi, rfl⟩ := List.mem_map.1 hx
      exact (hq i (by have := List.mem_range.1 hi; omega)).1
    · have h0' : 0 < len := by simpa using h0
      have h00 : (tacells (q 0))[0]? = some (.slice (q 0).sp (q 0).b.length (q 0).cap) := rfl
      obtain ⟨g, o, spot⟩ := a
      have hspot : spot = none := by simpa [Addr.add] using World.cell?_spot ((hq 0 (by omega)).2 0 _ h00)
      subst hspot
      refine ⟨g, o, rfl, ?_, fun i x hi j v hj => ?_⟩
      · have := (hq 0 (by omega)).2 0 _ h00
        rw [Addr.add_mid] at this
        exact lt_of_cell this
      · obtain ⟨hi1, hi2⟩ := List.getElem?_eq_some_iff.1 hi
        have hi' : i < len := by simpa using hi1
        have e : x = q i := by rw [← hi2]; simp
        subst e
        have hc := (hq i (by omega)).2 j v hj
        rw [Addr.add_mid] at hc
        rw [Nat.add_assoc]
        exact hc
end
theorem sizeTA : (Tryd.prog.info? 43).map (·.size) = some 3 := by kernel_rfl
theorem ex_iaAc {ρ : Operand → Value} {o : Oper} {x y : Operand} {w : World} {g o' n cap k : Nat} (ho : o.op = .indexAddr 22 x y) (hx : ρ x = .slice (some ⟨g, o', none⟩) n cap) (hy : ρ y = .int .i64 (k : Int)) (hk : k < n ∧ n ≤ cap) :
    (execOp ρ o).run Tryd.prog w = .ok (.value (.pointer (some ⟨g, o' + k * 3, none⟩))) w := by
  have h1 : ¬ n ≤ k := by omega
  unfold execOp
  simp only [ho]
  go_simp
theorem ex_ldAc {ρ : Operand → Value} {o : Oper} {x : Operand} {w : World} {g off : Nat} {a : AcT} (hr : w.rangeAt g off (tacells a)) (ho : o.op = .load 43 x) (hx : ρ x = .pointer (some ⟨g, off, none⟩)) : (execOp ρ o).run Tryd.prog w = .ok (.value (.agg (tacells a).toArray)) w :=
  ex_ld (ty := 43) (cs := tacells a) ho hx hr Tryd.underlying43 rfl (by rw [sizeTA]; rfl)
def greatB (l : List AcT) : Bool := decide (60 < l.length) || l.any (fun a => decide (64 < a.b.length))
set_option maxRecDepth 100000 in
set_option maxHeartbeats 4000000 in
theorem great_go (l : List AcT) (sp : Option Addr) (cap : Nat) (hc : l.length ≤ cap) (w : World) (hA : ActsT w sp l) : Calls Tryd.prog 5 #[.slice sp l.length cap] w fun e w' => e = .returned (.bool (greatB l)) ∧ Below w.heap.size w w' := by
  obtain ⟨N, hN⟩ : ∃ N, l.length = N := ⟨_, rfl⟩
  rw [hN] at hc ⊢
  have HN := Lib.hid hN; have HC := Lib.hid hc; have HA := Lib.hid hA
  generalize hPost : (fun e w' => e = Ending.returned (.bool (greatB l)) ∧ Below w.heap.size w w') = Post
  have HPO : Hid (∀ b w', greatB l = b → Below w.heap.size w w' → Post (.returned (.bool b)) w') := Lib.hid fun b w' e h => by rw [← hPost, ← e]; exact ⟨rfl, h⟩
  clear hN hc hA hPost
  go_enter Tryd.func5, Tryd.ntmps5
  by_cases hb : 60 < N
  · have j1 : (60 : Int) < (N : Int) := by omega
    have HE := Lib.hid (HPO.out true w (by unfold greatB; rw [HN.out, decide_eq_true hb]; rfl) (Below.refl _ _))
    clear hb
    go_wp2_with fail
    first | exact HE.out | (go_ret; exact HE.out)
  · have j1 : ¬ (60 : Int) < (N : Int) := by omega
    have HB : Hid (N ≤ 60) := Lib.hid (by omega)
    clear hb
    go_wp2_with fail
    go_loopw [3] (fun i wr => ∃ k : Nat, k ≤ N ∧ i = .int .i64 (k : Int) ∧ (l.take k).any (fun a => decide (64 < a.b.length)) = false ∧ Below w.heap.size w wr) (fun i _ => N - (intOf i).toNat)
    case atStart => exact ⟨0, by omega, rfl, by simp, Below.refl _ _⟩
    case round =>
      clear j1
      obtain ⟨k, hk, rfl, hno, hbw⟩ := hrel
      have HNO := Lib.hid hno; have HBW := Lib.hid hbw
      clear hno hbw
      have wk1 := IntWalk.i64_in ((k : Int) + 1) (by have := HB.out; omega)
      by_cases hlt : k < N
      · obtain ⟨q, hq⟩ : ∃ q, l[k]? = some q := ⟨_, List.getElem?_eq_getElem (by have := HN.out; omega)⟩
        obtain ⟨g, o, rfl, hg, hcl⟩ := HA.out.2 (by have := HN.out; omega)
        have HKC : Hid (k < N ∧ N ≤ cap) := Lib.hid ⟨hlt, HC.out⟩
        have HCE : Hid (wr.cell? ⟨g, o + k * 3, none⟩ = some (.slice q.sp q.b.length q.cap)) := Lib.hid (rng_below (hcl k q hq) HBW.out hg 0 _ rfl)
        have HTK : Hid ((l.take (k + 1)).any (fun a => decide (64 < a.b.length)) = decide (64 < q.b.length)) := Lib.hid (by
          rw [take_snoc hq, List.any_append, HNO.out]
          simp)
        have HAN : Hid (64 < q.b.length → greatB l = true) := Lib.hid fun h => by
          unfold greatB
          rw [Bool.or_eq_true]
          exact .inr (List.any_eq_true.2 ⟨q, List.mem_of_getElem? hq, by simpa using h⟩)
        obtain ⟨m, hm⟩ : ∃ m, q.b.length = m := ⟨_, rfl⟩
        rw [hm] at HCE HTK HAN
        clear hq hg hcl hm
        by_cases hz : 64 < m
        · have j2 : (64 : Int) < (m : Int) := by omega
          have HE := Lib.hid (HPO.out true wr (HAN.out hz) HBW.out)
          clear hz
          go_wp2_with (first | (refine wpL_val rfl (ex_iaAc rfl rfl rfl HKC.out) ?_) | (refine wpL_val rfl (ex_ldBy rfl rfl HCE.out) ?_) | fail)
          first | exact HE.out | (go_ret; exact HE.out)
        · have j2 : ¬ (64 : Int) < (m : Int) := by omega
          have HT2 := Lib.hid (HTK.out.trans (decide_eq_false hz))
          clear hz
          go_wp2_with (first | (refine wpL_val rfl (ex_iaAc rfl rfl rfl HKC.out) ?_) | (refine wpL_val rfl (ex_ldBy rfl rfl HCE.out) ?_) | fail)
          go_roundw
          case rel => exact ⟨k + 1, by omega, by go_num, HT2.out, HBW.out⟩
          case measure => simp [intOf]; omega
      · obtain rfl : N = k := by omega
        have hno : l.any (fun a => decide (64 < a.b.length)) = false := by have := HNO.out; rw [List.take_of_length_le (by have := HN.out; omega)] at this; exact this
        have HE := Lib.hid (HPO.out false wr (by unfold greatB; rw [hno, HN.out, decide_eq_false (by have := HB.out; omega)]; rfl) HBW.out)
        clear hlt hk wk1 hno
        go_wp2_with fail
        first | exact HE.out | (go_ret; exact HE.out)
end Go.Proofs.YtfcjeceoedfldaaDoor
/- The frame turned: a row that grows, a box stored into. -/
namespace Go.Proofs.YtfcjeceoedfldaaDoor
open Go.RowKit

attribute [local go_sem] Oper.semAt_some

/-- The frame where boxes are turned, or new. -/
theorem Fr.turn {w X Y : World} {D : Nat} {s : Sh} {bs bs' : Bxs} {F : Nat → Prop} (h : Fr w D s bs X) (hc : Chg F X Y) (hF : ∀ g, F g → w.heap.size ≤ g ∧ (X.heap.size ≤ g ∨ ∃ b ∈ bs, b.1 = g)) (hb : ∀ b ∈ bs', Blk Y b.1 b.2.1 b.2.2 ∧ (X.heap.size ≤ b.1 ∨ ∃ c ∈ bs, c.1 = b.1)) : Fr w D s bs' Y := by
  obtain ⟨⟨L1, v1, h1, h2, h3, h4⟩, k, hl⟩ := h
  refine ⟨⟨L1, v1, h1.out hc (fun g hg hlt => .inl ?_) (fun _ _ => .inl rfl) (fun g hg => Nat.lt_of_lt_of_le (h1.lt g hg) hc.size), h2, fun b hb' => ?_, h4⟩, fun b hb' => (hb b hb').1, hl.trans (hc.below (fun g hg => (hF g hg).1) hl.size)⟩
  · rcases (hF g hg).2 with e | ⟨b, hb1, rfl⟩
    · omega
    · exact h3 b hb1
  · rcases (hb b hb').2 with e | ⟨c, hc1, e⟩
    · exact h1.not e
    · rw [← e]; exact h3 c hc1
theorem RowB.blk {e : TypeId} {size : Nat} {b : Bxs} {v : Value} {n : Nat} {xs : List Value} (h : RowB e size b v n xs) {k : Nat} (hk : v.ownBlock = some k) : ∃ y ∈ b, y.1 = k := by
  rcases h.2 with ⟨rfl, _⟩ | ⟨g, cap, cs, rfl, rfl, _⟩
  · cases hk
  · exact ⟨(g, cs, e), by simp, by cases hk; rfl⟩
/-- A box is stored into as a whole. -/
theorem fr_row {w X : World} {D : Nat} {s : Sh} {bs : Bxs} {g : Nat} {cs cs' : List Value} {t : TypeId} (h : Fr w D s ((g, cs, t) :: bs) X) (hg : w.heap.size ≤ g) (ha : ∀ z ∈ bs, z.1 ≠ g) : Fr w D s ((g, cs', t) :: bs) (X.setRow g cs'.toArray) := by
  have hc := chgR X g cs'.toArray
  refine h.turn hc (fun k hk => ?_) (fun b hb => ?_)
  · have e : k = g := hk
    subst e
    exact ⟨hg, .inr ⟨_, List.mem_cons_self .., rfl⟩⟩
  · rcases List.mem_cons.1 hb with rfl | hb
    · exact ⟨(h.at (g := g) (cs := cs) (t := t) (by simp)).row cs', .inr ⟨_, List.mem_cons_self .., rfl⟩⟩
    · exact ⟨(h.bx b (List.mem_cons_of_mem _ hb)).chg hc (fun e => ha b hb e), .inr ⟨b, List.mem_cons_of_mem _ hb, rfl⟩⟩
/-- A box is stored into from a place on. -/
theorem fr_cells {w X : World} {D : Nat} {s : Sh} {bs : Bxs} {g o : Nat} {cs vs : List Value} {t : TypeId} (h : Fr w D s ((g, cs, t) :: bs) X) (hg : w.heap.size ≤ g) (ha : ∀ z ∈ bs, z.1 ≠ g) (ho : o + vs.length ≤ cs.length) : Fr w D s ((g, cs.take o ++ vs ++ cs.drop (o + vs.length), t) :: bs) (X.setCells g o vs) := by
  have hc := Chg.setsG (fun k => k = g) rfl vs o X
  refine h.turn hc (fun k hk => ?_) (fun b hb => ?_)
  · have e : k = g := hk
    subst e
    exact ⟨hg, .inr ⟨_, List.mem_cons_self .., rfl⟩⟩
  · rcases List.mem_cons.1 hb with rfl | hb
    · exact ⟨blk_setCells g t vs o X cs (h.at (g := g) (cs := cs) (t := t) (by simp)) ho, .inr ⟨_, List.mem_cons_self .., rfl⟩⟩
    · exact ⟨(h.bx b (List.mem_cons_of_mem _ hb)).chg hc (fun e => ha b hb e), .inr ⟨b, List.mem_cons_of_mem _ hb, rfl⟩⟩
theorem prows_set {l : List Pt} (h : ∀ p ∈ l, p.OK) {k : Nat} (hk : k < l.length) {q : Pt} (hq : q.OK) : (prows l).take (k * 41) ++ pcells q ++ (prows l).drop (k * 41 + 41) = prows (l.set k q) := by
  have := ncells_set h hk hq
  unfold splice at this
  rw [pcells_length hq, Nat.mul_comm 41 k] at this
  rw [List.append_assoc]
  exact this
end Go.Proofs.YtfcjeceoedfldaaDoor
/- The shelf's lists made nil; Set with leaves of the law's own; rows made. -/
namespace Go.Proofs.YtfcjeceoedfldaaDoor
open Go.RowKit

attribute [local go_sem] Oper.semAt_some

theorem ownM_nil {X : World} {j : Nat} {L : Nat → Nat} : OwnM X 0 (.slice none 0 0) [] ∧ ∀ g, (Value.slice none 0 0).ownBlock = some g → L g = j := ⟨World.ownsRow_nil _ _ _ _, fun g hg => by cases hg⟩
/-- The shelf's cells. -/
theorem Fr.cells {w X : World} {D : Nat} {s : Sh} {bs : Bxs} (h : Fr w D s bs X) : ∃ v, Blk X D (scells v s.room) 30 ∧ OwnM X 0 v.md s.made ∧ OwnM X 0 v.gn s.gone ∧ (∀ q ∈ s.made, q.OK) ∧ ∀ q ∈ s.gone, q.OK := by
  obtain ⟨⟨L1, v1, h1, h2, h3, h4⟩, k, hl⟩ := h
  exact ⟨v1, h1.blk, h1.md.1, h1.gn.1, h1.okm, h1.okg⟩
theorem srcF_of {X : World} {B : Nat} {v : Value} {l : List Lf} (h : OwnL X B v l) (hok : ∀ x ∈ l, Lf.OK x) : ∃ sp cap, v = .slice sp l.length cap ∧ l.length ≤ cap ∧ SrcF X sp l := by
  by_cases h0 : 0 < l.length
  · obtain ⟨g, cap, e, hc, hr⟩ := h.at hok h0
    refine ⟨_, cap, e, hc, fun _ => ⟨g, 0, rfl, ?_, fun i x hx => by rw [Nat.zero_add]; exact hr i x hx⟩⟩
    exact (h.lt g (by rw [e]; rfl)).2
  · obtain ⟨sp, cap, e, hc⟩ := owns_form h
    rcases h.2 with ⟨e2, _⟩ | ⟨g, cap2, cur, e2, _, _, hc2, _⟩
    · exact ⟨none, 0, by rw [e2]; congr 1; omega, by omega, fun h => absurd h h0⟩
    · exact ⟨_, _, e2, hc2, fun h => absurd h h0⟩
/-- Set, with leaves in a box. -/
theorem fr_setB {w X : World} {D : Nat} {s : Sh} {bs lb : Bxs} (h : Fr w D s bs X) (p : Pt) (hp : p.OK) (l : List Lf) (hok : ∀ x ∈ l, Lf.OK x) {v : Value} (hl : l.length ≤ 64) (hr : RowB 45 42 lb v l.length (lrows l)) (hs : ∀ y ∈ lb, y ∈ bs) {m : Nat} (hk : Lim m s) (hm : m + 715 < 1000000) :
    Calls Tryd.prog 8 #[shI D, .agg (pcells p).toArray, .int .u16 9, v] X fun e Y => e = .returned (.tuple #[.agg (pcells (setR s p 9 l).p).toArray, .int .i64 ((setR s p 9 l).e : Int)]) ∧ Fr w D (setR s p 9 l).s bs Y ∧ Lim (m + 715) (setR s p 9 l).s ∧ (setR s p 9 l).p.OK := by
  have ho : OwnL X 0 v l := h.row hr hs
  obtain ⟨L1, v1, h1, h2, h3, h4, h5⟩ := h.call
  obtain ⟨sp, cap, e, hc, hS⟩ := srcF_of ho hok
  have hlab : ∀ a, sp = some a → a.block < X.heap.size ∧ (L1 a.block = 0 ∨ L1 a.block = 10) := fun a ha => by
    have e1 : v.ownBlock = some a.block := by rw [e, ha]; rfl
    obtain ⟨y, hy, e2⟩ := hr.blk e1
    refine ⟨by rw [← e2]; exact (h.bx y (hs y hy)).lt, .inl ?_⟩
    rw [← e2]
    exact h4 y (hs y hy)
  subst e
  refine (trSet_any (obj := 9) p hp (by omega) l hok sp cap hc hl hS hlab h1 hk hm).mono ?_
  rintro e Y ⟨e1, e2, e3, e4⟩
  exact ⟨e1, h5 _ Y e2, e3, e4⟩
theorem infoPz : (Tryd.prog.info? 37).map (fun i => (i.zero, i.size, i.bytes)) = some (some (.agg (pcells zeroP).toArray), 41, 56) := by kernel_rfl
theorem madeP (n : Nat) : madeCells (pcells zeroP).toArray (n * 41) = (prows (List.replicate n zeroP)).toArray := by
  have hz := pcells_length zeroP_ok
  have hl : (prows (List.replicate n zeroP)).length = n * 41 := by
    show ((List.replicate n zeroP).flatMap pcells).length = n * 41
    rw [List.length_flatMap, List.map_replicate, hz]
    simp
  have hat : ∀ i, i < n * 41 → (prows (List.replicate n zeroP))[i]? = (pcells zeroP)[i % 41]? := fun i hi => by
    have h1 := prows_at (List.replicate n zeroP) (i / 41) zeroP (fun q hq => by rw [List.eq_of_mem_replicate hq]; exact zeroP_ok) (by rw [List.getElem?_replicate, if_pos (by omega)]) (i % 41) (by omega)
    rw [show i / 41 * 41 + i % 41 = i by omega] at h1
    exact h1
  generalize prows (List.replicate n zeroP) = l at hl hat
  generalize pcells zeroP = zc at hz hat
  apply Array.ext
  · rw [size_madeCells, List.size_toArray, hl]
  · intro i h1 h2
    rw [size_madeCells] at h1
    have h3 := hat i h1
    rw [List.getElem?_eq_getElem (by omega), List.getElem?_eq_getElem (by omega)] at h3
    have h4 := Option.some.inj h3
    have e : l.toArray[i] = l[i]'(by simpa using h2) := by simp
    rw [e, h4]
    simp [madeCells, hz]
    rw [List.getElem?_eq_getElem (by omega)]
    rfl
theorem ex_mk64 {ρ : Operand → Value} {o : Oper} {w : World} (ho : o.op = .makeSlice 28 (.const (.int .i64 64)) (.const (.int .i64 64))) (hx : ρ (.const (.int .i64 64)) = .int .i64 64) : (execOp ρ o).run Tryd.prog w = .ok (.value (.slice (some ⟨w.heap.size, 0, none⟩) 64 64)) (w.alloc (.cells (prows (List.replicate 64 zeroP)).toArray 37)) := by
  obtain ⟨i, hi, h⟩ := Option.map_eq_some_iff.1 infoPz
  simp only [Prod.mk.injEq] at h
  have hr := run_make (P := Tryd.prog) w 28 37 i _ Tryd.underlying28 hi h.1 .i64 .i64 64 64 (by omega) (by omega) (by rw [h.2.2]; omega) (by omega)
  rw [h.2.1] at hr
  rw [show (Value.agg (pcells zeroP).toArray).cells = (pcells zeroP).toArray from rfl, show Int.toNat 64 = 64 from rfl, madeP] at hr
  unfold execOp
  simp only [ho, hx, Sem.run_bind, hr, Result.andThen_ok, Sem.run_pure]
theorem RowB.made {e : TypeId} {size g n cap : Nat} {cs : List Value} (hc : n ≤ cap) (hm : cap ≤ maxLen) (hl : cs.length = cap * size) : RowB e size [(g, cs, e)] (.slice (some ⟨g, 0, none⟩) n cap) n (cs.take (n * size)) :=
  ⟨by rw [List.length_take, hl]; exact Nat.min_eq_left (Nat.mul_le_mul_right _ hc), .inr ⟨g, cap, cs, rfl, rfl, hc, hm, hl, rfl⟩⟩
/-- A leaf is stored into a map of the law's. -/
theorem RowB.put {g n cap : Nat} {cs : List Value} {l : List Pt} (h : RowB 37 41 [(g, cs, 37)] (.slice (some ⟨g, 0, none⟩) n cap) n (prows l)) (hl : l.length = n) (hok : ∀ p ∈ l, p.OK) {k : Nat} (hk : k < n) {q : Pt} (hq : q.OK) :
    k * 41 + (pcells q).length ≤ cs.length ∧ RowB 37 41 [(g, cs.take (k * 41) ++ pcells q ++ cs.drop (k * 41 + (pcells q).length), 37)] (.slice (some ⟨g, 0, none⟩) n cap) n (prows (l.set k q)) := by
  obtain ⟨h1, h2⟩ := h
  rcases h2 with ⟨e, _⟩ | ⟨g', cap', cs', e, e2, hc, hm, hs, ht⟩
  · cases e
  · injection e with e3 _ e4
    subst e4
    simp only [List.cons.injEq, Prod.mk.injEq, and_true] at e2
    obtain ⟨_, e5⟩ := e2
    subst e5
    have hpl := pcells_length hq
    have hle : k * 41 + 41 ≤ n * 41 := by omega
    have hle2 : n * 41 ≤ cap * 41 := Nat.mul_le_mul_right _ hc
    have hcs : k * 41 + (pcells q).length ≤ cs.length := by omega
    refine ⟨hcs, ?_, .inr ⟨g, cap, _, rfl, rfl, hc, hm, ?_, ?_⟩⟩
    · rw [← prows_set hok (by omega) hq]
      rw [← ht] at h1 ⊢
      simp only [List.length_append, List.length_take, List.length_drop] at h1 ⊢
      omega
    · simp only [List.length_append, List.length_take, List.length_drop]
      omega
    · rw [← prows_set hok (by omega) hq, ← ht, hpl]
      have a1 : (cs.take (k * 41)).length = k * 41 := by rw [List.length_take]; omega
      rw [List.take_append, List.take_append, List.length_append, a1, hpl]
      rw [List.take_of_length_le (l := List.take (k * 41) cs) (by omega), List.take_of_length_le (l := pcells q) (by omega)]
      rw [List.take_take, List.drop_take, show min (k * 41) (n * 41) = k * 41 by omega]
end Go.Proofs.YtfcjeceoedfldaaDoor
/- A round of the law, plain. -/
namespace Go.Proofs.YtfcjeceoedfldaaDoor
open Go.RowKit

theorem fine_zero : fineP zeroP = true := by unfold fineP; rw [eqP_same]; rfl
theorem fine_leaf (n off : Nat) : fineP (leafP n off) = true := by
  unfold fineP
  rw [mayP_eq (by simp [leafP]), Bool.or_eq_true]
  right
  unfold mayR
  simp [leafP]
theorem lv_asc {n : Nat} {h : List Pt} {ls : List Lf} (l : LvL n h 64 ls) (hn : n < 1000) (hok : ∀ p ∈ h, p.OK ∧ fineP p = true) : Asc ls := by
  refine ⟨l.asc, l.lt, fun x hx => ?_⟩
  have hx64 := l.lt x hx
  rcases l.at_ x hx with e | e | e
  · rw [e]; exact ⟨zeroP_ok, fine_zero⟩
  · rw [e]; exact ⟨leafP_ok (by omega) (by omega), fine_leaf _ _⟩
  · exact hok _ (List.mem_of_getElem? e)
theorem updH_at : ∀ (ls : List Lf) (h : List Pt) (off : Nat) (p : Pt), (updH h ls)[off]? = some p → h[off]? = some p ∨ ∃ x ∈ ls, x.1 = off ∧ p = x.2
  | [], h, off, p, e => .inl e
  | x :: ls, h, off, p, e => by
    rw [updH_cons] at e
    rcases updH_at ls _ off p e with e1 | ⟨y, hy, e1⟩
    · rw [List.getElem?_set] at e1
      by_cases hx : x.1 = off
      · rw [if_pos hx] at e1
        split at e1
        · exact .inr ⟨x, by simp, hx, (Option.some.inj e1).symm⟩
        · cases e1
      · rw [if_neg hx] at e1
        exact .inl e1
    · exact .inr ⟨y, by simp [hy], e1⟩
theorem lv_inv {n : Nat} {h : List Pt} {ls : List Lf} (l : LvL n h 64 ls) (hi : LInv h) : LInv (updH h ls) := by
  intro off p hp
  rcases updH_at ls h off p hp with e | ⟨x, hx, e1, e2⟩
  · exact hi off p e
  · rw [e2]
    rcases l.at_ x hx with e | e | e
    · exact .inl e
    · right; rw [e]; exact ⟨rfl, e1⟩
    · have := hi x.1 x.2 e
      rw [e1] at this
      exact this
theorem lv_fine {n : Nat} {h : List Pt} {ls : List Lf} (l : LvL n h 64 ls) (hn : n < 1000) (hok : ∀ p ∈ h, p.OK ∧ fineP p = true) : ∀ p ∈ updH h ls, p.OK ∧ fineP p = true := by
  intro p hp
  rcases mem_updH ls h p hp with e | ⟨x, hx, e⟩
  · exact hok p e
  · rw [e]; exact (lv_asc l hn hok).ok x hx
theorem tree_zero (bl : List Bs) : IsT bl zeroP (List.replicate 64 zeroP) holes := by
  refine ⟨by simp, fun p hp => by rw [List.eq_of_mem_replicate hp]; exact zeroP_ok, ⟨holes_ok, .inl ⟨rfl, rfl⟩⟩, fun i q hq => ?_⟩
  have hi : i < 8 := by have := (List.getElem?_eq_some_iff.1 hq).1; simpa [holes] using this
  have hg : grp (List.replicate 64 zeroP) i = holes := by
    unfold grp holes
    rw [List.drop_replicate, List.take_replicate]
    congr 1
    omega
  have hz : q = zeroP := by
    have := List.mem_of_getElem? hq
    exact List.eq_of_mem_replicate this
  rw [hg]
  exact ⟨holes_ok, .inl ⟨hz, rfl⟩⟩
theorem inv_zero : LInv (List.replicate 64 zeroP) := fun off p hp => .inl (List.eq_of_mem_replicate (List.mem_of_getElem? hp))
theorem updH_take {ls : List Lf} {h : List Pt} {k : Nat} {x : Lf} (hx : ls[k]? = some x) : updH h (ls.take (k + 1)) = (updH h (ls.take k)).set x.1 x.2 := by
  rw [take_snoc hx, updH_append]
  rfl
end Go.Proofs.YtfcjeceoedfldaaDoor
/- The shelf's other cells set: Bad, Room, Read0; what is read of them. -/
namespace Go.Proofs.YtfcjeceoedfldaaDoor
open Go.RowKit

attribute [local go_sem] Oper.semAt_some

theorem Fr.above {w X : World} {D : Nat} {s : Sh} {bs : Bxs} (h : Fr w D s bs X) : w.heap.size ≤ D := by
  obtain ⟨⟨L1, v1, h1, h2, h3, h4⟩, k, hl⟩ := h
  by_cases e : w.heap.size ≤ D
  · exact e
  · have := h4 D (by omega); rw [h1.ld] at this; omega
theorem fr_rd0 {w X : World} {D : Nat} {s : Sh} {bs : Bxs} (h : Fr w D s bs X) : Fr w D { s with read0 := [] } bs (X.setCell ⟨D, 5, none⟩ (.slice none 0 0)) := by
  have hlD := h.above
  obtain ⟨⟨L1, v1, h1, h2, h3, h4⟩, k, hl⟩ := h
  have hc : Chg (fun x => x = D) X (X.setCell ⟨D, 5, none⟩ (.slice none 0 0)) := (Chg.refl (fun x => x = D) X).setCell (g := D) (.inl rfl) 5 _
  have hsz : (X.setCell ⟨D, 5, none⟩ (.slice none 0 0)).heap.size = X.heap.size := by simp [World.setCell]
  have hDn : ∀ {j x : Nat}, j ≠ 1 → L1 x = j → ¬ x = D := fun hj hx e => by rw [e, h1.ld] at hx; exact hj hx.symm
  obtain ⟨vs, r1, r2, r3, r4, r5⟩ := h1.row
  have md : OwnM (X.setCell ⟨D, 5, none⟩ (.slice none 0 0)) 0 v1.md s.made := owns_chg h1.md.1 hc (fun g hg => hDn (by omega) (h1.md.2 g hg))
  have gn : OwnM (X.setCell ⟨D, 5, none⟩ (.slice none 0 0)) 0 v1.gn s.gone := owns_chg h1.gn.1 hc (fun g hg => hDn (by omega) (h1.gn.2 g hg))
  refine ⟨⟨L1, { v1 with rd := .slice none 0 0 }, ⟨h1.blk.set 5 _, h1.ld, ⟨vs, owns_chg r1 hc (fun g hg => hDn (by omega) (r2 g hg)), r2, r3, fun i u b hu hb => ?_, r5⟩, ?_, ⟨md, h1.md.2⟩, ⟨gn, h1.gn.2⟩, ownM_nil, fun g hg => by rw [hsz]; exact h1.lt g hg, h1.okm, h1.okg, fun q hq => by simp at hq, ?_⟩, h2, h3, h4⟩, fun b hb => (k b hb).chg hc (hDn (by omega) (h3 b hb)), hl.trans (hc.below (fun g hg => by have : g = D := hg; omega) hl.size)⟩
  · obtain ⟨sp, cap, e, k1, k2, k3, k4⟩ := r4 i u b hu hb
    exact ⟨sp, cap, e, k1, k2, k3.chgF hc (fun a ha => hDn (by omega) (k4 a ha)), k4⟩
  · obtain ⟨sp, cap, e, k1, k2, k3⟩ := h1.bad
    refine ⟨sp, cap, e, k1, k2, fun h0 => ?_⟩
    obtain ⟨g, o, e1, hg, hl', hcell⟩ := k3 h0
    refine ⟨g, o, e1, by rw [hsz]; exact hg, hl', fun i x hx => ?_⟩
    rw [World.cell?_of_block (w := X) (a := ⟨g, o + i, none⟩) (hc.block g hg (hDn (by omega) hl'))]
    exact hcell i x hx
  · exact ⟨h1.tab.1.of_heap (hc.block _ h1.tab.1.lt (hDn (by omega) h1.tab.2)), h1.tab.2⟩
theorem fr_room {w X : World} {D : Nat} {s : Sh} {bs : Bxs} (h : Fr w D s bs X) (r : Int) : Fr w D { s with room := r } bs (X.setCell ⟨D, 4, none⟩ (.int .i64 r)) := by
  have hlD := h.above
  obtain ⟨⟨L1, v1, h1, h2, h3, h4⟩, k, hl⟩ := h
  have hc : Chg (fun x => x = D) X (X.setCell ⟨D, 4, none⟩ (.int .i64 r)) := (Chg.refl (fun x => x = D) X).setCell (g := D) (.inl rfl) 4 _
  have hsz : (X.setCell ⟨D, 4, none⟩ (.int .i64 r)).heap.size = X.heap.size := by simp [World.setCell]
  have hDn : ∀ {j x : Nat}, j ≠ 1 → L1 x = j → ¬ x = D := fun hj hx e => by rw [e, h1.ld] at hx; exact hj hx.symm
  obtain ⟨vs, r1, r2, r3, r4, r5⟩ := h1.row
  have md : OwnM (X.setCell ⟨D, 4, none⟩ (.int .i64 r)) 0 v1.md s.made := owns_chg h1.md.1 hc (fun g hg => hDn (by omega) (h1.md.2 g hg))
  have gn : OwnM (X.setCell ⟨D, 4, none⟩ (.int .i64 r)) 0 v1.gn s.gone := owns_chg h1.gn.1 hc (fun g hg => hDn (by omega) (h1.gn.2 g hg))
  refine ⟨⟨L1, { v1 with md := v1.md }, ⟨h1.blk.set 4 _, h1.ld, ⟨vs, owns_chg r1 hc (fun g hg => hDn (by omega) (r2 g hg)), r2, r3, fun i u b hu hb => ?_, r5⟩, ?_, ⟨md, h1.md.2⟩, ⟨gn, h1.gn.2⟩, ⟨owns_chg h1.rd.1 hc (fun g hg => hDn (by omega) (h1.rd.2 g hg)), h1.rd.2⟩, fun g hg => by rw [hsz]; exact h1.lt g hg, h1.okm, h1.okg, h1.okr, ?_⟩, h2, h3, h4⟩, fun b hb => (k b hb).chg hc (hDn (by omega) (h3 b hb)), hl.trans (hc.below (fun g hg => by have : g = D := hg; omega) hl.size)⟩
  · obtain ⟨sp, cap, e, k1, k2, k3, k4⟩ := r4 i u b hu hb
    exact ⟨sp, cap, e, k1, k2, k3.chgF hc (fun a ha => hDn (by omega) (k4 a ha)), k4⟩
  · obtain ⟨sp, cap, e, k1, k2, k3⟩ := h1.bad
    refine ⟨sp, cap, e, k1, k2, fun h0 => ?_⟩
    obtain ⟨g, o, e1, hg, hl', hcell⟩ := k3 h0
    refine ⟨g, o, e1, by rw [hsz]; exact hg, hl', fun i x hx => ?_⟩
    rw [World.cell?_of_block (w := X) (a := ⟨g, o + i, none⟩) (hc.block g hg (hDn (by omega) hl'))]
    exact hcell i x hx
  · exact ⟨h1.tab.1.of_heap (hc.block _ h1.tab.1.lt (hDn (by omega) h1.tab.2)), h1.tab.2⟩
theorem fr_nobad {w X : World} {D : Nat} {s : Sh} {bs : Bxs} (h : Fr w D s bs X) : Fr w D { s with bad := [] } bs (X.setCell ⟨D, 1, none⟩ (.slice none 0 0)) := by
  have hlD := h.above
  obtain ⟨⟨L1, v1, h1, h2, h3, h4⟩, k, hl⟩ := h
  have hc : Chg (fun x => x = D) X (X.setCell ⟨D, 1, none⟩ (.slice none 0 0)) := (Chg.refl (fun x => x = D) X).setCell (g := D) (.inl rfl) 1 _
  have hsz : (X.setCell ⟨D, 1, none⟩ (.slice none 0 0)).heap.size = X.heap.size := by simp [World.setCell]
  have hDn : ∀ {j x : Nat}, j ≠ 1 → L1 x = j → ¬ x = D := fun hj hx e => by rw [e, h1.ld] at hx; exact hj hx.symm
  obtain ⟨vs, r1, r2, r3, r4, r5⟩ := h1.row
  have md : OwnM (X.setCell ⟨D, 1, none⟩ (.slice none 0 0)) 0 v1.md s.made := owns_chg h1.md.1 hc (fun g hg => hDn (by omega) (h1.md.2 g hg))
  have gn : OwnM (X.setCell ⟨D, 1, none⟩ (.slice none 0 0)) 0 v1.gn s.gone := owns_chg h1.gn.1 hc (fun g hg => hDn (by omega) (h1.gn.2 g hg))
  refine ⟨⟨L1, { v1 with bd := .slice none 0 0 }, ⟨h1.blk.set 1 _, h1.ld, ⟨vs, owns_chg r1 hc (fun g hg => hDn (by omega) (r2 g hg)), r2, r3, fun i u b hu hb => ?_, r5⟩, ?_, ⟨md, h1.md.2⟩, ⟨gn, h1.gn.2⟩, ⟨owns_chg h1.rd.1 hc (fun g hg => hDn (by omega) (h1.rd.2 g hg)), h1.rd.2⟩, fun g hg => by rw [hsz]; exact h1.lt g hg, h1.okm, h1.okg, h1.okr, ?_⟩, h2, h3, h4⟩, fun b hb => (k b hb).chg hc (hDn (by omega) (h3 b hb)), hl.trans (hc.below (fun g hg => by have : g = D := hg; omega) hl.size)⟩
  · obtain ⟨sp, cap, e, k1, k2, k3, k4⟩ := r4 i u b hu hb
    exact ⟨sp, cap, e, k1, k2, k3.chgF hc (fun a ha => hDn (by omega) (k4 a ha)), k4⟩
  · exact ⟨none, 0, rfl, Nat.le_refl _, fun _ => rfl, fun h0 => by simp at h0⟩
  · exact ⟨h1.tab.1.of_heap (hc.block _ h1.tab.1.lt (hDn (by omega) h1.tab.2)), h1.tab.2⟩
/-- Numbers of 16 bits that came in. -/
def SrcU (w : World) (sp : Option Addr) (l : List Nat) : Prop := 0 < l.length → ∃ g o, sp = some ⟨g, o, none⟩ ∧ g < w.heap.size ∧ ∀ i x, l[i]? = some x → w.cell? ⟨g, o + i, none⟩ = some (U16 x)
/-- Bad addresses that lie in old memory. -/
theorem fr_bad {w X : World} {D : Nat} {s : Sh} {bs : Bxs} (h : Fr w D s bs X) (l : List Nat) (sp : Option Addr) (cap : Nat) (hcp : l.length ≤ cap) (hz : sp = none → cap = 0) (hS : SrcU w sp l) (hlt : ∀ a, sp = some a → a.block < w.heap.size) (hbox : ∀ y ∈ bs, w.heap.size ≤ y.1) :
    Fr w D { s with bad := l } bs (X.setCell ⟨D, 1, none⟩ (.slice sp l.length cap)) := by
  have hlD := h.above
  obtain ⟨⟨L1, v1, h1, h2, h3, h4⟩, k, hl⟩ := h
  classical
  let L2 : Nat → Nat := fun x => if (∃ a, sp = some a ∧ x = a.block) then 10 else L1 x
  have hsp1 : ∀ x, (∃ a, sp = some a ∧ x = a.block) → x < w.heap.size := fun x ⟨a, ha, e⟩ => by rw [e]; exact hlt a ha
  have hold : ∀ x, L1 x ≠ 0 → L2 x = L1 x := fun x hx' => by
    show (if (∃ a, sp = some a ∧ x = a.block) then 10 else L1 x) = L1 x
    by_cases e : ∃ a, sp = some a ∧ x = a.block
    · rw [if_pos e]
      have := h4 x (hsp1 x e)
      omega
    · rw [if_neg e]
  have hc : Chg (fun x => x = D) X (X.setCell ⟨D, 1, none⟩ (.slice sp l.length cap)) := (Chg.refl (fun x => x = D) X).setCell (g := D) (.inl rfl) 1 _
  have hsz : (X.setCell ⟨D, 1, none⟩ (.slice sp l.length cap)).heap.size = X.heap.size := by simp [World.setCell]
  have hDn : ∀ {j x : Nat}, j ≠ 1 → L1 x = j → ¬ x = D := fun hj hx e => by rw [e, h1.ld] at hx; exact hj hx.symm
  have ow : ∀ {x : Value} {l' : List Pt} {j : Nat}, (j = 3 ∨ j = 4 ∨ j = 5) → (OwnM X 0 x l' ∧ ∀ g, x.ownBlock = some g → L1 g = j) → (OwnM (X.setCell ⟨D, 1, none⟩ (.slice sp l.length cap)) 0 x l' ∧ ∀ g, x.ownBlock = some g → L2 g = j) := fun hj ⟨ha, hb'⟩ =>
    ⟨owns_chg ha hc (fun y hy => hDn (by omega) (hb' y hy)), fun y hy => by rw [hold y (by rw [hb' y hy]; omega)]; exact hb' y hy⟩
  obtain ⟨vs, r1, r2, r3, r4, r5⟩ := h1.row
  refine ⟨⟨L2, { v1 with bd := .slice sp l.length cap }, ⟨h1.blk.set 1 _, by rw [hold D (by rw [h1.ld]; omega)]; exact h1.ld, ⟨vs, owns_chg r1 hc (fun g hg => hDn (by omega) (r2 g hg)), fun g hg => by rw [hold g (by rw [r2 g hg]; omega)]; exact r2 g hg, r3, fun i u b hu hb => ?_, r5⟩, ?_, ow (by omega) h1.md, ow (by omega) h1.gn, ow (by omega) h1.rd, fun x hx => ?_, h1.okm, h1.okg, h1.okr, ?_⟩, fun x => ?_, fun y hy => ?_, fun x hx => ?_⟩, fun b hb => (k b hb).chg hc (hDn (by omega) (h3 b hb)), hl.trans (hc.below (fun g hg => by have : g = D := hg; omega) hl.size)⟩
  · obtain ⟨sp', cap', e, k1, k2, k3, k4⟩ := r4 i u b hu hb
    exact ⟨sp', cap', e, k1, k2, k3.chgF hc (fun a ha => hDn (by omega) (k4 a ha)), fun a ha => by rw [hold _ (by rw [k4 a ha]; omega)]; exact k4 a ha⟩
  · refine ⟨sp, cap, rfl, hcp, hz, fun h0 => ?_⟩
    obtain ⟨g, o, e1, hg, hcell⟩ := hS h0
    refine ⟨g, o, e1, by rw [hsz]; exact Nat.lt_of_lt_of_le hg hl.size, ?_, fun i x hx => ?_⟩
    · show (if (∃ a, sp = some a ∧ g = a.block) then 10 else L1 g) = 10
      rw [if_pos ⟨_, e1, rfl⟩]
    · rw [World.cell?_of_block (w := X) (a := ⟨g, o + i, none⟩) (hc.block g (Nat.lt_of_lt_of_le hg hl.size) (fun e => by have e' : g = D := e; omega))]
      rw [World.cell?_of_block (w := w) (a := ⟨g, o + i, none⟩) (hl.block g hg)]
      exact hcell i x hx
  · rw [hsz]
    have hx : (if (∃ a, sp = some a ∧ x = a.block) then 10 else L1 x) ≠ 0 := hx
    by_cases e2 : ∃ a, sp = some a ∧ x = a.block
    · have := hsp1 x e2; have := hl.size; omega
    · rw [if_neg e2] at hx
      exact h1.lt x hx
  · exact ⟨h1.tab.1.of_heap (hc.block _ h1.tab.1.lt (hDn (by omega) h1.tab.2)), (hold _ (by rw [h1.tab.2]; omega)).trans h1.tab.2⟩
  · show (if (∃ a, sp = some a ∧ x = a.block) then 10 else L1 x) ≤ 5 ∨ (if (∃ a, sp = some a ∧ x = a.block) then 10 else L1 x) = 10
    by_cases e2 : ∃ a, sp = some a ∧ x = a.block
    · rw [if_pos e2]; omega
    · rw [if_neg e2]; exact h2 x
  · show (if (∃ a, sp = some a ∧ y.1 = a.block) then 10 else L1 y.1) = 0
    rw [if_neg (fun e => by have := hsp1 _ e; have := hbox y hy; omega)]
    exact h3 y hy
  · show (if (∃ a, sp = some a ∧ x = a.block) then 10 else L1 x) = 0 ∨ (if (∃ a, sp = some a ∧ x = a.block) then 10 else L1 x) = 10
    by_cases e2 : ∃ a, sp = some a ∧ x = a.block
    · rw [if_pos e2]; omega
    · rw [if_neg e2]; exact h4 x hx
/-- The shelf's cells, as they are read. -/
theorem Fr.look {w X : World} {D : Nat} {s : Sh} {bs : Bxs} (h : Fr w D s bs X) : ∃ v, Blk X D (scells v s.room) 30 ∧ SrcM X v.rd s.read0 := by
  obtain ⟨⟨L1, v1, h1, h2, h3, h4⟩, k, hl⟩ := h
  exact ⟨v1, h1.blk, OwnM.src h1.rd.1 h1.okr⟩
/-- The shelf's cells may be stored into. -/
theorem Fr.stay {w X : World} {D : Nat} {s : Sh} {bs : Bxs} (h : Fr w D s bs X) {j : Nat} (hj : j < 6) : (∃ u, X.cell? ⟨D, j, none⟩ = some u) ∧ X.frozen? ⟨D, j, none⟩ = false := by
  obtain ⟨v, hb, -⟩ := h.look
  refine ⟨?_, hb.free j⟩
  have : j < (scells v s.room).length := by simpa [scells] using hj
  exact ⟨_, hb.cell (List.getElem?_eq_getElem this)⟩
end Go.Proofs.YtfcjeceoedfldaaDoor
