/- Content: acts that came in; Great. -/
import Derived.Test.YthionhliokhcgaaCp
import Derived.Test.YthionhliokhcgaaBase
import Derived.Deep.Slices
namespace Go.Proofs.Ythionhliokhcgaa
open Go.ChangeShapes Go.WideShapes Go.ChangeAt Go.WideMaps Go.WideElems Go.RowKit Go.Deep

attribute [local go_sem] Oper.semAt_some

structure AcT where
  d : Nat
  x : Int
  n : Int
  b : List (BitVec 8)
  sp : Option Addr
  cap : Nat
instance : Inhabited AcT := ⟨⟨0, 0, 0, [], none, 0⟩⟩
abbrev tacells (a : AcT) : List Value := [.int .u8 (a.d : Int), .int .i64 a.x, .int .i64 a.n, .slice a.sp a.b.length a.cap]
structure AcOKT (w : World) (a : AcT) : Prop where
  s : SrcA w a.sp a.b
  c : a.b.length ≤ a.cap
  m : a.cap ≤ maxLen
  d : a.d < 256
  x : -9223372036854775808 ≤ a.x ∧ a.x < 9223372036854775808
  n : -9223372036854775808 ≤ a.n ∧ a.n < 9223372036854775808
theorem rng_below {w w' : World} {g o : Nat} {cs : List Value} (h : w.rangeAt g o cs) (hb : Below w.heap.size w w') (hg : g < w.heap.size) : w'.rangeAt g o cs := fun j v hv => by
  have := h j v hv
  rw [hb.cell (p := ⟨g, o + j, none⟩) hg]
  exact this
theorem AcOKT.grown {w W : World} {a : AcT} (h : AcOKT w a) (hb : Below w.heap.size w W) : AcOKT W a := ⟨h.s.grown hb, h.c, h.m, h.d, h.x, h.n⟩
/-- The acts l lie where the slice begins. -/
def ActsT (w : World) (sp : Option Addr) (l : List AcT) : Prop :=
  (∀ a ∈ l, AcOKT w a) ∧ (0 < l.length → ∃ g o, sp = some ⟨g, o, none⟩ ∧ g < w.heap.size ∧ ∀ i a, l[i]? = some a → w.rangeAt g (o + i * 4) (tacells a))
theorem ActsT.grown {w W : World} {sp : Option Addr} {l : List AcT} (h : ActsT w sp l) (hb : Below w.heap.size w W) : ActsT W sp l :=
  ⟨fun a ha => (h.1 a ha).grown hb, fun h0 => by
    obtain ⟨g, o, e, hg, hc⟩ := h.2 h0
    exact ⟨g, o, e, Nat.lt_of_lt_of_le hg hb.size, fun i a hi => rng_below (hc i a hi) hb hg⟩⟩
theorem cellsTA : Try.prog.cellsOf 26 = 4 := by kernel_rfl
theorem cellsTB : Try.prog.cellsOf 24 = 1 := by kernel_rfl
theorem cellsTI : Try.prog.cellsOf 3 = 1 := by kernel_rfl
section
variable {H : Type} {enc : TypeId × Value → H} {W : World} {spare : Nat → Bool} {held : Bool} {b' : Nat}
theorem field_by {v : Value} {n : Nat} {x : DataW H × List MemPlace} (hf : DataW.trod enc Try.prog W b' spare held n 24 [v] = some x) :
    ∃ (l : List (BitVec 8)) (sp : Option Addr) (cap : Nat), v = .slice sp l.length cap ∧ l.length ≤ cap ∧ cap ≤ maxLen ∧ SrcA W sp l := by
  rcases open_ints Try.underlying24 Try.underlying5 cellsB hf with ⟨hcs, hx⟩ | ⟨a, len, cap, zs, hcs, _, hl, hm, hz, hx, hcell, hwz⟩
  · simp at hcs
    exact ⟨[], none, 0, hcs, by simp, by unfold maxLen; omega, SrcA.nil _ _⟩
  · simp at hcs
    have hlz : len ≤ zs.length := by rw [hz]; split <;> omega
    have hlen : ((zs.take len).map (fun m => BitVec.ofNat 8 m.toNat)).length = len := by simp; omega
    refine ⟨(zs.take len).map (fun m => BitVec.ofNat 8 m.toNat), some a, cap, by rw [hlen]; exact hcs, by omega, hm, fun h0 => ?_⟩
    rw [hlen] at h0
    obtain ⟨g, o, rfl, hc⟩ := ints_at hcell (by omega)
    have hcl : ∀ j, j < len → W.cell? ⟨g, o + j, none⟩ = some (V8 (((zs.take len).map (fun m => BitVec.ofNat 8 m.toNat)).getD j 0)) := fun j hj => by
      have hj' : j < zs.length := by omega
      have hb := bounds_u8 (hwz _ (List.getElem_mem hj'))
      rw [hc j hj']
      simp only [List.getD_eq_getElem?_getD, List.getElem?_map, List.getElem?_take, if_pos hj, List.getElem?_eq_getElem hj', Option.map_some, Option.getD_some, V8, N8, BitVec.toNat_ofNat]
      congr 2
      omega
    exact ⟨g, o, rfl, lt_of_cell (hc 0 (by omega)), fun j hj => hcl j (by rw [hlen] at hj; exact hj)⟩
set_option maxRecDepth 100000 in
/-- An act that came in. -/
theorem cells_act {fuel : Nat} {cs : List Value} {x : DataW H × List MemPlace} (hlen : cs.length = 4) (h : DataW.trod enc Try.prog W b' spare held fuel 26 cs = some x) : ∃ q : AcT, AcOKT W q ∧ cs = tacells q := by
  obtain ⟨xs, k, _, _, _, hxl, hfl⟩ := DataW.trod_struct Try.underlying26 h
  match xs, hxl, cs, hlen with
  | [y0, y1, y2, y3], _, [v0, v1, v2, v3], _ =>
    have g0 := hfl 0 _ rfl
    have g1 := hfl 1 _ rfl
    have g2 := hfl 2 _ rfl
    have g3 := hfl 3 _ rfl
    simp [cellsTB, cellsB, cellsTI] at g0 g1 g2 g3
    obtain ⟨z0, e0, _, w0⟩ := DataW.trod_int Try.underlying5 g0
    obtain ⟨z1, e1, _, w1⟩ := DataW.trod_int Try.underlying3 g1
    obtain ⟨z2, e2, _, w2⟩ := DataW.trod_int Try.underlying3 g2
    obtain ⟨l3, sp3, c3, e3, k3, m3, s3⟩ := field_by g3
    have b0 := bounds_u8 w0
    have b1 := bounds_i64 w1
    have b2 := bounds_i64 w2
    simp at e0 e1 e2
    subst e0 e1 e2 e3
    refine ⟨⟨z0.toNat, z1, z2, l3, sp3, c3⟩, ⟨s3, k3, m3, by show z0.toNat < 256; omega, ⟨by show _ ≤ z1; omega, by show z1 < _; omega⟩, ⟨by show _ ≤ z2; omega, by show z2 < _; omega⟩⟩, ?_⟩
    show _ = [Value.int .u8 ((z0.toNat : Nat) : Int), _, _, _]
    rw [Int.toNat_of_nonneg b0.1]
set_option maxRecDepth 100000 in
theorem open_actsT {b : Nat} {v : Value} {d : DataW H} {p : List MemPlace} (ho : Value.okWide Try.prog W .any b 22 v) (h : DataW.Trod enc Try.prog W b' spare held 22 v d p) :
    ∃ (l : List AcT) (sp : Option Addr) (cap : Nat), v = .slice sp l.length cap ∧ l.length ≤ cap ∧ cap ≤ maxLen ∧ ActsT W sp l := by
  obtain ⟨a0, len, cap, rfl⟩ := okWide_slice Try.underlying22 ho
  obtain ⟨fuel, hf⟩ := h
  rcases open_slice Try.underlying22 hf with ⟨hcs, hx⟩ | ⟨a, len', cap', m, n, D, Pl, hcs, _, hl, hm, hmm, hx, hcell⟩
  · simp [Value.cells] at hcs
    obtain ⟨rfl, rfl, rfl⟩ := hcs
    exact ⟨[], none, 0, rfl, by simp, by unfold maxLen; omega, ⟨fun a ha => by simp at ha, fun h => absurd h (by simp)⟩⟩
  · simp [Value.cells] at hcs
    obtain ⟨rfl, rfl, rfl⟩ := hcs
    have hlm : len ≤ m := by rw [hmm]; split <;> omega
    have each : ∀ i, i < m → ∃ q : AcT, AcOKT W q ∧ ∀ j v, (tacells q)[j]? = some v → W.cell? (a.add (i * 4 + j)) = some v := by
      intro i hi
      obtain ⟨cs', h1, h2⟩ := hcell i hi
      rw [cellsTA] at h1
      obtain ⟨_, hlen, hcl⟩ := World.cells?_some h1
      obtain ⟨q, hq, e⟩ := cells_act (by omega) h2
      refine ⟨q, hq, fun j v hj => ?_⟩
      rw [← e] at hj
      have hjl : j < cs'.length := (List.getElem?_eq_some_iff.1 hj).1
      have hc := hcl j (by omega)
      rw [add_add, hj] at hc
      exact hc
    obtain ⟨q, hq⟩ := choose_lt each
    refine ⟨(List.range len).map q, some a, cap, by simp, by simpa using hl, hm, fun x hx => ?_, fun h0 => ?_⟩
    · obtain ⟨i, hi, rfl⟩ := List.mem_map.1 hx
      exact (hq i (by have := List.mem_range.1 hi; omega)).1
    · have h0' : 0 < len := by simpa using h0
      have h00 : (tacells (q 0))[0]? = some (.int .u8 ((q 0).d : Int)) := rfl
      obtain ⟨g, o, spot⟩ := a
      have hspot : spot = none := by simpa [Addr.add] using World.cell?_spot ((hq 0 (by omega)).2 0 _ h00)
      subst hspot
      refine ⟨g, o, rfl, ?_, fun i x hi j v hj => ?_⟩
      · have := (hq 0 (by omega)).2 0 _ h00
        rw [Addr.add_mid] at this
        exact lt_of_cell this
      · obtain ⟨hi1, hi2⟩ := List.getElem?_eq_some_iff.1 hi
        have hi' : i < len := by simpa using hi1
        have e : x = q i := by rw [← hi2]; simp
        subst e
        have hc := (hq i (by omega)).2 j v hj
        rw [Addr.add_mid] at hc
        rw [Nat.add_assoc]
        exact hc
end
theorem sizeTA : (Try.prog.info? 26).map (·.size) = some 4 := by kernel_rfl
theorem c_iaAc {ρ : Operand → Value} {o : Oper} {x y : Operand} {w : World} {g o' n cap k : Nat} (ho : o.op = .indexAddr 22 x y) (hx : ρ x = .slice (some ⟨g, o', none⟩) n cap) (hy : ρ y = .int .i64 (k : Int)) (hk : k < n ∧ n ≤ cap) :
    (execOp ρ o).run Try.prog w = .ok (.value (.pointer (some ⟨g, o' + k * 4, none⟩))) w := by
  have h1 : ¬ n ≤ k := by omega
  unfold execOp
  simp only [ho]
  go_simp
theorem c_ldAc {ρ : Operand → Value} {o : Oper} {x : Operand} {w : World} {g off : Nat} {a : AcT} (hr : w.rangeAt g off (tacells a)) (ho : o.op = .load 26 x) (hx : ρ x = .pointer (some ⟨g, off, none⟩)) : (execOp ρ o).run Try.prog w = .ok (.value (.agg (tacells a).toArray)) w :=
  c_ld (ty := 26) (cs := tacells a) ho hx hr Try.underlying26 rfl (by rw [sizeTA]; rfl)
theorem c_take_snoc {α : Type} {l : List α} {k : Nat} {x : α} (h : l[k]? = some x) : l.take (k + 1) = l.take k ++ [x] := by
  obtain ⟨hk, rfl⟩ := List.getElem?_eq_some_iff.1 h
  rw [List.take_succ_eq_append_getElem hk]
def greatB (l : List AcT) : Bool := decide (40 < l.length) || l.any (fun a => decide (2100 < a.b.length))
set_option maxRecDepth 100000 in
set_option maxHeartbeats 4000000 in
theorem great_go (l : List AcT) (sp : Option Addr) (cap : Nat) (hc : l.length ≤ cap) (w : World) (hA : ActsT w sp l) : Calls Try.prog 6 #[.slice sp l.length cap] w fun e w' => e = .returned (.bool (greatB l)) ∧ Below w.heap.size w w' := by
  obtain ⟨N, hN⟩ : ∃ N, l.length = N := ⟨_, rfl⟩
  rw [hN] at hc ⊢
  have HN := Lib.hid hN; have HC := Lib.hid hc; have HA := Lib.hid hA
  generalize hPost : (fun e w' => e = Ending.returned (.bool (greatB l)) ∧ Below w.heap.size w w') = Post
  have HPO : Hid (∀ b w', greatB l = b → Below w.heap.size w w' → Post (.returned (.bool b)) w') := Lib.hid fun b w' e h => by rw [← hPost, ← e]; exact ⟨rfl, h⟩
  clear hN hc hA hPost
  go_enter Try.func6, Try.ntmps6
  by_cases hb : 40 < N
  · have j1 : (40 : Int) < (N : Int) := by omega
    have HE := Lib.hid (HPO.out true w (by unfold greatB; rw [HN.out, decide_eq_true hb]; rfl) (Below.refl _ _))
    clear hb
    go_wp2_with fail
    first | exact HE.out | (go_ret; exact HE.out)
  · have j1 : ¬ (40 : Int) < (N : Int) := by omega
    have HB : Hid (N ≤ 40) := Lib.hid (by omega)
    clear hb
    go_wp2_with fail
    go_loopw [3] (fun i wr => ∃ k : Nat, k ≤ N ∧ i = .int .i64 (k : Int) ∧ (l.take k).any (fun a => decide (2100 < a.b.length)) = false ∧ Below w.heap.size w wr) (fun i _ => N - (intOf i).toNat)
    case atStart => exact ⟨0, by omega, rfl, by simp, Below.refl _ _⟩
    case round =>
      clear j1
      obtain ⟨k, hk, rfl, hno, hbw⟩ := hrel
      have HNO := Lib.hid hno; have HBW := Lib.hid hbw
      clear hno hbw
      have wk1 := IntWalk.i64_in ((k : Int) + 1) (by have := HB.out; omega)
      by_cases hlt : k < N
      · obtain ⟨q, hq⟩ : ∃ q, l[k]? = some q := ⟨_, List.getElem?_eq_getElem (by have := HN.out; omega)⟩
        obtain ⟨g, o, rfl, hg, hcl⟩ := HA.out.2 (by have := HN.out; omega)
        have HKC : Hid (k < N ∧ N ≤ cap) := Lib.hid ⟨hlt, HC.out⟩
        have HCE : Hid (wr.cell? ⟨g, o + k * 4 + 3, none⟩ = some (.slice q.sp q.b.length q.cap)) := Lib.hid (rng_below (hcl k q hq) HBW.out hg 3 _ rfl)
        have HTK : Hid ((l.take (k + 1)).any (fun a => decide (2100 < a.b.length)) = decide (2100 < q.b.length)) := Lib.hid (by
          rw [c_take_snoc hq, List.any_append, HNO.out]
          simp)
        have HAN : Hid (2100 < q.b.length → greatB l = true) := Lib.hid fun h => by
          unfold greatB
          rw [Bool.or_eq_true]
          exact .inr (List.any_eq_true.2 ⟨q, List.mem_of_getElem? hq, by simpa using h⟩)
        obtain ⟨m, hm⟩ : ∃ m, q.b.length = m := ⟨_, rfl⟩
        rw [hm] at HCE HTK HAN
        clear hq hg hcl hm
        by_cases hz : 2100 < m
        · have j2 : (2100 : Int) < (m : Int) := by omega
          have HE := Lib.hid (HPO.out true wr (HAN.out hz) HBW.out)
          clear hz
          go_wp2_with (first | (refine c_val rfl (c_iaAc rfl rfl rfl HKC.out) ?_) | (refine c_val rfl (c_ldB rfl rfl HCE.out) ?_) | fail)
          first | exact HE.out | (go_ret; exact HE.out)
        · have j2 : ¬ (2100 : Int) < (m : Int) := by omega
          have HT2 := Lib.hid (HTK.out.trans (decide_eq_false hz))
          clear hz
          go_wp2_with (first | (refine c_val rfl (c_iaAc rfl rfl rfl HKC.out) ?_) | (refine c_val rfl (c_ldB rfl rfl HCE.out) ?_) | fail)
          go_roundw
          case rel => exact ⟨k + 1, by omega, by go_num, HT2.out, HBW.out⟩
          case measure => simp [intOf]; omega
      · obtain rfl : N = k := by omega
        have hno : l.any (fun a => decide (2100 < a.b.length)) = false := by have := HNO.out; rw [List.take_of_length_le (by have := HN.out; omega)] at this; exact this
        have HE := Lib.hid (HPO.out false wr (by unfold greatB; rw [hno, HN.out, decide_eq_false (by have := HB.out; omega)]; rfl) HBW.out)
        clear hlt hk wk1 hno
        go_wp2_with fail
        first | exact HE.out | (go_ret; exact HE.out)
end Go.Proofs.Ythionhliokhcgaa
