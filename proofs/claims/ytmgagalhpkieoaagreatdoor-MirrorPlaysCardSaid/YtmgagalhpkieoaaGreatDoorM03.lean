/- What an address tells. -/
import Derived.Test.YtmgagalhpkieoaaGreatDoorM02
namespace Go.Proofs.YtmgagalhpkieoaaGreatDoor
open Go.RowKit

section
variable {ops : Array Oper} {rest : List Oper} {o : Oper} {a : Act} {Q : Exit → Act → World → Prop} {w : World}
theorem wpL_look (hg : o.guard = none) (m x : Operand) (hop : o.op = Op.lookup 139 m x false) {M ad : Nat} {mem : Nat → Bk} (hm : a.eval m = .map (some M)) (hx : a.eval x = .int .u16 (ad : Int)) (h : MapAt w M mem) (ha : ad < 65536)
    (hK : wpList Tryz.prog ops Q rest (a.put o.dst (BV (mem ad))) w) : wpList Tryz.prog ops Q (o :: rest) a w := by
  refine wpList_plain hg fun K' hK' => ?_
  have hrun := h.look ha
  unfold Oper.wp
  simp [execOp, hop, hm, hx, hrun, Result.andThen]
  exact hK' _ _ hK
theorem run_alloc89 (w : World) : (Instr.alloc 156 true (.tuple #[])).run Tryz.prog w = .ok (.pointer (some ⟨w.heap.size, 0, none⟩)) (w.alloc (.cells (bcells blank).toArray 156)) := by
  first
  | (simp [Instr.alloc, zero89, newVar, newRow, BV, Value.cells, Result.andThen]; done)
  | (simp [Instr.alloc, newVar, newRow, BV, Result.andThen]; exact congrArg (fun c => w.alloc (.cells c 156)) (by kernel_rfl))
theorem wpL_alloc89 (hg : o.guard = none) (hop : o.op = Op.alloc 156)
    (hK : ∀ w', Blk w' w.heap.size (bcells blank) 156 → Below w.heap.size w w' → wpList Tryz.prog ops Q rest (a.put o.dst (.pointer (some ⟨w.heap.size, 0, none⟩))) w') : wpList Tryz.prog ops Q (o :: rest) a w := by
  refine wpList_plain hg fun K' hK' => ?_
  have hrun := run_alloc89 w
  unfold Oper.wp
  simp [execOp, hop, hrun, Result.andThen]
  exact hK' _ _ (hK _ (Blk.new _ _ _) ((Below.refl _ _).alloc (Nat.le_refl _) _))
theorem size89 : (Tryz.prog.info? 156).map (·.size) = some 514 := by kernel_rfl
theorem bcells_length {k : Bk} (h : k.b.length = 512) : (bcells k).length = 514 := by simp [bcells, h]
theorem one_bcells (k : Bk) : (bcells k).toArray.all (·.oneCell') = true := by
  rw [Array.all_eq_true_iff_forall_mem]
  intro v hv
  simp only [bcells, List.mem_toArray, List.mem_append, List.mem_map, List.mem_cons, List.not_mem_nil, or_false] at hv
  rcases hv with ⟨x, _, rfl⟩ | rfl | rfl <;> rfl
theorem wpL_store89 (hg : o.guard = none) (x y : Operand) (hop : o.op = Op.store 156 x y) {g : Nat} {k k0 : Bk} (hx : a.eval x = .pointer (some ⟨g, 0, none⟩)) (hy : a.eval y = BV k) (hk : k.b.length = 512) (hk0 : k0.b.length = 512) (hb : Blk w g (bcells k0) 156)
    (hK : ∀ w', Blk w' g (bcells k) 156 → Chg (fun i => i = g) w w' → wpList Tryz.prog ops Q rest (a.put o.dst undef) w') : wpList Tryz.prog ops Q (o :: rest) a w :=
  wpList_store_row hg 156 x y hop g (bcells k).toArray hx hy 156 (bcells k0).toArray hb (by rw [size89]; simp [bcells_length hk]) (by simp [bcells_length hk, bcells_length hk0]) (one_bcells k)
    (hK _ (hb.row _) ((Chg.refl (fun i => i = g) w).setRow (.inl rfl) _))
end
theorem Blk.bad {w : World} {g : Nat} {k : Bk} (h : Blk w g (bcells k) 156) (hk : k.b.length = 512) : w.cell? ⟨g, 512, none⟩ = some (.bool k.bad) := by
  refine h.cell ?_
  unfold bcells
  rw [List.getElem?_append_right (by simp [hk])]
  simp [hk]
theorem Blk.stuck {w : World} {g : Nat} {k : Bk} (h : Blk w g (bcells k) 156) (hk : k.b.length = 512) : w.cell? ⟨g, 513, none⟩ = some (.bool k.stuck) := by
  refine h.cell ?_
  unfold bcells
  rw [List.getElem?_append_right (by simp [hk])]
  simp [hk]
theorem Blk.srcK {w : World} {g : Nat} {k : Bk} (h : Blk w g (bcells k) 156) : SrcA w (some ⟨g, 0, none⟩) k.b := fun _ => ⟨g, 0, rfl, h.lt, fun j hj => h.cell (by
  rw [Nat.zero_add]
  unfold bcells
  exact get_map_left V8 _ _ j hj 0)⟩
theorem Blk.srcB {w : World} {g : Nat} {b : d_Bs} (h : Blk w g (b.map V8) 5) : SrcA w (some ⟨g, 0, none⟩) b := fun _ => ⟨g, 0, rfl, h.lt, fun j hj => h.cell (by
  rw [Nat.zero_add]
  exact get_map V8 _ j hj 0)⟩
def lastOf (l : List (Nat × d_Bs)) (a : Nat) : Option d_Bs := l.foldl (fun r x => if x.1 = a then some x.2 else r) none
theorem lastOf_snoc (l : List (Nat × d_Bs)) (x : Nat × d_Bs) (a : Nat) : lastOf (l ++ [x]) a = if x.1 = a then some x.2 else lastOf l a := by
  simp [lastOf, List.foldl_append]
def tells (s : Dsk) (a : Nat) : Option d_Bs :=
  if (s.mem a).stuck then none else match lastOf s.cache a with | some b => some b | none => if (s.mem a).bad then none else some (s.mem a).b
def ToldB (w0 w : World) (v : Value) (t : Option d_Bs) : Prop :=
  match t with
  | none => v = .slice none 0 0
  | some b => ∃ g, v = .slice (some ⟨g, 0, none⟩) 512 512 ∧ b.length = 512 ∧ Blk w g (b.map V8) 5 ∧ w0.heap.size ≤ g
theorem crow_at (L : List (Nat × Nat × d_Bs)) (i : Nat) (x : Nat × Nat × d_Bs) (h : L[i]? = some x) : (crow L)[i * 2]? = some (Value.int .u16 (x.1 : Int)) ∧ (crow L)[i * 2 + 1]? = some (Value.slice (some ⟨x.2.1, 0, none⟩) 512 512) := by
  induction L generalizing i with
  | nil => simp at h
  | cons y L ih =>
    cases i with
    | zero =>
      simp at h
      subst h
      simp [crow]
    | succ i =>
      have := ih i (by simpa using h)
      have e : crow (y :: L) = [Value.int .u16 (y.1 : Int), Value.slice (some ⟨y.2.1, 0, none⟩) 512 512] ++ crow L := by simp [crow]
      rw [e, show (i + 1) * 2 = i * 2 + 2 by omega]
      constructor
      · rw [List.getElem?_append_right (by simp)]
        simpa using this.1
      · rw [List.getElem?_append_right (by simp)]
        simpa using this.2
theorem row_at {w : World} {g n cap : Nat} {sp : Option Addr} {L : List (Nat × Nat × d_Bs)} (h : w.ownsRow 0 187 2 (.slice sp n cap) L.length (crow L)) (hg : (Value.slice sp n cap).ownBlock = some g) {i : Nat} {x : Nat × Nat × d_Bs} (hx : L[i]? = some x) :
    sp = some ⟨g, 0, none⟩ ∧ w.cell? ⟨g, i * 2, none⟩ = some (.int .u16 (x.1 : Int)) ∧ w.cell? ⟨g, i * 2 + 1, none⟩ = some (.slice (some ⟨x.2.1, 0, none⟩) 512 512) := by
  have hc := h.cells hg
  obtain ⟨h1, h2⟩ := crow_at L i x hx
  have e1 := hc _ _ h1
  have e2 := hc _ _ h2
  rw [Addr.add_mid, Nat.zero_add] at e1 e2
  rcases h.2 with ⟨e, h0⟩ | ⟨g', c', cur, e, _⟩
  · have : i < L.length := (List.getElem?_eq_some_iff.1 hx).1
    omega
  · cases e
    simp [Value.ownBlock] at hg
    subst hg
    exact ⟨rfl, e1, e2⟩
theorem own512 (l : d_Bs) (sp : Option Addr) (cap : Nat) (w : World) (hl : l.length = 512) (hS : SrcA w sp l) :
    Calls Tryz.prog 103 #[.slice sp 512 cap] w fun e w' => e = .returned (.slice (some ⟨w.heap.size, 0, none⟩) 512 512) ∧ Blk w' w.heap.size (l.map V8) 5 ∧ Below w.heap.size w w' := by
  have h := own_any l sp cap w (by omega) hS
  rw [hl] at h
  exact h
theorem take_pred {l : List (Nat × d_Bs)} {L : List (Nat × Nat × d_Bs)} (h : L.map (fun x => (x.1, x.2.2)) = l) {i : Nat} {x : Nat × Nat × d_Bs} (hx : L[i]? = some x) : l.take (i + 1) = l.take i ++ [(x.1, x.2.2)] := by
  have h1 : l[i]? = some (x.1, x.2.2) := by rw [← h, List.getElem?_map, hx]; rfl
  obtain ⟨h2, h3⟩ := List.getElem?_eq_some_iff.1 h1
  rw [List.take_succ_eq_append_getElem h2, h3]
def TellRel (w2 : World) (l : List (Nat × d_Bs)) (ad : Nat) (i : Value) (wr : World) : Prop :=
  ∃ k : Nat, k ≤ l.length ∧ i = .int .i64 ((k : Int) - 1) ∧ lastOf (l.take k) ad = lastOf l ad ∧ Below w2.heap.size w2 wr
set_option maxRecDepth 100000 in
set_option maxHeartbeats 1000000 in
theorem tell_any (D Q : Nat) (S : Nat → Prop) (s : Dsk) (ad : Nat) (ha : ad < 65536) (w : World) (h : DkAt w D Q S s) (hcn : s.cache.length < 1000000) :
    Calls Tryz.prog 72 #[.pointer (some ⟨D, 0, none⟩), .int .u16 (ad : Int)] w fun e w' => ∃ v, e = .returned (.tuple #[v, .bool (tells s ad).isSome]) ∧ ToldB w w' v (tells s ad) ∧ Below w.heap.size w w' := by
  obtain ⟨M, v, to, h⟩ := h
  obtain ⟨c0, c1, c2, c3, c4, c5, c6, c7⟩ := h.c
  have H := Lib.hid h
  have hk : (s.mem ad).b.length = 512 := by obtain ⟨_, _, _, hh⟩ := h.map; exact hh ad
  have HK := Lib.hid hk
  have hD := h.blk.lt
  obtain ⟨sp, cap, rfl, hle, hmx⟩ := h.cache.form
  obtain ⟨N, hN⟩ : ∃ N, s.cache.length = N := ⟨_, rfl⟩
  have HN := Lib.hid hN
  rw [hN] at c3 hle hcn
  have hw := IntWalk.i64_in ((N : Int) - 1) (by omega)
  clear hN
  clear h c0 c1 c4 c5 c6 c7 hk
  obtain ⟨st, hst⟩ : ∃ st, (s.mem ad).stuck = st := ⟨_, rfl⟩
  obtain ⟨ba, hba⟩ : ∃ ba, (s.mem ad).bad = ba := ⟨_, rfl⟩
  have HST := Lib.hid hst
  have HBA := Lib.hid hba
  clear hst hba
  cases st
  · go_enter Tryz.func72, Tryz.ntmps72
    go_wp2_with (first
      | (at_lookup; refine wpL_look rfl _ _ rfl rfl rfl H.out.map ha ?_)
      | (refine wpL_alloc89 rfl rfl ?_; intro w1 hb1 hw1; have HB1 := Lib.hid hb1; have HW1 := Lib.hid hw1; clear hb1 hw1)
      | (refine wpL_store89 rfl _ _ rfl rfl rfl HK.out zeros_length HB1.out ?_; intro w2 hb2 hw2; have HB2 := Lib.hid hb2; have cs := hb2.stuck HK.out; rw [HST.out] at cs; have cb := hb2.bad HK.out; rw [HBA.out] at cb; have HW2 := Lib.hid (HW1.out.trans (hw2.below (B := w.heap.size) (fun k e => by omega) HW1.out.size)); clear hb2 hw2;
         have c32 : w2.cell? ⟨D, 3, none⟩ = some (.slice sp N cap) := (HW2.out.cell (p := ⟨D, 3, none⟩) hD).trans c3)
      | fail)
    have HR := Lib.hid (show TellRel w2 s.cache ad (.int .i64 ((N : Int) - 1)) w2 from ⟨N, by rw [HN.out]; exact Nat.le_refl _, rfl, by rw [← HN.out, List.take_length], Below.refl _ _⟩)
    go_loopw [7] (fun i wr => TellRel w2 s.cache ad i wr) (fun i _ => (intOf i + 1).toNat)
    case atStart => exact HR.out
    case round =>
      clear HR
      obtain ⟨k, hk, rfl, hlast, hbw⟩ := hrel
      have HBW := Lib.hid hbw
      have c3r : wr.cell? ⟨D, 3, none⟩ = some (.slice sp N cap) := (hbw.cell (p := ⟨D, 3, none⟩) (Nat.lt_of_lt_of_le hD HW2.out.size)).trans c32
      have HL := Lib.hid hlast
      clear hbw hlast
      by_cases h0 : k = 0
      · subst h0
        have cbr : wr.cell? ⟨w.heap.size, 512, none⟩ = some (.bool ba) := (HBW.out.cell (p := ⟨w.heap.size, 512, none⟩) HB2.out.lt).trans cb
        have hBr : Blk wr w.heap.size (bcells (s.mem ad)) 156 := HB2.out.below HBW.out HB2.out.lt
        have HBR := Lib.hid hBr
        clear hk hBr cb cs c32 c3r hw
        have hno : lastOf s.cache ad = none := HL.out.symm
        have HNO := Lib.hid hno
        clear hno
        cases ba
        · go_wp2_with (first | (go_at_call 103; refine (own512 (s.mem ad).b _ _ _ HK.out HBR.out.srcK).mono ?_; rintro e w3 ⟨rfl, hb3, hw3⟩; have HB3 := Lib.hid hb3; have HW3 := Lib.hid hw3; clear hb3 hw3) | fail)
          go_ret2
          have e : tells s ad = some (s.mem ad).b := by unfold tells; rw [HST.out, HNO.out, HBA.out]; rfl
          rw [e]
          exact ⟨_, rfl, ⟨_, rfl, HK.out, HB3.out, Nat.le_trans HW2.out.size HBW.out.size⟩, (HW2.out.trans (HBW.out.mono HW2.out.size)).trans (HW3.out.mono (Nat.le_trans HW2.out.size HBW.out.size))⟩
        · go_wp2_with fail
          go_ret2
          have e : tells s ad = none := by unfold tells; rw [HST.out, HNO.out, HBA.out]; rfl
          rw [e]
          exact ⟨_, rfl, rfl, HW2.out.trans (HBW.out.mono HW2.out.size)⟩
      · obtain ⟨L, e1, e2, e3⟩ := H.out.cache
        have hlen : L.length = s.cache.length := by rw [← e1, List.length_map]
        have hkl : k - 1 < L.length := by omega
        obtain ⟨x, hx⟩ : ∃ x, L[k - 1]? = some x := ⟨_, List.getElem?_eq_getElem hkl⟩
        have e3' : w.ownsRow 0 187 2 (.slice sp N cap) L.length (crow L) ∧ ∃ g, (Value.slice sp N cap).ownBlock = some g ∧ S g := by
          rw [HN.out] at e3
          rcases e3 with ⟨_, _, h⟩ | h
          · subst h; simp at hkl
          · exact h
        obtain ⟨e4, g, e5, e6⟩ := e3'
        obtain ⟨rfl, d0, d1⟩ := row_at e4 e5 hx
        have hg := H.out.lt g e6
        have d0r : wr.cell? ⟨g, (k - 1) * 2, none⟩ = some (.int .u16 (x.1 : Int)) := (HBW.out.cell (p := ⟨g, (k - 1) * 2, none⟩) (Nat.lt_of_lt_of_le hg HW2.out.size)).trans ((HW2.out.cell (p := ⟨g, (k - 1) * 2, none⟩) hg).trans d0)
        have d1r : wr.cell? ⟨g, (k - 1) * 2 + 1, none⟩ = some (.slice (some ⟨x.2.1, 0, none⟩) 512 512) := (HBW.out.cell (p := ⟨g, (k - 1) * 2 + 1, none⟩) (Nat.lt_of_lt_of_le hg HW2.out.size)).trans ((HW2.out.cell (p := ⟨g, (k - 1) * 2 + 1, none⟩) hg).trans d1)
        have HE1 := Lib.hid e1
        have HE2 := Lib.hid e2
        have HX := Lib.hid hx
        clear e1 e2 e3 e4 e5 hlen hkl hx d0 d1
        obtain ⟨i, rfl⟩ : ∃ i, k = i + 1 := ⟨k - 1, by omega⟩
        rw [Nat.add_sub_cancel] at d0r d1r
        clear h0
        have hiN : i < N := by have := HN.out; omega
        rw [Nat.add_sub_cancel] at HX
        have hw1 := IntWalk.i64_in ((i : Int) - 1) (by omega)
        obtain ⟨hx1, hx2, hx3, hx4⟩ := HE2.out x (List.mem_of_getElem? HX.out)
        have hxlt := H.out.lt _ hx4
        have hxb : Blk wr x.2.1 (x.2.2.map V8) 5 := (hx3.below HW2.out hxlt).below HBW.out (Nat.lt_of_lt_of_le hxlt HW2.out.size)
        have HXB := Lib.hid hxb
        have HX2 := Lib.hid hx2
        clear hx2 hx3 hx4 hxlt hxb cb cs c32
        by_cases hxa : x.1 = ad
        · have HXA := Lib.hid hxa
          have ht : ((x.1 : Int) == (ad : Int)) = true := by rw [hxa]; simp
          clear hxa
          go_wp2_with (first | (go_at_call 103; refine (own512 x.2.2 _ _ _ HX2.out (HXB.out.alloc _).srcB).mono ?_; rintro e w3 ⟨rfl, hb3, hw3⟩; have HB3 := Lib.hid hb3; have HW3 := Lib.hid hw3; clear hb3 hw3) | fail)
          go_ret2
          have e : tells s ad = some x.2.2 := by
            have e2 : lastOf s.cache ad = some x.2.2 := by
              rw [← HL.out, take_pred HE1.out HX.out, lastOf_snoc, if_pos HXA.out]
            unfold tells; rw [HST.out, e2]; rfl
          rw [e]
          have hs : w.heap.size ≤ wr.heap.size := Nat.le_trans HW2.out.size HBW.out.size
          exact ⟨_, rfl, ⟨_, rfl, HX2.out, by simpa using HB3.out, by omega⟩, ((HW2.out.trans (HBW.out.mono HW2.out.size)).alloc hs _).trans (HW3.out.mono (by simp; omega))⟩
        · have HXA := Lib.hid hxa
          have ht : ((x.1 : Int) == (ad : Int)) = false := by simp; omega
          clear hxa
          go_wp2_with fail
          go_roundw
          case rel =>
            refine ⟨i, by omega, rfl, ?_, HBW.out.alloc HBW.out.size _⟩
            rw [← HL.out, take_pred HE1.out HX.out, lastOf_snoc, if_neg HXA.out]
          case measure => simp [intOf]
  · go_enter Tryz.func72, Tryz.ntmps72
    go_wp2_with (first
      | (at_lookup; refine wpL_look rfl _ _ rfl rfl rfl H.out.map ha ?_)
      | (refine wpL_alloc89 rfl rfl ?_; intro w1 hb1 hw1; have HB1 := Lib.hid hb1; have HW1 := Lib.hid hw1; clear hb1 hw1)
      | (refine wpL_store89 rfl _ _ rfl rfl rfl HK.out zeros_length HB1.out ?_; intro w2 hb2 hw2; have cs := hb2.stuck HK.out; rw [HST.out] at cs; have HW2 := Lib.hid (HW1.out.trans (hw2.below (B := w.heap.size) (fun k e => by omega) HW1.out.size)); clear hb2 hw2)
      | fail)
    go_ret2
    have e : tells s ad = none := by unfold tells; rw [HST.out]; rfl
    rw [e]
    exact ⟨_, rfl, rfl, HW2.out⟩
end Go.Proofs.YtmgagalhpkieoaaGreatDoor
