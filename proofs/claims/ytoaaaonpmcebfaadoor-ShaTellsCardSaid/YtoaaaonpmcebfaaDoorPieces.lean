/- However bytes are cut, their digest is one: the law, walked. -/
import Derived.Test.YtoaaaonpmcebfaaDoorSl
import Derived.Deep.RegionLaw
import Derived.WalkSpells
namespace Go.Proofs.YtoaaaonpmcebfaaDoor
open Go.RowKit

theorem HashAt.lt {w : World} {H : Nat} {m : List (BitVec 8)} (h : HashAt w H m) : H < w.heap.size := by obtain ⟨_, _, h⟩ := h; exact h.lt
theorem HashAt.below {w W : World} {H B : Nat} {m : List (BitVec 8)} (h : HashAt w H m) (hb : Below B w W) (hB : H < B) : HashAt W H m := by
  obtain ⟨r, h1, h2⟩ := h; exact ⟨r, h1, h2.below hb hB⟩
/-- The numbers of a slice that came in. -/
def CutsAt (w : World) (sp : Option Addr) (qs : List Nat) : Prop :=
  0 < qs.length → ∃ g o, sp = some ⟨g, o, none⟩ ∧ g < w.heap.size ∧ ∀ i, i < qs.length → w.cell? ⟨g, o + i, none⟩ = some (.int .u16 ((qs.getD i 0 : Nat) : Int))
/-- What stands behind some pieces. -/
structure PcAt (bs : List (BitVec 8)) (w : World) (a : Nat) (wr : World) : Prop where
  h : HashAt wr w.heap.size (bs.take a)
  t : Tab wr
  b : Below w.heap.size w wr
theorem PcAt.below {bs : List (BitVec 8)} {w wr W : World} {a B : Nat} (h : PcAt bs w a wr) (hb : Below B wr W) (hB : w.heap.size < B) (h0 : 0 < w.heap.size) : PcAt bs w a W :=
  ⟨h.h.below hb hB, h.t.of_heap (hb.block 0 (by omega)), h.b.trans (hb.mono (by omega))⟩
theorem PcAt.lt {bs : List (BitVec 8)} {w wr : World} {a : Nat} (h : PcAt bs w a wr) : w.heap.size < wr.heap.size := h.h.lt
def Stable (S : World → Prop) : Prop := ∀ w w', S w → Below w.heap.size w w' → S w'
theorem PcAt.drw {bs : List (BitVec 8)} {w wr : World} {a : Nat} (h : PcAt bs w a wr) : PcAt bs w a wr.drew := ⟨h.h, h.t, h.b.drew⟩
theorem PcAt.stable (bs : List (BitVec 8)) (w : World) (a : Nat) (h0 : 0 < w.heap.size) : Stable (PcAt bs w a) := fun _ _ h hb => h.below hb h.lt h0

theorem slice_mid (sp : Option Addr) (L cap a n : Nat) (h : a + n ≤ L) (hc : L ≤ cap) : ∃ sp2, (∀ W : World, (Instr.sliceAt 22 (.slice sp L cap) (some (.int .i64 (a : Int))) (some (.int .i64 ((a : Int) + (n : Int)))) none).run Tryd.prog W = .ok (.slice sp2 n (cap - a)) W) ∧ (a < cap → sp2 = sp.map (·.add a)) ∧ (sp2 = none → sp = none) := by
  refine ⟨if cap = a then sp else sp.map (·.add a), fun W => ?_, fun h => if_neg (by omega), fun h => ?_⟩
  · rw [run_sliceAt_slice W 22 _ _ _ _ elem22, run_slice_lh W 22 sp L cap elem22 .i64 .i64 (a : Int) ((a : Int) + (n : Int)) (by omega) (by omega) (by omega), elem22', sizeOf5]
    have e1 : ((a : Int)).toNat = a := by omega
    have e2 : ((a : Int) + (n : Int)).toNat = a + n := by omega
    simp only [Result.andThen, sliced, e1, e2, Nat.mul_one]
    rw [show a + n - a = n by omega]
  · split at h
    · exact h
    · cases sp <;> simp at h ⊢
theorem src_mid {w : World} {sp sp2 : Option Addr} {bs : List (BitVec 8)} (h : SrcA w sp bs) (a n : Nat) (hn : a + n ≤ bs.length) (hs : 0 < n → sp2 = sp.map (·.add a)) : SrcA w sp2 ((bs.drop a).take n) := fun h0 => by
  have h1 : 0 < n := by simp at h0; omega
  obtain ⟨g, o, rfl, hg, hc⟩ := h (by omega)
  refine ⟨g, o + a, by rw [hs h1]; simp [Addr.add_mid], hg, fun j hj => ?_⟩
  have hj' : j < n ∧ a + j < bs.length := by simp at hj; omega
  rw [show o + a + j = o + (a + j) by omega, hc _ hj'.2]
  simp [List.getD_eq_getElem?_getD, hj'.1]
theorem mid_length (bs : List (BitVec 8)) (a n : Nat) (hn : a + n ≤ bs.length) : ((bs.drop a).take n).length = n := by simp; omega
theorem take_mid (bs : List (BitVec 8)) (a n : Nat) : bs.take a ++ (bs.drop a).take n = bs.take (a + n) := by rw [← List.take_add]

theorem owns_butFor {w W : World} {H B n : Nat} {v : Value} {xs : List Value} (h : w.ownsRow B 5 1 v n xs) (hb : ButFor H w W) (hH : H < B) : W.ownsRow B 5 1 v n xs := by
  refine ⟨h.1, ?_⟩
  rcases h.2 with hn | ⟨g, cap, cur, rfl, hbg, hg, rest⟩
  · exact .inl hn
  · exact .inr ⟨g, cap, cur, rfl, hbg, by rw [hb.block g (Array.getElem?_eq_some_iff.1 hg).1 (by omega)]; exact hg, rest⟩
theorem src_take {w : World} {sp : Option Addr} {bs : List (BitVec 8)} (h : SrcA w sp bs) (n : Nat) : SrcA w sp (bs.take n) := fun h0 => by
  obtain ⟨g, o, e, hg, hc⟩ := h (by simp at h0; omega)
  refine ⟨g, o, e, hg, fun j hj => ?_⟩
  have hj' : j < n ∧ j < bs.length := by simp at hj; omega
  rw [hc j hj'.2]
  simp [List.getD_eq_getElem?_getD, hj'.1]
section
variable {ops : Array Oper} {Q : Exit → Act → World → Prop} {S : World → Prop}
/-- A call that only says something, or leaves new memory. -/
theorem wpG_says {i : Nat} {r : Tr} {a : Act} {w : World} (o : Oper) (hi : ops.toList[i]? = some o) (hw : Region.wanted o (yielded ops a.tmps) = true) (f : FuncId) (args : Array Value) (hrun : ∀ w, (execOp a.eval o).run Tryd.prog w = .ok (.enter f args) w)
    (hst : Stable S) (hS : S w) (v : Value) (hc : Calls Tryd.prog f args w fun e w' => e = .returned v ∧ Below w.heap.size w w')
    (h : ∀ w', S w' → wpG Tryd.prog ops Q r S (a.put o.dst v) w') : wpG Tryd.prog ops Q (.step i r) S a w :=
  wpG_call o hi hw f args hrun (fun u _ => u = v) (hc.mono fun _ w' ⟨e1, hb⟩ => ⟨v, e1, hst _ _ hS hb, rfl⟩) fun u w' hS' hu => by
    subst hu
    exact ⟨S, fun _ h => h, hS', h w' hS'⟩
end
theorem ex_sliceTo {ρ : Operand → Value} {o : Oper} {x h : Operand} {sp : Option Addr} {l c n : Nat} {w : World} (ho : o.op = .slice 22 x none (some h) none) (hx : ρ x = .slice sp l c) (hh : ρ h = .int .i64 (n : Int)) (hn : n ≤ c) :
    (execOp ρ o).run Tryd.prog w = .ok (.value (.slice sp n c)) w := by
  have e : (Instr.sliceAt 22 (.slice sp l c) none (some (.int .i64 (n : Int))) none).run Tryd.prog w = .ok (.slice sp n c) w := by
    rw [run_sliceAt_slice w 22 _ _ _ _ elem22, run_slice_h w 22 sp l c elem22 .i64 n (by omega) (by omega), elem22', sizeOf5]
    have e : Option.map (fun x : Addr => x.add 0) sp = sp := by cases sp with | none => rfl | some a => cases a; simp [Addr.add]
    simp [Result.andThen, sliced, e]
  unfold execOp
  simp only [ho, hx, hh, Option.map_some, Option.map_none, Sem.run_bind, e, Result.andThen_ok, Sem.run_pure]
/-- At the end: the hash of all bytes; the digest, kept. -/
structure FinAt (bs : List (BitVec 8)) (w : World) (G : Nat) (W : World) : Prop where
  h : HashAt W w.heap.size bs
  t : Tab W
  b : Below w.heap.size w W
  g : Blk W G ((digest bs).map V8) 24
theorem FinAt.drw {bs : List (BitVec 8)} {w W : World} {G : Nat} (h : FinAt bs w G W) : FinAt bs w G W.drew := ⟨h.h, h.t, h.b.drew, h.g⟩
theorem FinAt.stable (bs : List (BitVec 8)) (w : World) (G : Nat) (h0 : 0 < w.heap.size) : Stable (FinAt bs w G) := fun _ _ h hb =>
  ⟨h.h.below hb h.h.lt, h.t.of_heap (hb.block 0 (by have := h.b.size; omega)), h.b.trans (hb.mono h.b.size), h.g.below hb h.g.lt⟩
theorem FinAt.row {bs : List (BitVec 8)} {w W : World} {G : Nat} (h : FinAt bs w G W) {ds : List Value} (hd : ds = (digest bs).map V8) : W.rangeAt G 0 ds := by
  subst hd; exact h.g.range 0 _ (fun j v hv => by rw [Nat.zero_add]; exact hv)
theorem fin_start {bs : List (BitVec 8)} {w w5 : World} {L : Nat} {ds : List Value} {z : Array Value} (h : PcAt bs w L w5) (hL : bs.length = L) (hd : (digest bs).map V8 = ds) (h0 : 0 < w.heap.size) :
    FinAt bs w w5.heap.size ((w5.alloc (.cells z 24)).setRow w5.heap.size ds.toArray) := by
  have hb : Below w5.heap.size w5 ((w5.alloc (.cells z 24)).setRow w5.heap.size ds.toArray) := below_row ((Below.refl _ _).alloc (Nat.le_refl _) _) (Nat.le_refl _) _
  have h1 := h.below hb h.lt h0
  refine ⟨by have := h1.h; rw [List.take_of_length_le (by omega)] at this; exact this, h1.t, h1.b, ?_⟩
  rw [hd]
  exact setRow_heap _ _ _ _ _ _ (heap_alloc_new _ _)
/-- An array that is read whole, taken first. -/
theorem wpG_row {ops : Array Oper} {Q : Exit → Act → World → Prop} {S : World → Prop} {i : Nat} {r : Tr} {a : Act} {w : World} (o : Oper) (hi : ops.toList[i]? = some o) (hw : Region.wanted o (yielded ops a.tmps) = true) (ty : TypeId) (x : Operand) (ho : o.op = .load ty x)
    (b : Nat) (hx : a.eval x = .pointer (some ⟨b, 0, none⟩)) (cs : List Value) (d : TypeDesc) (hc : ∀ w, S w → w.rangeAt b 0 cs) (hu : Tryd.prog.underlying ty = some d) (hd : d.isRow = true) (hinf : (Tryd.prog.info? ty).map (·.size) = some cs.length)
    (h : wpG Tryd.prog ops Q r S (a.put o.dst (.agg cs.toArray)) w) : wpG Tryd.prog ops Q (.take i r) S a w :=
  wpG_take o _ hi hw (fun w hS => by
    unfold execOp
    simp only [ho, hx, Sem.run_bind, run_loadAt_mid w b 0 ty cs d (hc w hS) hu hd hinf, Result.andThen_ok, Sem.run_pure]) h
theorem ex_rem5 {ρ : Operand → Value} {o : Oper} {x : Operand} {q : Nat} {k : TypeId} {w : World} (ho : o.op = .binOp .rem 34 x (.const (.int .u16 5)) k) (hx : ρ x = .int .u16 (q : Int)) (hy : ρ (.const (.int .u16 5)) = .int .u16 5) :
    (execOp ρ o).run Tryd.prog w = .ok (.value (.int .u16 ((q % 5 : Nat) : Int))) w := by
  have e : (q : Int).tmod 5 = (q : Int) % 5 := Int.tmod_eq_emod_of_nonneg (by omega)
  unfold execOp
  simp [go_sem, ho, hx, hy, e]
theorem ex_eq0 {ρ : Operand → Value} {o : Oper} {x : Operand} {q : Nat} {b : Bool} {k : TypeId} {w : World} (ho : o.op = .binOp .eql 34 x (.const (.int .u16 0)) k) (hx : ρ x = .int .u16 (q : Int)) (hy : ρ (.const (.int .u16 0)) = .int .u16 0) (hb : ((q : Int) == 0) = b) :
    (execOp ρ o).run Tryd.prog w = .ok (.value (.bool b)) w := by
  subst hb
  unfold execOp
  simp [go_sem, ho, hx, hy]
/-- The piece's own copy is written over. -/
def OverAt (B n : Nat) (v : Value) (w2 wr : World) : Prop := ∃ xs, wr.ownsRow B 5 1 v n xs ∧ Below B w2 wr

set_option maxRecDepth 100000 in
set_option maxHeartbeats 4000000 in
theorem shaPieces_body (bs : List (BitVec 8)) (sp : Option Addr) (cap : Nat) (qs : List Nat) (sp2 : Option Addr) (cap2 : Nat) (w : World) (hl : bs.length ≤ 4000) (hq : qs.length ≤ 100) (hc : bs.length ≤ cap) (hcm : cap ≤ 9223372036854775807) (hz : sp = none → cap = 0) (hS : SrcA w sp bs) (hQ : CutsAt w sp2 qs) (hq16 : ∀ i, i < qs.length → qs.getD i 0 < 65536) (hT : Tab w) :
    Calls Tryd.prog 6 #[.slice sp bs.length cap, .slice sp2 qs.length cap2] w fun e w' => e = .returned (.bool true) ∧ Below w.heap.size w w' := by
  obtain ⟨L, hL⟩ : ∃ L, bs.length = L := ⟨_, rfl⟩
  obtain ⟨C, hC⟩ : ∃ C, qs.length = C := ⟨_, rfl⟩
  have hw0 : 0 < w.heap.size := hT.lt
  have HL := Lib.hid hL
  have HC := Lib.hid hC
  have HS := Lib.hid hS
  have HQ := Lib.hid hQ
  have HQ16 := Lib.hid hq16
  have HZ := Lib.hid hz
  have HT := Lib.hid hT
  rw [hL] at hl hc ⊢
  rw [hC] at hq ⊢
  clear hL hC hS hQ hq16 hz hT
  go_enter Tryd.func6, Tryd.ntmps6
  go_wp2_with fail
  refine (new_any _).mono ?_
  rintro e0 w1 ⟨rfl, hw1⟩
  have hP0 : PcAt bs w 0 w1 := by
    subst hw1
    have h0 : HashAt (w.alloc (.cells (hcells H0 (List.replicate 64 0#8) 0).toArray 45)) w.heap.size [] := ⟨List.replicate 64 0#8, ⟨rfl, rfl⟩, Blk.new w (hcells H0 (List.replicate 64 0#8) 0) 45⟩
    exact ⟨by rw [List.take_zero]; exact h0, Tab.alloc HT.out _, (Below.refl _ _).alloc (Nat.le_refl _) _⟩
  have HP0 := Lib.hid hP0
  clear hP0 hw1
  go_wp2
  go_loopw [6, 7] (fun s i wr => ∃ a k : Nat, a ≤ L ∧ k ≤ C ∧ s = .int .i64 a ∧ i = .int .i64 k ∧ PcAt bs w a wr) (fun _ i _ => C - (intOf i).toNat)
  case atStart => exact ⟨0, 0, by omega, by omega, rfl, rfl, HP0.out⟩
  case round =>
    clear HP0
    obtain ⟨wo, rfl⟩ : ∃ W : World, W = wr := ⟨_, rfl⟩
    obtain ⟨a, k, ha, hk, rfl, rfl, hp⟩ := hrel
    have HP := Lib.hid hp
    by_cases hlt : k < C
    · obtain ⟨g2, o2, rfl, hg2, hcut⟩ := HQ.out (by rw [HC.out]; omega)
      obtain ⟨q, hqe⟩ : ∃ q, qs.getD k 0 = q := ⟨_, rfl⟩
      have q16 := HQ16.out k (by rw [HC.out]; exact hlt)
      have ck := (hp.b.cell (p := ⟨g2, o2 + k, none⟩) hg2).trans (hcut k (by rw [HC.out]; exact hlt))
      have HCK : Hid (∀ W, Below w.heap.size w W → W.cell? ⟨g2, o2 + k, none⟩ = some (.int .u16 (q : Int))) := Lib.hid (fun W hW => by rw [← hqe]; exact (hW.cell (p := ⟨g2, o2 + k, none⟩) hg2).trans (hcut k (by rw [HC.out]; exact hlt)))
      rw [hqe] at ck q16
      obtain ⟨n, hn⟩ : ∃ n, q % (L - a + 1) = n := ⟨_, rfl⟩
      have hnl : n ≤ L - a := by have := Nat.mod_lt q (show 0 < L - a + 1 by omega); omega
      have hnm : (q : Int).tmod ((L : Int) - (a : Int) + 1) = (n : Int) := by
        rw [Int.tmod_eq_emod_of_nonneg (by omega), ← hn, show (L : Int) - (a : Int) + 1 = ((L - a + 1 : Nat) : Int) by omega]; simp
      have hnm2 : (q : Int) % ((L : Int) - (a : Int) + 1) = (n : Int) := by
        rw [← hn, show (L : Int) - (a : Int) + 1 = ((L - a + 1 : Nat) : Int) by omega]; simp
      have e1 := IntWalk.i64_in ((L : Int) - (a : Int)) (by omega)
      have e2 := IntWalk.i64_in ((L : Int) - (a : Int) + 1) (by omega)
      have e3 := IntWalk.i64_in ((a : Int) + (n : Int)) (by omega)
      have e4 := IntWalk.i64_in (q : Int) (by omega)
      have z1 : ¬ ((L : Int) - (a : Int) + 1 = 0) := by omega
      have z2 : ((L : Int) - (a : Int) + 1 == 0) = false := by rw [beq_eq_false_iff_ne]; omega
      obtain ⟨sp3, s1, s2, s3⟩ := slice_mid sp L cap a n (by omega) hc
      have HS2 := Lib.hid s2
      have HS3 := Lib.hid s3
      have HSM : Hid (SrcA wo sp3 ((bs.drop a).take n)) := Lib.hid (src_mid (HS.out.below hp.b (Nat.le_refl _)) a n (by rw [HL.out]; omega) (fun h0 => s2 (by omega)))
      have HML : Hid (((bs.drop a).take n).length = n) := Lib.hid (mid_length bs a n (by rw [HL.out]; omega))
      have HZ3 : Hid (sp3 = none → cap - a = 0) := Lib.hid (fun h => by have := HZ.out (s3 h); omega)
      clear hcut hqe hn s2 s3 hp
      go_wp2_with (first
        | (at_builtin; refine wpList_append_nil rfl _ (.tmp 44) rfl rfl sp3 (cap - a) ((bs.drop a).take n) (by rw [HML.out]; rfl) (by rw [HML.out]; omega) HZ3.out HSM.out (by rw [HML.out]; omega) ?_; intro v w2 hown hb _; have HO := Lib.hid hown; have HB := Lib.hid hb; clear hown hb)
        | fail)
      obtain ⟨sp4, cap4, rfl, hc4, hm4, hs4, _, ha4⟩ := OwnB.form HO.out
      have hown2 := HO.out
      unfold OwnB at hown2
      rw [HML.out] at hown2 hc4 ⊢
      have HO2 := Lib.hid hown2
      have HP2 : Hid (PcAt bs w a w2) := Lib.hid (HP.out.below HB.out HP.out.lt hw0)
      have hlt0 : w.heap.size < wo.heap.size := HP.out.lt
      have HSrc : Hid (Src w2 w.heap.size sp4 ((bs.drop a).take n)) := Lib.hid (fun h0 => by
        obtain ⟨g, o, e, hg, hcl⟩ := hs4 h0
        exact ⟨g, o, e, by have := (ha4 _ e).1; simp at this; omega, hg, hcl⟩)
      have hw := write_any w.heap.size (bs.take a) ((bs.drop a).take n) sp4 cap4 w2 (by have := HL.out; simp; omega) (by rw [HML.out]; exact hc4) (by unfold maxLen at hm4; omega) HP2.out.h HSrc.out HP2.out.t (by omega)
      rw [HML.out, take_mid] at hw
      have HW := Lib.hid hw
      clear hown2 hs4 ha4 hw hc4 hm4 HO
      refine HW.out.mono ?_
      rintro e3' w3 ⟨rfl, hh3, hbf3, ht3⟩
      have HP3 : Hid (PcAt bs w (a + n) w3) := Lib.hid ⟨hh3, ht3, HP2.out.b.trans (hbf3.below (Nat.le_refl _) HP2.out.b.size)⟩
      have HO3 : Hid (OverAt wo.heap.size n (.slice sp4 n cap4) w3 w3) := Lib.hid ⟨_, owns_butFor HO2.out hbf3 hlt0, Below.refl _ _⟩
      have hsz3 : wo.heap.size ≤ w3.heap.size := Nat.le_trans HB.out.size hbf3.size
      clear hh3 hbf3 ht3 HW HO2 HSrc HP2
      go_wp2
      go_loopw [10] (fun i wr5 => ∃ j : Nat, j ≤ n ∧ i = .int .i64 j ∧ OverAt wo.heap.size n (.slice sp4 n cap4) w3 wr5) (fun i _ => n - (intOf i).toNat)
      case atStart => exact ⟨0, by omega, rfl, HO3.out⟩
      case round =>
        clear HO3
        obtain ⟨wr5, rfl⟩ : ∃ W : World, W = wr := ⟨_, rfl⟩
        obtain ⟨j, hj, rfl, xs, hox, hbx⟩ := hrel
        by_cases hlt2 : j < n
        · have hox2 := hox.2
          rcases hox2 with ⟨_, hn0⟩ | ⟨g, cap5, cur, hv, hgB, hgc, _, _, _, _⟩
          · omega
          · obtain ⟨rfl, _, rfl⟩ : sp4 = some ⟨g, 0, none⟩ ∧ n = n ∧ cap4 = cap5 := by simpa using hv
            obtain ⟨st1, st2⟩ := hox.stored j (.int .u8 77)
            have HST := Lib.hid (show OverAt wo.heap.size n (.slice (some ⟨g, 0, none⟩) n cap4) w3 (wr5.setCell ⟨g, j, none⟩ (.int .u8 77)) from ⟨_, st1, hbx.setCell hgB _⟩)
            have cj := hox.cellAt j (by omega)
            have hlx := hox.1
            rw [List.getElem?_eq_getElem (by omega)] at cj
            have fj := hox.frozenAt j
            generalize xs[j] = xj at cj
            clear st1 st2 hv hgc hlx hox hbx
            go_wp2
            go_roundw
            case rel => exact ⟨j + 1, by omega, by go_num, HST.out⟩
            case measure => simp [intOf]; omega
        · obtain rfl : n = j := by omega
          have HP5 : Hid (PcAt bs w (a + n) wr5) := Lib.hid (HP3.out.below hbx hlt0 hw0)
          clear hox hbx hlt2 hj
          go_wp2
          by_cases h5 : q % 5 = 0
          · obtain ⟨D, hD⟩ : ∃ D, ((digest (bs.take (a + n))).map V8).toArray = D := ⟨_, rfl⟩
            have HTL : Hid ((bs.take (a + n)).length = a + n) := Lib.hid (by have := HL.out; simp; omega)
            have HEQ : Hid (∀ W, (Op.equalIn 10000 24 (.agg D) (.agg D)).run Tryd.prog W = .ok true W) := Lib.hid (fun W => by rw [← hD, run_eq24 _ _ (digest_length _) (digest_length _) W]; simp)
            have HSUMH : Hid (∀ W, PcAt bs w (a + n) W → Calls Tryd.prog 14 #[.pointer (some ⟨w.heap.size, 0, none⟩)] W fun e W' => e = .returned (.agg D) ∧ Below W.heap.size W W') := Lib.hid (fun W hW => by rw [← hD]; exact hashSum_any w.heap.size (bs.take (a + n)) W (by rw [HTL.out]; omega) hW.h hW.t)
            have HSUM : Hid (∀ W, PcAt bs w (a + n) W → Calls Tryd.prog 9 #[.slice sp (a + n) cap] W fun e W' => e = .returned (.agg D) ∧ Below W.heap.size W W') := Lib.hid (fun W hW => by
              have h := shaSum_any (bs.take (a + n)) sp cap W (by rw [HTL.out]; omega) (by rw [HTL.out]; omega) (by omega) (src_take (HS.out.below hW.b (Nat.le_refl _)) _) hW.t
              rw [HTL.out, hD] at h; exact h)
            have HQ5 : Hid ((((q % 5 : Nat) : Int) == 0) = true) := Lib.hid (by rw [h5]; rfl)
            clear hD h5
            refine wp_region_sched (.take 0 (.take 1 (.take 2 (.take 3 (.take 4 (.take 5 (.take 6 (.take 7 (.take 9 (.take 10 (.take 11 (.step 8 (.step 12 (.take 13 (.take 14 (.nil)))))))))))))))) (by kernel_rfl) (by kernel_rfl) (fun d _ _ _ _ h => by cases d <;> exact h) (PcAt bs w (a + n)) (HP5.out.drw) ?_
            refine wpG_take _ (Value.slice (some ⟨g2, o2, none⟩) C cap2) rfl (by rfl) (fun W hW => by rfl) ?_
            (try simp only [Act.put, List.setIfInBounds_toArray, List.set_cons_zero, List.set_cons_succ])
            refine wpG_take _ (.int .i64 (k : Int)) rfl (by rfl) (fun W hW => by rfl) ?_
            (try simp only [Act.put, List.setIfInBounds_toArray, List.set_cons_zero, List.set_cons_succ])
            refine wpG_take _ (.pointer (some ⟨g2, o2 + k, none⟩)) rfl (by rfl) (fun W hW => by go_simp) ?_
            (try simp only [Act.put, List.setIfInBounds_toArray, List.set_cons_zero, List.set_cons_succ])
            refine wpG_take _ (.int .u16 (q : Int)) rfl (by rfl) (fun W hW => by have hck := HCK.out W hW.b; go_simp) ?_
            (try simp only [Act.put, List.setIfInBounds_toArray, List.set_cons_zero, List.set_cons_succ])
            refine wpG_take _ (.int .u16 ((q % 5 : Nat) : Int)) rfl (by rfl) (fun W hW => ex_rem5 rfl rfl rfl) ?_
            (try simp only [Act.put, List.setIfInBounds_toArray, List.set_cons_zero, List.set_cons_succ])
            refine wpG_take _ (.bool true) rfl (by rfl) (fun W hW => ex_eq0 rfl rfl rfl HQ5.out) ?_
            (try simp only [Act.put, List.setIfInBounds_toArray, List.set_cons_zero, List.set_cons_succ])
            refine wpG_take _ (.bool true) rfl (by rfl) (fun W hW => by rfl) ?_
            (try simp only [Act.put, List.setIfInBounds_toArray, List.set_cons_zero, List.set_cons_succ])
            refine wpG_take _ (.pointer (some ⟨w.heap.size, 0, none⟩)) rfl (by rfl) (fun W hW => by rfl) ?_
            (try simp only [Act.put, List.setIfInBounds_toArray, List.set_cons_zero, List.set_cons_succ])
            refine wpG_take _ (Value.slice sp L cap) rfl (by rfl) (fun W hW => by rfl) ?_
            (try simp only [Act.put, List.setIfInBounds_toArray, List.set_cons_zero, List.set_cons_succ])
            refine wpG_take _ (.int .i64 ((a + n : Nat) : Int)) rfl (by rfl) (fun W hW => by rfl) ?_
            (try simp only [Act.put, List.setIfInBounds_toArray, List.set_cons_zero, List.set_cons_succ])
            refine wpG_take _ (Value.slice sp (a + n) cap) rfl (by rfl) (fun W hW => by exact ex_sliceTo rfl rfl rfl (by omega)) ?_
            (try simp only [Act.put, List.setIfInBounds_toArray, List.set_cons_zero, List.set_cons_succ])
            refine wpG_says _ rfl (by rfl) 14 #[.pointer (some ⟨w.heap.size, 0, none⟩)] (fun _ => by go_simp) (PcAt.stable bs w (a + n) hw0) HP5.out.drw (.agg D) (HSUMH.out _ HP5.out.drw) ?_
            intro w6 hp6; have HP6 := Lib.hid hp6; clear hp6
            (try simp only [Act.put, List.setIfInBounds_toArray, List.set_cons_zero, List.set_cons_succ])
            refine wpG_says _ rfl (by rfl) 9 #[.slice sp (a + n) cap] (fun _ => by go_simp) (PcAt.stable bs w (a + n) hw0) HP6.out (.agg D) (HSUM.out _ HP6.out) ?_
            intro w7 hp7; have HP7 := Lib.hid hp7; clear hp7
            (try simp only [Act.put, List.setIfInBounds_toArray, List.set_cons_zero, List.set_cons_succ])
            refine wpG_take _ (.bool false) rfl (by rfl) (fun W hW => by have hq := HEQ.out W; go_simp) ?_
            (try simp only [Act.put, List.setIfInBounds_toArray, List.set_cons_zero, List.set_cons_succ])
            refine wpG_take _ (.bool false) rfl (by rfl) (fun W hW => by rfl) ?_
            (try simp only [Act.put, List.setIfInBounds_toArray, List.set_cons_zero, List.set_cons_succ])
            refine wpG_nil ?_
            go_wp2
            go_roundw
            case rel => exact ⟨a + n, k + 1, by omega, by omega, by go_num, by go_num, HP7.out⟩
            case measure => simp [intOf]; omega
          · have HQ5 : Hid ((((q % 5 : Nat) : Int) == 0) = false) := Lib.hid (by rw [beq_eq_false_iff_ne]; omega)
            clear h5
            refine wp_region_sched (.take 0 (.take 1 (.take 2 (.take 3 (.take 4 (.take 5 (.take 6 (.take 7 (.take 9 (.take 10 (.take 11 (.step 8 (.step 12 (.take 13 (.take 14 (.nil)))))))))))))))) (by kernel_rfl) (by kernel_rfl) (fun d _ _ _ _ h => by cases d <;> exact h) (PcAt bs w (a + n)) (HP5.out.drw) ?_
            refine wpG_take _ (Value.slice (some ⟨g2, o2, none⟩) C cap2) rfl (by rfl) (fun W hW => by rfl) ?_
            (try simp only [Act.put, List.setIfInBounds_toArray, List.set_cons_zero, List.set_cons_succ])
            refine wpG_take _ (.int .i64 (k : Int)) rfl (by rfl) (fun W hW => by rfl) ?_
            (try simp only [Act.put, List.setIfInBounds_toArray, List.set_cons_zero, List.set_cons_succ])
            refine wpG_take _ (.pointer (some ⟨g2, o2 + k, none⟩)) rfl (by rfl) (fun W hW => by go_simp) ?_
            (try simp only [Act.put, List.setIfInBounds_toArray, List.set_cons_zero, List.set_cons_succ])
            refine wpG_take _ (.int .u16 (q : Int)) rfl (by rfl) (fun W hW => by have hck := HCK.out W hW.b; go_simp) ?_
            (try simp only [Act.put, List.setIfInBounds_toArray, List.set_cons_zero, List.set_cons_succ])
            refine wpG_take _ (.int .u16 ((q % 5 : Nat) : Int)) rfl (by rfl) (fun W hW => ex_rem5 rfl rfl rfl) ?_
            (try simp only [Act.put, List.setIfInBounds_toArray, List.set_cons_zero, List.set_cons_succ])
            refine wpG_take _ (.bool false) rfl (by rfl) (fun W hW => ex_eq0 rfl rfl rfl HQ5.out) ?_
            (try simp only [Act.put, List.setIfInBounds_toArray, List.set_cons_zero, List.set_cons_succ])
            refine wpG_take _ (.bool false) rfl (by rfl) (fun W hW => by rfl) ?_
            (try simp only [Act.put, List.setIfInBounds_toArray, List.set_cons_zero, List.set_cons_succ])
            refine wpG_pass _ rfl (by rfl) ?_
            (try simp only [Act.put, List.setIfInBounds_toArray, List.set_cons_zero, List.set_cons_succ])
            refine wpG_pass _ rfl (by rfl) ?_
            (try simp only [Act.put, List.setIfInBounds_toArray, List.set_cons_zero, List.set_cons_succ])
            refine wpG_pass _ rfl (by rfl) ?_
            (try simp only [Act.put, List.setIfInBounds_toArray, List.set_cons_zero, List.set_cons_succ])
            refine wpG_pass _ rfl (by rfl) ?_
            (try simp only [Act.put, List.setIfInBounds_toArray, List.set_cons_zero, List.set_cons_succ])
            refine wpG_skip _ rfl (by rfl) HP5.out.drw ?_
            (try simp only [Act.put, List.setIfInBounds_toArray, List.set_cons_zero, List.set_cons_succ])
            refine wpG_skip _ rfl (by rfl) HP5.out.drw ?_
            (try simp only [Act.put, List.setIfInBounds_toArray, List.set_cons_zero, List.set_cons_succ])
            refine wpG_pass _ rfl (by rfl) ?_
            (try simp only [Act.put, List.setIfInBounds_toArray, List.set_cons_zero, List.set_cons_succ])
            refine wpG_take _ (.bool false) rfl (by rfl) (fun W hW => by rfl) ?_
            (try simp only [Act.put, List.setIfInBounds_toArray, List.set_cons_zero, List.set_cons_succ])
            refine wpG_nil ?_
            have HP7 : Hid (PcAt bs w (a + n) wr5.drew) := Lib.hid HP5.out.drw
            go_wp2
            go_roundw
            case rel => exact ⟨a + n, k + 1, by omega, by omega, by go_num, by go_num, HP7.out⟩
            case measure => simp [intOf]; omega
    · obtain rfl : k = C := by omega
      have hsp := HS.out
      obtain ⟨sp5, f1, f2⟩ := slice22 sp L cap a ha hc
      have HDL : Hid ((bs.drop a).length = L - a) := Lib.hid (by have := HL.out; simp; omega)
      have HSR : Hid (Src wo w.heap.size sp5 (bs.drop a)) := Lib.hid (fun h0 => by
        rw [HDL.out] at h0
        obtain ⟨g, o, e, hg, hcl⟩ := hsp (by rw [HL.out]; omega)
        refine ⟨g, o + a, by rw [f2 (by omega), e]; simp [Addr.add_mid], by omega, Nat.lt_of_lt_of_le hg hp.b.size, fun j hj => ?_⟩
        rw [HDL.out] at hj
        rw [hp.b.cell (p := ⟨g, o + a + j, none⟩) hg, show o + a + j = o + (a + j) by omega, hcl _ (by rw [HL.out]; omega)]
        simp [List.getD_eq_getElem?_getD])
      have hw := write_any w.heap.size (bs.take a) (bs.drop a) sp5 (cap - a) wo (by rw [HDL.out]; simp; omega) (by rw [HDL.out]; omega) (by omega) HP.out.h HSR.out HP.out.t (by omega)
      rw [HDL.out, List.take_append_drop] at hw
      have HW := Lib.hid hw
      have hps := hp.b.size
      clear hw hsp hp hlt hk
      go_wp2_with fail
      refine HW.out.mono ?_
      rintro e4 w4 ⟨rfl, hh4, hb4, ht4⟩
      have HP4 : Hid (PcAt bs w L w4) := Lib.hid ⟨by rw [List.take_of_length_le (by have := HL.out; omega)]; exact hh4, ht4, HP.out.b.trans (hb4.below (Nat.le_refl _) hps)⟩
      have hsum := hashSum_any w.heap.size bs w4 (by rw [HL.out]; omega) hh4 ht4
      have HSM := Lib.hid hsum
      clear hh4 hb4 ht4 hsum HSR HW
      go_wp2_with fail
      refine HSM.out.mono ?_
      rintro e5 w5 ⟨rfl, hb5⟩
      have HP5 : Hid (PcAt bs w L w5) := Lib.hid (HP4.out.below hb5 HP4.out.lt hw0)
      clear hb5
      obtain ⟨ds, hds⟩ : ∃ ds, (digest bs).map V8 = ds := ⟨_, rfl⟩
      have HI24 : Hid ((Tryd.prog.info? 24).map (·.size) = some ds.length) := Lib.hid (by rw [← hds, info24]; simp [digest_length])
      have HD32 : Hid (ds.toArray.size = 32) := Lib.hid (by rw [← hds]; simp [digest_length])
      have HON : Hid (ds.toArray.all (·.oneCell') = true) := Lib.hid (by rw [← hds]; exact one_ints V8 (fun _ => rfl) _)
      have HI24b : Hid ((Tryd.prog.info? 24).map (·.size) = some ds.toArray.size) := Lib.hid (by rw [HI24.out]; simp)
      rw [hds]
      have HEQ : Hid (∀ W, (Op.equalIn 10000 24 (.agg ds.toArray) (.agg ds.toArray)).run Tryd.prog W = .ok true W) := Lib.hid (fun W => by rw [← hds, run_eq24 _ _ (digest_length _) (digest_length _) W]; simp)
      have HSUMH : Hid (∀ G W, FinAt bs w G W → Calls Tryd.prog 14 #[.pointer (some ⟨w.heap.size, 0, none⟩)] W fun e W' => e = .returned (.agg ds.toArray) ∧ Below W.heap.size W W') := Lib.hid (fun G W hW => by rw [← hds]; exact hashSum_any w.heap.size bs W (by rw [HL.out]; omega) hW.h hW.t)
      have HSUM : Hid (∀ G W, FinAt bs w G W → Calls Tryd.prog 9 #[.slice sp L cap] W fun e W' => e = .returned (.agg ds.toArray) ∧ Below W.heap.size W W') := Lib.hid (fun G W hW => by
        have h := shaSum_any bs sp cap W (by rw [HL.out]; omega) (by rw [HL.out]; omega) (by omega) (HS.out.below hW.b (Nat.le_refl _)) hW.t
        rw [HL.out, hds] at h; exact h)
      go_wp2_with (first
        | (refine wpList_store_row rfl 24 (.tmp 11) (.tmp 82) rfl w5.heap.size _ rfl rfl 24 _ (heap_alloc_new _ _) HI24b.out (by first | (rw [HD32.out]; done) | (rw [HD32.out]; rfl)) HON.out ?_; refine (fun (q : ∀ W, FinAt bs w w5.heap.size W → wpList _ _ _ _ _ W) => q _ (fin_start HP5.out HL.out hds hw0)) ?_; intro w6 hf6; have HF6 := Lib.hid hf6; clear hf6)
        | fail)
      have HDS : Hid (ds = (digest bs).map V8) := Lib.hid hds.symm
      clear hds
      generalize w5.heap.size = G at *
      refine wp_region_sched (.take 0 (.take 1 (.step 2 (.take 3 (.take 4 (.take 5 (.take 7 (.step 6 (.take 8 (.take 9 (.take 10 (.step 11 (.take 12 (.take 13 (.nil))))))))))))))) (by kernel_rfl) (by kernel_rfl) (fun d _ _ _ _ h => by cases d <;> exact h) (FinAt bs w G) (HF6.out.drw) ?_
      refine wpG_row _ rfl (by rfl) 24 (.tmp 11) rfl G rfl ds _ (fun W hW => hW.row HDS.out) Tryd.underlying24 rfl HI24.out ?_
      (try simp only [Act.put, List.setIfInBounds_toArray, List.set_cons_zero, List.set_cons_succ])
      refine wpG_take _ (Value.slice sp L cap) rfl (by rfl) (fun W hW => by rfl) ?_
      (try simp only [Act.put, List.setIfInBounds_toArray, List.set_cons_zero, List.set_cons_succ])
      refine wpG_says _ rfl (by rfl) 9 #[.slice sp L cap] (fun _ => by go_simp) (FinAt.stable bs w G hw0) HF6.out.drw (.agg ds.toArray) (HSUM.out _ _ HF6.out.drw) ?_
      intro w7 hp7; have HF7 := Lib.hid hp7; clear hp7
      (try simp only [Act.put, List.setIfInBounds_toArray, List.set_cons_zero, List.set_cons_succ])
      refine wpG_take _ (.bool true) rfl (by rfl) (fun W hW => by have hq := HEQ.out W; go_simp) ?_
      (try simp only [Act.put, List.setIfInBounds_toArray, List.set_cons_zero, List.set_cons_succ])
      refine wpG_take _ (.bool true) rfl (by rfl) (fun W hW => by rfl) ?_
      (try simp only [Act.put, List.setIfInBounds_toArray, List.set_cons_zero, List.set_cons_succ])
      refine wpG_take _ (.pointer (some ⟨w.heap.size, 0, none⟩)) rfl (by rfl) (fun W hW => by rfl) ?_
      (try simp only [Act.put, List.setIfInBounds_toArray, List.set_cons_zero, List.set_cons_succ])
      refine wpG_row _ rfl (by rfl) 24 (.tmp 11) rfl G rfl ds _ (fun W hW => hW.row HDS.out) Tryd.underlying24 rfl HI24.out ?_
      (try simp only [Act.put, List.setIfInBounds_toArray, List.set_cons_zero, List.set_cons_succ])
      refine wpG_says _ rfl (by rfl) 14 #[.pointer (some ⟨w.heap.size, 0, none⟩)] (fun _ => by go_simp) (FinAt.stable bs w G hw0) HF7.out (.agg ds.toArray) (HSUMH.out _ _ HF7.out) ?_
      intro w8 hp8; have HF8 := Lib.hid hp8; clear hp8
      (try simp only [Act.put, List.setIfInBounds_toArray, List.set_cons_zero, List.set_cons_succ])
      refine wpG_take _ (.bool true) rfl (by rfl) (fun W hW => by have hq := HEQ.out W; go_simp) ?_
      (try simp only [Act.put, List.setIfInBounds_toArray, List.set_cons_zero, List.set_cons_succ])
      refine wpG_take _ (.bool true) rfl (by rfl) (fun W hW => by rfl) ?_
      (try simp only [Act.put, List.setIfInBounds_toArray, List.set_cons_zero, List.set_cons_succ])
      refine wpG_take _ (.bool true) rfl (by rfl) (fun W hW => by rfl) ?_
      (try simp only [Act.put, List.setIfInBounds_toArray, List.set_cons_zero, List.set_cons_succ])
      refine wpG_says _ rfl (by rfl) 8 #[] (fun _ => by go_simp) (FinAt.stable bs w G hw0) HF8.out (.bool true) (wakes_any _ HF8.out.t) ?_
      intro w9 hp9; have HF9 := Lib.hid hp9; clear hp9
      (try simp only [Act.put, List.setIfInBounds_toArray, List.set_cons_zero, List.set_cons_succ])
      refine wpG_take _ (.bool true) rfl (by rfl) (fun W hW => by rfl) ?_
      (try simp only [Act.put, List.setIfInBounds_toArray, List.set_cons_zero, List.set_cons_succ])
      refine wpG_take _ (.bool true) rfl (by rfl) (fun W hW => by rfl) ?_
      (try simp only [Act.put, List.setIfInBounds_toArray, List.set_cons_zero, List.set_cons_succ])
      refine wpG_nil ?_
      go_wp2
      go_ret
      exact ⟨rfl, HF9.out.b⟩
end Go.Proofs.YtoaaaonpmcebfaaDoor
