/- Bytes that are written into a hash. -/
import Derived.Test.YtmgagalhpkieoaaGreatDoorM18
import Derived.Deep.RegionWith
import Derived.Deep.RegionHeld3
import Derived.Deep.MidRow
namespace Go.Proofs.YtmgagalhpkieoaaGreatDoor
open Go.RowKit

def HashAt (w : World) (H : Nat) (m : List (BitVec 8)) : Prop :=
  ∃ rest, Holds m rest ∧ Blk w H (hcells (absorb (m.length / 64) m) rest m.length) 197
def Src (w : World) (H : Nat) (sp : Option Addr) (bs : List (BitVec 8)) : Prop :=
  0 < bs.length → ∃ g o, sp = some ⟨g, o, none⟩ ∧ g ≠ H ∧ g < w.heap.size ∧ ∀ j, j < bs.length → w.cell? ⟨g, o + j, none⟩ = some (V8 (bs.getD j 0))
def lenOf : Value → Nat | .slice _ l _ => l | _ => 0

theorem hcells_count (s : St) (rest : List (BitVec 8)) (n : Nat) (h : rest.length = 64) : (hcells s rest n)[72]? = some (.int .u64 (n : Int)) := by
  unfold hcells
  rw [List.getElem?_append_right (by simp [St.list, h])]
  simp [St.list, h]
theorem size5 : (Tryz.prog.info? 5).map (·.size) = some 1 := by kernel_rfl
theorem arr43 : Tryz.prog.underlying 195 = some (.array (Tryz.prog.arrayLen 195) (Tryz.prog.elem 195)) := by kernel_rfl
theorem len43 : Tryz.prog.arrayLen 195 = 64 := by kernel_rfl
theorem elem43 : Tryz.prog.elem 195 = 5 := by kernel_rfl
theorem elem22 : Tryz.prog.underlying 59 = some (.slice (Tryz.prog.elem 59)) := by kernel_rfl
theorem elem22' : Tryz.prog.elem 59 = 5 := by kernel_rfl
theorem sizeOf5 (W : World) : (sizeOf 5).run Tryz.prog W = .ok 1 W := by
  obtain ⟨i, h1, h2⟩ := Option.map_eq_some_iff.1 size5
  simp [sizeOf, typeInfo, h1, h2]
theorem slice43 (H k : Nat) (hk : k < 64) : ∀ W : World, (Instr.sliceAt 195 (.pointer (some ⟨H, 8, none⟩)) (some (.int .i64 (k : Int))) none none).run Tryz.prog W = .ok (.slice (some ⟨H, 8 + k, none⟩) (64 - k) (64 - k)) W := fun W => by
  rw [run_sliceAt_array_l W 195 ⟨H, 8, none⟩ arr43 .i64 k (by omega) (by rw [len43]; omega), elem43, len43, sizeOf5]
  simp only [Result.andThen, slicedAt, Int.toNat_natCast, Nat.mul_one]
  rw [if_neg (by omega)]
  unfold Addr.add
  by_cases h0 : k = 0
  · subst h0; simp
  · simp [h0]
theorem slice22 (sp : Option Addr) (l c n : Nat) (hn : n ≤ l) (hc : l ≤ c) : ∃ sp2, (∀ W : World, (Instr.sliceAt 59 (.slice sp l c) (some (.int .i64 (n : Int))) none none).run Tryz.prog W = .ok (.slice sp2 (l - n) (c - n)) W) ∧ (n < c → sp2 = sp.map (·.add n)) := by
  refine ⟨if c = n then sp else sp.map (·.add n), fun W => ?_, fun h => if_neg (by omega)⟩
  rw [run_sliceAt_slice W 59 _ _ _ _ elem22, run_slice_l W 59 sp l c elem22 .i64 n (by omega) (by omega), elem22', sizeOf5]
  simp only [Result.andThen, sliced, Int.toNat_natCast, Nat.mul_one]
theorem src_cells {w : World} {g o : Nat} {td : List (BitVec 8)} (h : ∀ j, j < td.length → w.cell? ⟨g, o + j, none⟩ = some (V8 (td.getD j 0))) {n : Nat} (hn : n ≤ td.length) :
    ∀ j v, ((td.take n).map V8)[j]? = some v → w.cell? ((⟨g, o, none⟩ : Addr).add j) = some v := by
  intro j v hv
  rw [Addr.add_mid]
  have hj : j < n := by
    have := (List.getElem?_eq_some_iff.1 hv).1
    simp at this; omega
  rw [h j (by omega)]
  rw [List.getElem?_map, List.getElem?_take, if_pos hj] at hv
  rw [List.getD_eq_getElem?_getD]
  rw [List.getElem?_eq_getElem (by omega)] at hv ⊢
  simpa using hv
theorem one_ints' {α : Type} (f : α → Value) (h : ∀ x, (f x).oneCell' = true) (l : List α) : ∀ v ∈ l.map f, v.oneCell' = true := by
  intro v hv
  obtain ⟨x, _, rfl⟩ := List.mem_map.1 hv
  exact h x
def CopyRel (H : Nat) (p cs rest : List (BitVec 8)) (k : Nat) (w wr w1 : World) : Prop :=
  Blk w1 H (hcells (absorb (p.length / 64) p) (laid rest k cs) p.length) 197 ∧ ButFor H w w1 ∧ Tab w1 ∧ ButFor H wr w1
theorem hcells_splice (s : St) (rest cs : List (BitVec 8)) (n k : Nat) (hr : rest.length = 64) (hc : k + cs.length ≤ 64) :
    (hcells s rest n).take (8 + k) ++ (cs.map V8 ++ (hcells s rest n).drop (8 + k + (cs.map V8).length)) = hcells s (laid rest k cs) n := by
  unfold hcells laid
  have h8 : (s.list.map V32).length = 8 := by simp [St.list]
  rw [List.length_map, List.append_assoc, List.take_append, List.drop_append, h8, List.take_of_length_le (by omega), List.drop_of_length_le (by omega)]
  rw [show 8 + k - 8 = k by omega, show 8 + k + cs.length - 8 = k + cs.length by omega]
  rw [List.take_append_of_le_length (by simp; omega), List.drop_append_of_le_length (by simp; omega)]
  simp [List.map_take, List.map_drop]
theorem copy_rel {H : Nat} {p cs rest : List (BitVec 8)} {k : Nat} {w wr : World} (hh : Holds p rest) (hb : Blk wr H (hcells (absorb (p.length / 64) p) rest p.length) 197) (hf : ButFor H w wr) (ht : Tab wr) (hk : p.length % 64 = k) (hH : H ≠ 1) (hc : k + cs.length ≤ 64) :
    CopyRel H p cs rest k w wr (wr.setRow H ((hcells (absorb (p.length / 64) p) rest p.length).toArray.toList.take (8 + k) ++ (cs.map V8 ++ (hcells (absorb (p.length / 64) p) rest p.length).toArray.toList.drop (8 + k + (cs.map V8).length))).toArray) := by
  have e : (hcells (absorb (p.length / 64) p) rest p.length).toArray.toList = hcells (absorb (p.length / 64) p) rest p.length := rfl
  rw [e, hcells_splice _ _ _ _ _ hh.len hc]
  have hrow : ButFor H wr (wr.setRow H (hcells (absorb (p.length / 64) p) (laid rest k cs) p.length).toArray) := ⟨rfl, rfl, rfl, by simp, fun i _ hi => setRow_other wr H i _ hi⟩
  exact ⟨hb.row _, hf.trans hrow, Tab.rowOther ht (fun e => hH e.symm) _, hrow⟩
theorem copy_count {H : Nat} {p cs rest : List (BitVec 8)} {k : Nat} {w wr w1 : World} (h : CopyRel H p cs rest k w wr w1) (hr : rest.length = 64) (hc : k + cs.length ≤ 64 := by simp; omega) : w1.cell? ⟨H, 72, none⟩ = some (.int .u64 (p.length : Int)) :=
  h.1.cell (hcells_count _ _ _ (laid_length _ _ _ hr hc))
def RelW (H : Nat) (m bs : List (BitVec 8)) (w : World) (s : Value) (wr : World) : Prop :=
  ∃ dn td sp cap, bs = dn ++ td ∧ s = .slice sp td.length cap ∧ td.length ≤ cap ∧ HashAt wr H (m ++ dn) ∧ Src wr H sp td ∧ ButFor H w wr ∧ Tab wr

theorem hcells_setCount (s : St) (rest : List (BitVec 8)) (n m : Nat) (h : rest.length = 64) : (hcells s rest n).set 72 (.int .u64 (m : Int)) = hcells s rest m := by
  unfold hcells
  rw [List.set_append_right _ _ (by simp [St.list, h])]
  simp [St.list, h]
theorem relW_next {H : Nat} {m bs dn td p rest : List (BitVec 8)} {w wr w1 : World} {g o n k cap' : Nat} {sp2 : Option Addr} (hbs : bs = dn ++ td) (hp : m ++ dn = p)
    (hC : ∀ j, j < td.length → wr.cell? ⟨g, o + j, none⟩ = some (V8 (td.getD j 0))) (hg : g ≠ H) (hgs : g < wr.heap.size) (hnt : n ≤ td.length) (hc' : td.length ≤ cap')
    (hS2 : n < cap' → sp2 = (some (⟨g, o, none⟩ : Addr)).map (·.add n)) {st : St}
    (hh : Holds (p ++ td.take n) (laid rest (p.length % 64) (td.take n)) ∧ absorb ((p ++ td.take n).length / 64) (p ++ td.take n) = st) (hk : p.length % 64 = k)
    (h1 : ButFor H w w1) (h2 : Tab w1) (h3 : ButFor H wr w1) {q : Nat} (hb : Blk w1 H (hcells st (laid rest k (td.take n)) q) 197) (hH : H ≠ 1) {N : Int} (hN : N = (p.length : Int) + (n : Int)) :
    RelW H m bs w (.slice sp2 (td.length - n) (cap' - n)) (w1.setCell ⟨H, 72, none⟩ (.int .u64 N)) := by
  subst hk hN
  obtain ⟨hh1, hh2⟩ := hh
  have hlen : (td.take n).length = n := by simp; omega
  refine ⟨dn ++ td.take n, td.drop n, sp2, cap' - n, ?_, ?_, ?_, ⟨laid rest (p.length % 64) (td.take n), ?_, ?_⟩, ?_, h1.set _ _, ?_⟩
  · rw [List.append_assoc, List.take_append_drop]; exact hbs
  · simp
  · simp; omega
  · rw [← List.append_assoc, hp]; exact hh1
  · rw [← List.append_assoc, hp, hh2]
    have := hb.set 72 (.int .u64 (((p ++ td.take n).length : Nat) : Int))
    rw [hcells_setCount _ _ _ _ hh1.len] at this
    have e : (((p ++ td.take n).length : Nat) : Int) = (p.length : Int) + (n : Int) := by rw [List.length_append, hlen]; omega
    rw [e] at this
    exact this
  · intro hpos
    have hn : n < td.length := by simp at hpos; omega
    refine ⟨g, o + n, by rw [hS2 (by omega)]; simp [Addr.add_mid], hg, by have := h3.size; simp [World.setCell]; omega, fun j hj => ?_⟩
    have hj' : n + j < td.length := by simp at hj; omega
    rw [show o + n + j = o + (n + j) by omega]
    have hset : ButFor H wr (w1.setCell ⟨H, 72, none⟩ (.int .u64 ((p.length : Int) + (n : Int)))) := h3.set _ _
    rw [hset.cell (p := ⟨g, o + (n + j), none⟩) hgs hg, hC _ hj']
    simp [List.getD_eq_getElem?_getD]
  · exact h2.other (fun e => hH e.symm) _

theorem take_is (s : St) (pb : List (BitVec 8)) : ∃ a b c d e f g h, take s pb = ⟨a, b, c, d, e, f, g, h⟩ := ⟨_, _, _, _, _, _, _, _, rfl⟩
theorem takenIn_st (a b c d e f g h : BitVec 32) (pb : List (BitVec 8)) (hps : pb.length = 64) {c64 : List Value} (h64 : pb.map V8 = c64) {ta tb tc td te tf tg th : BitVec 32} (hd8 : take ⟨a, b, c, d, e, f, g, h⟩ pb = ⟨ta, tb, tc, td, te, tf, tg, th⟩) (w : World) (ht : Tab w) :
    Calls Tryz.prog 113 #[.agg #[V32 a, V32 b, V32 c, V32 d, V32 e, V32 f, V32 g, V32 h], .agg c64.toArray] w fun x w' => x = .returned (.agg #[V32 ta, V32 tb, V32 tc, V32 td, V32 te, V32 tf, V32 tg, V32 th]) ∧ Below w.heap.size w w' := by
  subst h64
  have := takenIn_any a b c d e f g h pb hps w ht
  rw [hd8] at this
  exact this
def SReg (H : Nat) (sa sb sc sd se sf sg sh : BitVec 32) (c64 : List Value) (w' : World) : Prop :=
  (w'.cell? ⟨H, 0, none⟩ = some (V32 sa) ∧ w'.cell? ⟨H, 1, none⟩ = some (V32 sb) ∧ w'.cell? ⟨H, 2, none⟩ = some (V32 sc) ∧ w'.cell? ⟨H, 3, none⟩ = some (V32 sd) ∧ w'.cell? ⟨H, 4, none⟩ = some (V32 se) ∧ w'.cell? ⟨H, 5, none⟩ = some (V32 sf) ∧ w'.cell? ⟨H, 6, none⟩ = some (V32 sg) ∧ w'.cell? ⟨H, 7, none⟩ = some (V32 sh)) ∧
    (∀ j, w'.frozen? ⟨H, j, none⟩ = false) ∧ w'.rangeAt H 8 c64 ∧ Tab w' ∧ H < w'.heap.size
theorem sreg_below {H : Nat} {sa sb sc sd se sf sg sh : BitVec 32} {c64 : List Value} {w w' : World} (h : SReg H sa sb sc sd se sf sg sh c64 w) (hb : Below w.heap.size w w') : SReg H sa sb sc sd se sf sg sh c64 w' := by
  obtain ⟨⟨h0, h1, h2, h3, h4, h5, h6, h7⟩, hf, hr, ht, hl⟩ := h
  have hc : ∀ j, w'.cell? ⟨H, j, none⟩ = w.cell? ⟨H, j, none⟩ := fun j => hb.cell (p := ⟨H, j, none⟩) hl
  have hfz : ∀ j, w'.frozen? ⟨H, j, none⟩ = w.frozen? ⟨H, j, none⟩ := fun j => hb.frozen (p := ⟨H, j, none⟩) hl
  refine ⟨⟨?_, ?_, ?_, ?_, ?_, ?_, ?_, ?_⟩, fun j => (hfz j).trans (hf j), fun j v hv => (hc _).trans (hr j v hv), Tab.below ht hb (Nat.le_refl _), Nat.lt_of_lt_of_le hl hb.size⟩
  all_goals (rw [hc]; assumption)
theorem range0 {H : Nat} {sa sb sc sd se sf sg sh : BitVec 32} {w : World} (h : w.cell? ⟨H, 0, none⟩ = some (V32 sa) ∧ w.cell? ⟨H, 1, none⟩ = some (V32 sb) ∧ w.cell? ⟨H, 2, none⟩ = some (V32 sc) ∧ w.cell? ⟨H, 3, none⟩ = some (V32 sd) ∧ w.cell? ⟨H, 4, none⟩ = some (V32 se) ∧ w.cell? ⟨H, 5, none⟩ = some (V32 sf) ∧ w.cell? ⟨H, 6, none⟩ = some (V32 sg) ∧ w.cell? ⟨H, 7, none⟩ = some (V32 sh)) :
    w.rangeAt H 0 [V32 sa, V32 sb, V32 sc, V32 sd, V32 se, V32 sf, V32 sg, V32 sh] := by
  obtain ⟨h0, h1, h2, h3, h4, h5, h6, h7⟩ := h
  intro j v hv
  rw [Nat.zero_add]
  match j, hv with
  | 0, hv | 1, hv | 2, hv | 3, hv | 4, hv | 5, hv | 6, hv | 7, hv => cases hv; assumption
theorem there0 {H : Nat} {sa sb sc sd se sf sg sh : BitVec 32} {c64 : List Value} {w w2 : World} (h : SReg H sa sb sc sd se sf sg sh c64 w) (hb : Below w.drew.heap.size w.drew w2) : w2.there H 0 8 := by
  have hs : SReg H sa sb sc sd se sf sg sh c64 w2 := sreg_below (w := w.drew) h hb
  obtain ⟨⟨h0, h1, h2, h3, h4, h5, h6, h7⟩, hf, _⟩ := hs
  intro j hj
  refine ⟨?_, hf _⟩
  rw [Nat.zero_add]
  match j, hj with
  | 0, _ => rw [h0]; rfl
  | 1, _ => rw [h1]; rfl
  | 2, _ => rw [h2]; rfl
  | 3, _ => rw [h3]; rfl
  | 4, _ => rw [h4]; rfl
  | 5, _ => rw [h5]; rfl
  | 6, _ => rw [h6]; rfl
  | 7, _ => rw [h7]; rfl
def FullRel (H : Nat) (p cs rest : List (BitVec 8)) (k : Nat) (w wr W : World) : Prop :=
  Blk W H (hcells (take (absorb (p.length / 64) p) (laid rest (p.length % 64) cs)) (laid rest k cs) p.length) 197 ∧ ButFor H w W ∧ Tab W ∧ ButFor H wr W
theorem full_count {H : Nat} {p cs rest : List (BitVec 8)} {k : Nat} {w wr W : World} (h : FullRel H p cs rest k w wr W) (hr : rest.length = 64) (hc : k + cs.length ≤ 64) : W.cell? ⟨H, 72, none⟩ = some (.int .u64 (p.length : Int)) :=
  h.1.cell (hcells_count _ _ _ (laid_length _ _ _ hr hc))
theorem full_rel {H : Nat} {p cs rest rs : List (BitVec 8)} {k : Nat} {w wr w1 w2 : World} {sa sb sc sd se sf sg sh ta tb tc td te tf tg th : BitVec 32} (h : CopyRel H p cs rest k w wr w1)
    (hb : Blk w1 H (hcells ⟨sa, sb, sc, sd, se, sf, sg, sh⟩ rs p.length) 197) (h2 : Below w1.drew.heap.size w1.drew w2) (hst : absorb (p.length / 64) p = ⟨sa, sb, sc, sd, se, sf, sg, sh⟩) (hrs : laid rest k cs = rs)
    (hd8 : take ⟨sa, sb, sc, sd, se, sf, sg, sh⟩ rs = ⟨ta, tb, tc, td, te, tf, tg, th⟩) (hk : p.length % 64 = k) (hH : H ≠ 1) :
    FullRel H p cs rest k w wr (w2.setCells H 0 [V32 ta, V32 tb, V32 tc, V32 td, V32 te, V32 tf, V32 tg, V32 th]) := by
  obtain ⟨_, h4, h5, h6⟩ := h
  have hb2 : Blk w2 H (hcells ⟨sa, sb, sc, sd, se, sf, sg, sh⟩ rs p.length) 197 := Blk.below (w := w1.drew) hb h2 hb.lt
  have hs := blk_setCells H 197 [V32 ta, V32 tb, V32 tc, V32 td, V32 te, V32 tf, V32 tg, V32 th] 0 w2 _ hb2 (by simp [hcells, St.list])
  have hw : ButFor H w1 w2 := (ButFor.refl H w1).drew.trans (ButFor.of_below h2)
  refine ⟨?_, ButFor.sets _ _ _ (h4.trans hw), ?_, ButFor.sets _ _ _ (h6.trans hw)⟩
  · rw [hk, hst, hrs, hd8]
    exact hs
  · exact Tab.sets (fun e => hH e.symm) _ _ _ (h5.butFor hw (fun e => hH e.symm))
theorem regS_of {w : World} {H n : Nat} {sa sb sc sd se sf sg sh : BitVec 32} {rs : List (BitVec 8)} (hb : Blk w H (hcells ⟨sa, sb, sc, sd, se, sf, sg, sh⟩ rs n) 197) (hr : rs.length = 64) (ht : Tab w) {c64 : List Value} (h64 : rs.map V8 = c64) :
    SReg H sa sb sc sd se sf sg sh c64 w := by
  subst h64
  refine ⟨⟨hb.cell rfl, hb.cell rfl, hb.cell rfl, hb.cell rfl, hb.cell rfl, hb.cell rfl, hb.cell rfl, hb.cell rfl⟩, hb.free, hb.range 8 _ (fun j v hv => ?_), ht, hb.lt⟩
  have hj : j < 64 := by have := (List.getElem?_eq_some_iff.1 hv).1; rw [List.length_map, hr] at this; exact this
  unfold hcells
  rw [List.getElem?_append_left (by simp [St.list, hr]; omega), List.getElem?_append_right (by simp [St.list])]
  simpa [St.list] using hv

set_option maxRecDepth 100000 in
set_option maxHeartbeats 1000000 in
theorem write_any (H : Nat) (m bs : List (BitVec 8)) (sp : Option Addr) (cap : Nat) (w : World) (hl : m.length + bs.length < 1000000000) (hcap : bs.length ≤ cap) (hcap2 : cap ≤ 9223372036854775807)
    (hH : HashAt w H m) (hS : Src w H sp bs) (hT : Tab w) (hH0 : H ≠ 1) :
    Calls Tryz.prog 99 #[.pointer (some ⟨H, 0, none⟩), .slice sp bs.length cap] w fun e w' => e = .returned (.tuple #[]) ∧ HashAt w' H (m ++ bs) ∧ ButFor H w w' ∧ Tab w' := by
  have HA := Lib.hid (show RelW H m bs w (.slice sp bs.length cap) w from ⟨[], bs, sp, cap, rfl, rfl, hcap, by simpa using hH, hS, ButFor.refl _ _, hT⟩)
  clear hH hS hT
  go_enter Tryz.func99, Tryz.ntmps99
  go_wp2
  go_loopw [1] (fun s wr => RelW H m bs w s wr) (fun s _ => lenOf s)
  case atStart => exact HA.out
  case round =>
    clear HA
    obtain ⟨dn, td, sp', cap', hbs, rfl, hc', hHA, hSR, hBF, hTB⟩ := hrel
    obtain ⟨rest, hHo, hBk⟩ := hHA
    have hpl : (m ++ dn).length + td.length < 1000000000 := by rw [hbs] at hl; simp at hl ⊢; omega
    have HBS := Lib.hid hbs
    clear hbs hl hcap
    generalize hp : m ++ dn = p at hHo hBk hpl
    have HP := Lib.hid hp
    clear hp
    by_cases htd : 0 < td.length
    · obtain ⟨g, o, rfl, hgH, hgs, hcell⟩ := hSR htd
      obtain ⟨k, hk⟩ : ∃ k, p.length % 64 = k := ⟨_, rfl⟩
      have hk64 : k < 64 := by omega
      have hki : (p.length : Int) % 64 = (k : Int) := by omega
      have HK := Lib.hid hk
      have cC : wr.cell? ⟨H, 72, none⟩ = some (.int .u64 (p.length : Int)) := hBk.cell (hcells_count _ _ _ hHo.len)
      have HBk := Lib.hid hBk
      have HHo := Lib.hid hHo
      have HC := Lib.hid hcell
      have HBF := Lib.hid hBF
      have HTB := Lib.hid hTB
      obtain ⟨n, hn⟩ : ∃ n, min td.length (64 - k) = n := ⟨_, rfl⟩
      have hn0 : 0 < n := by omega
      have hnt : n ≤ td.length := by omega
      have hkn : k + n ≤ 64 := by omega
      have hs1 := slice43 H k hk64
      obtain ⟨sp2, hs2, hsp2⟩ := slice22 (some ⟨g, o, none⟩) td.length cap' n hnt hc'
      have HS2 := Lib.hid hsp2
      have HN := Lib.hid hn
      have hgo : goInt (td.take n).length = .int .i64 (n : Int) := by simp [goInt, Nat.min_eq_left hnt]
      have HGO := Lib.hid hgo
      have hlt0 : (td.take n).length = n := by simp; omega
      have HLT := Lib.hid hlt0
      have HCS : Hid (((td.take n).map V8).length = Nat.min td.length (64 - k)) := Lib.hid (by rw [List.length_map, hlt0]; exact hn.symm)
      have HFIT : Hid (8 + k + ((td.take n).map V8).length ≤ (hcells (absorb (p.length / 64) p) rest p.length).toArray.size) := Lib.hid (by rw [List.length_map, hlt0]; simp [hcells, St.list, hHo.len]; omega)
      have HKL : Hid (k + (td.take n).length ≤ 64) := Lib.hid (by rw [hlt0]; exact hkn)
      clear hlt0
      clear hk hBk hHo hcell hSR hBF hTB hsp2 hn hgo
      have hHs : H < wr.heap.size := HBk.out.lt
      by_cases hfull : k + n = 64
      · have hF : ((k : Int) + (n : Int) == 64) = true := by simp; omega
        have HF := Lib.hid hfull
        clear hfull
        go_wp2_with (first
          | (refine wpList_copy_own rfl (.tmp 21) (.tmp 22) 59 59 rfl 5 Tryz.underlying59 size5 H (8 + k) (64 - k) (64 - k) ⟨g, o, none⟩ td.length cap' rfl rfl _ 197 HBk.out ((td.take n).map V8) HCS.out (src_cells HC.out hnt) HFIT.out (one_ints' V8 (fun _ => rfl) _) ?_; refine (fun (q : ∀ w1, CopyRel H p (td.take n) rest k w wr w1 → wpList _ _ _ _ (Act.put _ _ _) w1) => q _ (copy_rel HHo.out HBk.out HBF.out HTB.out HK.out hH0 HKL.out)) ?_; intro w1 hr1; rw [List.length_map, HGO.out]; have HR1 := Lib.hid hr1; clear hr1)
          | fail)
        have hst : ∃ st, absorb (p.length / 64) p = st := ⟨_, rfl⟩
        obtain ⟨st, hst⟩ := hst
        have hrs : ∃ rs, laid rest k (td.take n) = rs := ⟨_, rfl⟩
        obtain ⟨rs, hrs⟩ := hrs
        have hr64 : rs.length = 64 := by rw [← hrs]; exact laid_length _ _ _ HHo.out.len HKL.out
        have hB1 : Blk w1 H (hcells st rs p.length) 197 := by rw [← hst, ← hrs]; exact HR1.out.1
        obtain ⟨sa, sb, sc, sd, se, sf, sg, sh⟩ := st
        obtain ⟨c64, h64⟩ : ∃ c, rs.map V8 = c := ⟨_, rfl⟩
        obtain ⟨ta, tb, tc, td', te, tf, tg, th, hd8⟩ := take_is ⟨sa, sb, sc, sd, se, sf, sg, sh⟩ rs
        have hS := regS_of hB1 hr64 HR1.out.2.2.1 h64
        have hi2 : (Tryz.prog.info? 195).map (·.size) = some c64.length := by rw [← h64, List.length_map, hr64]; exact info43
        have HST := Lib.hid hst
        have HRS := Lib.hid hrs
        have HR64 := Lib.hid hr64
        have HB1 := Lib.hid hB1
        have H64 := Lib.hid h64; have HD8 := Lib.hid hd8
        clear hst hrs hr64 hB1 h64 hd8
        have HS := Lib.hid hS
        have HR0 : Hid (w1.drew.rangeAt H 0 [V32 sa, V32 sb, V32 sc, V32 sd, V32 se, V32 sf, V32 sg, V32 sh]) := Lib.hid (range0 hS.1)
        have HR8 : Hid (w1.drew.rangeAt H 8 c64) := Lib.hid hS.2.2.1
        have HI2 := Lib.hid hi2
        clear hi2
        obtain ⟨⟨c0, c1, c2, c3, c4, c5, c6, c7⟩, hq2, hq3, hq4, hq5⟩ := hS
        refine wp_region_any (by kernel_rfl) ?_
        change wpAny _ _ _ _ _ _ _ (World.drew _)
        refine wpAny_take (i := 0) (oi := { dst := some 28, op := Op.move (Operand.tmp 0), type := 181, pos := _, after := #[], guard := none }) (v := .pointer (some ⟨H, 0, none⟩)) rfl (by kernel_rfl) (by kernel_rfl) (by kernel_rfl) (fun _ _ _ h => h) (Or.inl ⟨by rfl, fun w => by rfl⟩) ?_
        try simp only [Act.put, List.setIfInBounds_toArray, List.set_cons_zero, List.set_cons_succ]
        refine wpAny_take (i := 1) (oi := { dst := some 29, op := Op.move (Operand.tmp 0), type := 181, pos := _, after := #[], guard := none }) (v := .pointer (some ⟨H, 0, none⟩)) rfl (by kernel_rfl) (by kernel_rfl) (by kernel_rfl) (fun _ _ _ h => h) (Or.inl ⟨by rfl, fun w => by rfl⟩) ?_
        try simp only [Act.put, List.setIfInBounds_toArray, List.set_cons_zero, List.set_cons_succ]
        refine wpAny_take (i := 2) (oi := { dst := some 30, op := Op.nilCheck (Operand.tmp 29), type := 0, pos := _, after := #[{ on := 1, ground := Ground.data }], guard := none }) (v := .pointer (some ⟨H, 0, none⟩)) rfl (by kernel_rfl) (by kernel_rfl) (by kernel_rfl) (fun _ _ _ h => h) (Or.inl ⟨by rfl, fun w => by rfl⟩) ?_
        try simp only [Act.put, List.setIfInBounds_toArray, List.set_cons_zero, List.set_cons_succ]
        refine wpAny_take (i := 3) (oi := { dst := some 31, op := Op.fieldAddr 197 (Operand.tmp 30) 0, type := 0, pos := _, after := #[{ on := 2, ground := Ground.data }], guard := none }) (v := .pointer (some ⟨H, 0, none⟩)) rfl (by kernel_rfl) (by kernel_rfl) (by kernel_rfl) (fun _ _ _ h => h) (Or.inl ⟨by rfl, fun w => by go_simp⟩) ?_
        try simp only [Act.put, List.setIfInBounds_toArray, List.set_cons_zero, List.set_cons_succ]
        refine wpAny_take (i := 5) (oi := { dst := some 33, op := Op.move (Operand.tmp 0), type := 181, pos := _, after := #[], guard := none }) (v := .pointer (some ⟨H, 0, none⟩)) rfl (by kernel_rfl) (by kernel_rfl) (by kernel_rfl) (fun _ _ _ h => h) (Or.inl ⟨by rfl, fun w => by rfl⟩) ?_
        try simp only [Act.put, List.setIfInBounds_toArray, List.set_cons_zero, List.set_cons_succ]
        refine wpAny_take (i := 6) (oi := { dst := some 34, op := Op.nilCheck (Operand.tmp 33), type := 0, pos := _, after := #[{ on := 5, ground := Ground.data }], guard := none }) (v := .pointer (some ⟨H, 0, none⟩)) rfl (by kernel_rfl) (by kernel_rfl) (by kernel_rfl) (fun _ _ _ h => h) (Or.inl ⟨by rfl, fun w => by rfl⟩) ?_
        try simp only [Act.put, List.setIfInBounds_toArray, List.set_cons_zero, List.set_cons_succ]
        refine wpAny_take (i := 7) (oi := { dst := some 35, op := Op.fieldAddr 197 (Operand.tmp 34) 1, type := 0, pos := _, after := #[{ on := 6, ground := Ground.data }], guard := none }) (v := .pointer (some ⟨H, 8, none⟩)) rfl (by kernel_rfl) (by kernel_rfl) (by kernel_rfl) (fun _ _ _ h => h) (Or.inl ⟨by rfl, fun w => by go_simp⟩) ?_
        try simp only [Act.put, List.setIfInBounds_toArray, List.set_cons_zero, List.set_cons_succ]
        refine wpAny_ready (rs := [4, 8]) (by kernel_rfl) (by simp) ?_
        refine AllReady.cons (o := { dst := some 32, op := Op.load 194 (Operand.tmp 31), type := 194, pos := _, after := #[{ on := 3, ground := Ground.data }], guard := none }) rfl (fun K hK => ?_) (AllReady.cons (o := { dst := some 36, op := Op.load 195 (Operand.tmp 35), type := 195, pos := _, after := #[{ on := 7, ground := Ground.data }], guard := none }) rfl (fun K hK => ?_) AllReady.nil)
        · rw [if_pos (by rfl)]
          refine wp_load_mid 194 (.tmp 31) rfl H 0 rfl [V32 sa, V32 sb, V32 sc, V32 sd, V32 se, V32 sf, V32 sg, V32 sh] _ HR0.out Tryz.underlying194 rfl info42 (hK _ _ ?_)
          clear hK K
          try simp only [Act.put, List.setIfInBounds_toArray, List.set_cons_zero, List.set_cons_succ]
          refine wpAny_ready (rs := [8]) (by kernel_rfl) (by simp) ?_
          refine AllReady.cons (o := { dst := some 36, op := Op.load 195 (Operand.tmp 35), type := 195, pos := _, after := #[{ on := 7, ground := Ground.data }], guard := none }) rfl (fun K hK => ?_) AllReady.nil
          rw [if_pos (by rfl)]
          refine wp_load_mid 195 (.tmp 35) rfl H 8 rfl c64 _ HR8.out Tryz.underlying195 rfl HI2.out (hK _ _ ?_)
          clear hK K
          try simp only [Act.put, List.setIfInBounds_toArray, List.set_cons_zero, List.set_cons_succ]
          refine wpAny_ready (rs := [9]) (by kernel_rfl) (by simp) ?_
          refine AllReady.cons (o := { dst := some 37, op := Op.call { callee := Callee.value (Operand.func 113), args := #[Operand.tmp 32, Operand.tmp 36], argTypes := #[194, 195] }, type := 194, pos := _, after := #[{ on := 4, ground := Ground.data }, { on := 8, ground := Ground.data }], guard := none }) rfl (fun K hK => ?_) AllReady.nil
          rw [if_pos (by rfl)]
          go_simp
          refine (takenIn_st sa sb sc sd se sf sg sh rs HR64.out H64.out HD8.out w1.drew HR1.out.2.2.1).mono ?_
          rintro e w2 ⟨rfl, hb2⟩
          have HB2 := Lib.hid hb2
          clear hb2
          refine hK _ _ ?_
          clear hK K
          try simp only [Act.put, List.setIfInBounds_toArray, List.set_cons_zero, List.set_cons_succ]
          refine wpAny_take (i := 10) (oi := { dst := some 38, op := Op.nilCheck (Operand.tmp 28), type := 0, pos := _, after := #[{ on := 0, ground := Ground.data }, { on := 0, ground := Ground.phase }, { on := 1, ground := Ground.phase }, { on := 2, ground := Ground.phase }, { on := 3, ground := Ground.phase }, { on := 4, ground := Ground.phase }, { on := 5, ground := Ground.phase }, { on := 6, ground := Ground.phase }, { on := 7, ground := Ground.phase }, { on := 8, ground := Ground.phase }, { on := 9, ground := Ground.phase }], guard := none }) (v := .pointer (some ⟨H, 0, none⟩)) rfl (by kernel_rfl) (by kernel_rfl) (by kernel_rfl) (fun _ _ _ h => h) (Or.inl ⟨by rfl, fun w => by rfl⟩) ?_
          try simp only [Act.put, List.setIfInBounds_toArray, List.set_cons_zero, List.set_cons_succ]
          refine wpAny_take (i := 11) (oi := { dst := some 39, op := Op.fieldAddr 197 (Operand.tmp 38) 0, type := 0, pos := _, after := #[{ on := 10, ground := Ground.data }, { on := 0, ground := Ground.phase }, { on := 1, ground := Ground.phase }, { on := 2, ground := Ground.phase }, { on := 3, ground := Ground.phase }, { on := 4, ground := Ground.phase }, { on := 5, ground := Ground.phase }, { on := 6, ground := Ground.phase }, { on := 7, ground := Ground.phase }, { on := 8, ground := Ground.phase }, { on := 9, ground := Ground.phase }], guard := none }) (v := .pointer (some ⟨H, 0, none⟩)) rfl (by kernel_rfl) (by kernel_rfl) (by kernel_rfl) (fun _ _ _ h => h) (Or.inl ⟨by rfl, fun w => by go_simp⟩) ?_
          try simp only [Act.put, List.setIfInBounds_toArray, List.set_cons_zero, List.set_cons_succ]
          refine wpAny_ready (rs := [12]) (by kernel_rfl) (by simp) ?_
          refine AllReady.cons (o := { dst := none, op := Op.store 194 (Operand.tmp 39) (Operand.tmp 37), type := 0, pos := _, after := #[{ on := 11, ground := Ground.data }, { on := 9, ground := Ground.data }, { on := 9, ground := Ground.chain }, { on := 0, ground := Ground.phase }, { on := 1, ground := Ground.phase }, { on := 2, ground := Ground.phase }, { on := 3, ground := Ground.phase }, { on := 4, ground := Ground.phase }, { on := 5, ground := Ground.phase }, { on := 6, ground := Ground.phase }, { on := 7, ground := Ground.phase }, { on := 8, ground := Ground.phase }, { on := 9, ground := Ground.phase }], guard := none }) rfl (fun K hK => ?_) AllReady.nil
          rw [if_pos (by rfl)]
          refine wp_store_mid 194 (.tmp 39) (.tmp 37) rfl H 0 #[V32 ta, V32 tb, V32 tc, V32 td', V32 te, V32 tf, V32 tg, V32 th] rfl rfl (there0 HS.out HB2.out) info42 (one_ints V32 (fun _ => rfl) [ta, tb, tc, td', te, tf, tg, th]) (hK _ _ ?_)
          clear hK K
          try simp only [Act.put, List.setIfInBounds_toArray, List.set_cons_zero, List.set_cons_succ]
          refine wpAny_done (by kernel_rfl) ?_ _
          refine (fun (q : ∀ W, FullRel H p (td.take n) rest k w wr W → Exit.then _ _ _ _ W) => q _ (full_rel HR1.out HB1.out HB2.out HST.out HRS.out HD8.out HK.out hH0)) ?_
          intro W hW
          have HW := Lib.hid hW
          have cC1 : W.cell? ⟨H, 72, none⟩ = some (.int .u64 (p.length : Int)) := full_count hW HHo.out.len HKL.out
          have fC1 := hW.1.free 72
          have hHs2 : H < W.heap.size := hW.1.lt
          clear hW HB2 HB1 HR1 HST HRS HD8 HR0 HR8 HI2 H64 HR64 HS c0 c1 c2 c3 c4 c5 c6 c7 hs1
          go_wp2
          go_roundw
          case rel => exact relW_next HBS.out HP.out HC.out hgH hgs hnt hc' HS2.out (holds_full HHo.out (td.take n) (by rw [HK.out, HLT.out]; exact HF.out)) HK.out HW.out.2.1 HW.out.2.2.1 HW.out.2.2.2 HW.out.1 hH0 rfl
          case measure => simp [lenOf]; omega
        · rw [if_pos (by rfl)]
          refine wp_load_mid 195 (.tmp 35) rfl H 8 rfl c64 _ HR8.out Tryz.underlying195 rfl HI2.out (hK _ _ ?_)
          clear hK K
          try simp only [Act.put, List.setIfInBounds_toArray, List.set_cons_zero, List.set_cons_succ]
          refine wpAny_ready (rs := [4]) (by kernel_rfl) (by simp) ?_
          refine AllReady.cons (o := { dst := some 32, op := Op.load 194 (Operand.tmp 31), type := 194, pos := _, after := #[{ on := 3, ground := Ground.data }], guard := none }) rfl (fun K hK => ?_) AllReady.nil
          rw [if_pos (by rfl)]
          refine wp_load_mid 194 (.tmp 31) rfl H 0 rfl [V32 sa, V32 sb, V32 sc, V32 sd, V32 se, V32 sf, V32 sg, V32 sh] _ HR0.out Tryz.underlying194 rfl info42 (hK _ _ ?_)
          clear hK K
          try simp only [Act.put, List.setIfInBounds_toArray, List.set_cons_zero, List.set_cons_succ]
          refine wpAny_ready (rs := [9]) (by kernel_rfl) (by simp) ?_
          refine AllReady.cons (o := { dst := some 37, op := Op.call { callee := Callee.value (Operand.func 113), args := #[Operand.tmp 32, Operand.tmp 36], argTypes := #[194, 195] }, type := 194, pos := _, after := #[{ on := 4, ground := Ground.data }, { on := 8, ground := Ground.data }], guard := none }) rfl (fun K hK => ?_) AllReady.nil
          rw [if_pos (by rfl)]
          go_simp
          refine (takenIn_st sa sb sc sd se sf sg sh rs HR64.out H64.out HD8.out w1.drew HR1.out.2.2.1).mono ?_
          rintro e w2 ⟨rfl, hb2⟩
          have HB2 := Lib.hid hb2
          clear hb2
          refine hK _ _ ?_
          clear hK K
          try simp only [Act.put, List.setIfInBounds_toArray, List.set_cons_zero, List.set_cons_succ]
          refine wpAny_take (i := 10) (oi := { dst := some 38, op := Op.nilCheck (Operand.tmp 28), type := 0, pos := _, after := #[{ on := 0, ground := Ground.data }, { on := 0, ground := Ground.phase }, { on := 1, ground := Ground.phase }, { on := 2, ground := Ground.phase }, { on := 3, ground := Ground.phase }, { on := 4, ground := Ground.phase }, { on := 5, ground := Ground.phase }, { on := 6, ground := Ground.phase }, { on := 7, ground := Ground.phase }, { on := 8, ground := Ground.phase }, { on := 9, ground := Ground.phase }], guard := none }) (v := .pointer (some ⟨H, 0, none⟩)) rfl (by kernel_rfl) (by kernel_rfl) (by kernel_rfl) (fun _ _ _ h => h) (Or.inl ⟨by rfl, fun w => by rfl⟩) ?_
          try simp only [Act.put, List.setIfInBounds_toArray, List.set_cons_zero, List.set_cons_succ]
          refine wpAny_take (i := 11) (oi := { dst := some 39, op := Op.fieldAddr 197 (Operand.tmp 38) 0, type := 0, pos := _, after := #[{ on := 10, ground := Ground.data }, { on := 0, ground := Ground.phase }, { on := 1, ground := Ground.phase }, { on := 2, ground := Ground.phase }, { on := 3, ground := Ground.phase }, { on := 4, ground := Ground.phase }, { on := 5, ground := Ground.phase }, { on := 6, ground := Ground.phase }, { on := 7, ground := Ground.phase }, { on := 8, ground := Ground.phase }, { on := 9, ground := Ground.phase }], guard := none }) (v := .pointer (some ⟨H, 0, none⟩)) rfl (by kernel_rfl) (by kernel_rfl) (by kernel_rfl) (fun _ _ _ h => h) (Or.inl ⟨by rfl, fun w => by go_simp⟩) ?_
          try simp only [Act.put, List.setIfInBounds_toArray, List.set_cons_zero, List.set_cons_succ]
          refine wpAny_ready (rs := [12]) (by kernel_rfl) (by simp) ?_
          refine AllReady.cons (o := { dst := none, op := Op.store 194 (Operand.tmp 39) (Operand.tmp 37), type := 0, pos := _, after := #[{ on := 11, ground := Ground.data }, { on := 9, ground := Ground.data }, { on := 9, ground := Ground.chain }, { on := 0, ground := Ground.phase }, { on := 1, ground := Ground.phase }, { on := 2, ground := Ground.phase }, { on := 3, ground := Ground.phase }, { on := 4, ground := Ground.phase }, { on := 5, ground := Ground.phase }, { on := 6, ground := Ground.phase }, { on := 7, ground := Ground.phase }, { on := 8, ground := Ground.phase }, { on := 9, ground := Ground.phase }], guard := none }) rfl (fun K hK => ?_) AllReady.nil
          rw [if_pos (by rfl)]
          refine wp_store_mid 194 (.tmp 39) (.tmp 37) rfl H 0 #[V32 ta, V32 tb, V32 tc, V32 td', V32 te, V32 tf, V32 tg, V32 th] rfl rfl (there0 HS.out HB2.out) info42 (one_ints V32 (fun _ => rfl) [ta, tb, tc, td', te, tf, tg, th]) (hK _ _ ?_)
          clear hK K
          try simp only [Act.put, List.setIfInBounds_toArray, List.set_cons_zero, List.set_cons_succ]
          refine wpAny_done (by kernel_rfl) ?_ _
          refine (fun (q : ∀ W, FullRel H p (td.take n) rest k w wr W → Exit.then _ _ _ _ W) => q _ (full_rel HR1.out HB1.out HB2.out HST.out HRS.out HD8.out HK.out hH0)) ?_
          intro W hW
          have HW := Lib.hid hW
          have cC1 : W.cell? ⟨H, 72, none⟩ = some (.int .u64 (p.length : Int)) := full_count hW HHo.out.len HKL.out
          have fC1 := hW.1.free 72
          have hHs2 : H < W.heap.size := hW.1.lt
          clear hW HB2 HB1 HR1 HST HRS HD8 HR0 HR8 HI2 H64 HR64 HS c0 c1 c2 c3 c4 c5 c6 c7 hs1
          go_wp2
          go_roundw
          case rel => exact relW_next HBS.out HP.out HC.out hgH hgs hnt hc' HS2.out (holds_full HHo.out (td.take n) (by rw [HK.out, HLT.out]; exact HF.out)) HK.out HW.out.2.1 HW.out.2.2.1 HW.out.2.2.2 HW.out.1 hH0 rfl
          case measure => simp [lenOf]; omega
      · have hF : ((k : Int) + (n : Int) == 64) = false := by simp; omega
        have HF := Lib.hid hfull
        clear hfull
        go_wp2_with (first
          | (refine wpList_copy_own rfl (.tmp 21) (.tmp 22) 59 59 rfl 5 Tryz.underlying59 size5 H (8 + k) (64 - k) (64 - k) ⟨g, o, none⟩ td.length cap' rfl rfl _ 197 HBk.out ((td.take n).map V8) HCS.out (src_cells HC.out hnt) HFIT.out (one_ints' V8 (fun _ => rfl) _) ?_; refine (fun (q : ∀ w1, CopyRel H p (td.take n) rest k w wr w1 → wpList _ _ _ _ (Act.put _ _ _) w1) => q _ (copy_rel HHo.out HBk.out HBF.out HTB.out HK.out hH0 HKL.out)) ?_; intro w1 hr1; rw [List.length_map, HGO.out]; have HR1 := Lib.hid hr1; have cC1 := copy_count hr1 HHo.out.len HKL.out; have fC1 := hr1.1.free 72; have hHs1 : H < w1.heap.size := hr1.1.lt; clear hr1)
          | fail)
        go_roundw
        case rel => exact relW_next HBS.out HP.out HC.out hgH hgs hnt hc' HS2.out (holds_part HHo.out (td.take n) (by rw [HK.out, HLT.out]; have := HF.out; omega)) HK.out HR1.out.2.1 HR1.out.2.2.1 HR1.out.2.2.2 HR1.out.1 hH0 rfl
        case measure => simp [lenOf]; omega
    · have h0 : td.length = 0 := by omega
      obtain rfl : td = [] := List.eq_nil_of_length_eq_zero h0
      clear h0 htd hpl hc' hSR
      go_wp2
      go_end0
      refine ⟨rfl, ?_, hBF, hTB⟩
      rw [HBS.out, List.append_nil, HP.out]
      exact ⟨rest, hHo, hBk⟩

end Go.Proofs.YtmgagalhpkieoaaGreatDoor
