/- Whatever is asked of a reader is what the document says: the law, walked. -/
import Derived.Test.YtfamohnbaelccaaAsk
import Derived.Test.YtfamohnbaelccaaPairs
import Derived.Deep.DeepCutAuto
namespace Go.Proofs.Ytfamohnbaelccaa
open Go.RowKit

theorem asked_any (H : Nat) (K0 K : Nat → Prop) (l : List (BitVec 8)) (e : Nat) (sp : Option Addr) (cap : Nat) (x : BitVec 8) (n : Int) (w : World) (hl : l.length ≤ 100000) (hR : RdAt w H K0 l e) (hF : RefIs w K sp (lwOf l e) cap) (hK : ¬ K H) (hK0 : ∀ g, K0 g → g < w.heap.size) :
    Calls Try.prog 15 #[.pointer (some ⟨H, 0, none⟩), .agg #[.slice sp (lwOf l e).length cap, .int .i64 (e : Int)], .agg #[V8 x, .int .i64 n]] w (AskPost H K0 K l w) := by
  unfold V8
  by_cases h0 : N8 x = 0
  · rw [h0]; exact asked_8 H K0 K l e sp cap n w hl hR hF hK hK0
  by_cases h1 : N8 x = 1
  · rw [h1]; exact asked_16 H K0 K l e sp cap n w hl hR hF hK hK0
  by_cases h2 : N8 x = 2
  · rw [h2]; exact asked_32 H K0 K l e sp cap n w hl hR hF hK hK0
  by_cases h3 : N8 x = 3
  · rw [h3]; exact asked_64 H K0 K l e sp cap n w hl hR hF hK hK0
  by_cases h4 : N8 x = 4
  · rw [h4]; exact asked_raw H K0 K l e sp cap n w hl hR hF hK hK0
  by_cases h5 : N8 x = 5
  · rw [h5]; exact asked_nou H K0 K l e sp cap n w hl hR hF hK hK0
  by_cases h6 : N8 x = 6
  · rw [h6]; exact asked_bad H K0 K l e sp cap n w hl hR hF hK hK0
  · exact asked_end H K0 K l e sp cap n (N8 x) h0 h1 h2 h3 h4 h5 h6 w hl hR hF hK hK0
theorem leftOf_lw (l : List (BitVec 8)) (e : Nat) : leftOf l e = (lwOf l e).length := by
  unfold leftOf lwOf; split <;> simp

/-- What is handed in is written over: the reader stays. -/
def OwnAt (B L : Nat) (v : Value) (H : Nat) (K : Nat → Prop) (bs : List (BitVec 8)) (w wr : World) : Prop :=
  ∃ xs, wr.ownsRow B 5 1 v L xs ∧ RdAt wr H K bs 0 ∧ Below B w wr
/-- Behind some asks. -/
structure AsksAt (A8 H : Nat) (K0 : Nat → Prop) (w : World) (l : List (BitVec 8)) (e : Nat) (sp : Option Addr) (cap : Nat) (wr : World) : Prop where
  r : RdAt wr H K0 l e
  f : RefIs wr (fun g => g < w.heap.size) sp (lwOf l e) cap
  a : Blk wr A8 [.slice sp (lwOf l e).length cap, .int .i64 (e : Int)] 38
  b : Below w.heap.size w wr
  n : l.length ≤ 1000
theorem AsksAt.drw {A8 H : Nat} {K0 : Nat → Prop} {w : World} {l : List (BitVec 8)} {e : Nat} {sp : Option Addr} {cap : Nat} {wr : World} (h : AsksAt A8 H K0 w l e sp cap wr) : AsksAt A8 H K0 w l e sp cap wr.drew := ⟨h.r, h.f, h.a, h.b.drew, h.n⟩
theorem AsksAt.below {A8 H : Nat} {K0 : Nat → Prop} {w : World} {l : List (BitVec 8)} {e : Nat} {sp : Option Addr} {cap : Nat} {wr W : World} (h : AsksAt A8 H K0 w l e sp cap wr) (hb : Below wr.heap.size wr W) : AsksAt A8 H K0 w l e sp cap W :=
  ⟨h.r.below hb (Nat.le_refl _), h.f.below hb, h.a.below hb h.a.lt, h.b.trans (hb.mono h.b.size), h.n⟩

/-- What the takes of an ask lean on. -/
structure SAsk (A8 : Nat) (v0 v1 : Value) (g o : Nat) (x : BitVec 8) (n : Int) (W : World) : Prop where
  two : Two A8 v0 v1 W
  c0 : W.cell? ⟨g, o, none⟩ = some (V8 x)
  c1 : W.cell? ⟨g, o + 1, none⟩ = some (.int .i64 n)
  h8 : A8 < W.heap.size
  hg : g < W.heap.size
theorem SAsk.butFor {A8 : Nat} {v0 v1 : Value} {g o : Nat} {x : BitVec 8} {n : Int} {J : Nat} {W W' : World} (h : SAsk A8 v0 v1 g o x n W) (hb : ButFor J W W') (h1 : A8 ≠ J) (h2 : g ≠ J) : SAsk A8 v0 v1 g o x n W' :=
  ⟨two_butFor h.two h.h8 hb h1, (hb.cell (p := ⟨g, o, none⟩) h.hg h2).trans h.c0, (hb.cell (p := ⟨g, o + 1, none⟩) h.hg h2).trans h.c1, Nat.lt_of_lt_of_le h.h8 hb.size, Nat.lt_of_lt_of_le h.hg hb.size⟩
theorem SAsk.below {A8 : Nat} {v0 v1 : Value} {g o : Nat} {x : BitVec 8} {n : Int} {W W' : World} (h : SAsk A8 v0 v1 g o x n W) (hb : Below W.heap.size W W') : SAsk A8 v0 v1 g o x n W' :=
  ⟨⟨(hb.cell (p := ⟨A8, 0, none⟩) h.h8).trans h.two.1, (hb.cell (p := ⟨A8, 1, none⟩) h.h8).trans h.two.2⟩, (hb.cell (p := ⟨g, o, none⟩) h.hg).trans h.c0, (hb.cell (p := ⟨g, o + 1, none⟩) h.hg).trans h.c1, Nat.lt_of_lt_of_le h.h8 hb.size, Nat.lt_of_lt_of_le h.hg hb.size⟩
/-- An ask's answer, as a step tells it. -/
structure AskOk (H : Nat) (K0 : Nat → Prop) (w : World) (l : List (BitVec 8)) (w2 : World) (l3 : List (BitVec 8)) (e3 : Nat) (sp3 : Option Addr) (cap3 : Nat) (w3 : World) : Prop where
  r : RdAt w3 H K0 l3 e3
  f : RefIs w3 (fun g => g < w.heap.size) sp3 (lwOf l3 e3) cap3
  h : ButFor H w2 w3
  n : l3.length ≤ l.length
theorem wpG_alloc {P : Program} {ops : Array Oper} {Q : Exit → Act → World → Prop} {S : World → Prop} {i : Nat} {r : Tr} {a : Act} {w : World} (o : Oper) (hi : ops.toList[i]? = some o) (hw : Region.wanted o (yielded ops a.tmps) = true) (v : Value) (w1 : World) (hrun : (execOp a.eval o).run P w = .ok (.value v) w1)
    (hS : S w1) (h : wpG P ops Q r S (a.put o.dst v) w1) : wpG P ops Q (.step i r) S a w := by
  show wpOp P ops Q i _ a w
  unfold wpOp
  simp only [of_list hi]
  rw [if_pos hw]
  refine .inl ?_
  unfold Oper.wp
  rw [hrun]
  exact ⟨hS, S, fun _ h => h, hS, h⟩
/-- Behind an ask: its answer, kept in a new block; the document's reader as it was. -/
def MidAt (A8 H : Nat) (K0 : Nat → Prop) (w : World) (v p : Value) (W : World) : Prop :=
  v = .bool true ∧ ∃ l3 e3 sp3 cap3 A11, p = .pointer (some ⟨A11, 0, none⟩) ∧ RdAt W H K0 l3 e3 ∧ RefIs W (fun g => g < w.heap.size) sp3 (lwOf l3 e3) cap3 ∧ (∃ u0 u1, Blk W A8 [u0, u1] 38) ∧ Blk W A11 [.slice sp3 (lwOf l3 e3).length cap3, .int .i64 (e3 : Int)] 38 ∧ Below w.heap.size w W ∧ l3.length ≤ 1000
theorem RefIs.row {w W : World} {K : Nat → Prop} {sp : Option Addr} {l : List (BitVec 8)} {cap G : Nat} {cs : Array Value} (h : RefIs W (fun g => g < w.heap.size) sp l cap) (hG : w.heap.size ≤ G) : RefIs (W.setRow G cs) (fun g => g < w.heap.size) sp l cap :=
  ⟨h.1, h.2.1, h.2.2.butFor (fun hh => by omega) (butFor_row W G cs)⟩
theorem below_row' {w W : World} {G : Nat} {cs : Array Value} (h : Below w.heap.size w W) (hG : w.heap.size ≤ G) : Below w.heap.size w (W.setRow G cs) := h.trans ((butFor_row W G cs).below hG h.size)
theorem mid_b {A8 H lo : Nat} {w w2 w3 : World} {l1 l3 : List (BitVec 8)} {e1 e3 cap1 cap3 : Nat} {sp1 sp3 : Option Addr} {wr : World} (hat : AsksAt A8 H (fun g => lo ≤ g ∧ g < H) w l1 e1 sp1 cap1 w2) (hk : AskOk H (fun g => lo ≤ g ∧ g < H) w l1 w2 l3 e3 sp3 cap3 w3)
    (h11 : Blk w2 wr.heap.size [.slice none 0 0, .int .i64 0] 38) (hA8 : H < A8) (hH : H < wr.heap.size) (hwH : w.heap.size ≤ H) (hA8w : A8 < wr.heap.size := by assumption) :
    MidAt A8 H (fun g => lo ≤ g ∧ g < H) w (.bool true) (.pointer (some ⟨wr.heap.size, 0, none⟩)) (w3.setRow wr.heap.size #[.slice sp3 (lwOf l3 e3).length cap3, .int .i64 (e3 : Int)]) := by
  have hrow := butFor_row w3 wr.heap.size #[.slice sp3 (lwOf l3 e3).length cap3, .int .i64 (e3 : Int)]
  exact ⟨rfl, l3, e3, sp3, cap3, _, rfl, hk.r.other hrow (by omega) (by omega), RefIs.row (K := fun _ => True) hk.f (by omega), ⟨_, _, hrow.blk (hk.h.blk hat.a (by omega)) (by omega)⟩, (hk.h.blk h11 (by omega)).row [_, _], below_row' (hat.b.trans (hk.h.below hwH hat.b.size)) (by omega), Nat.le_trans hk.n hat.n⟩
theorem mid_a {A8 H lo : Nat} {w w2 w3 : World} {l1 l3 : List (BitVec 8)} {e1 e3 cap1 cap3 : Nat} {sp1 sp3 : Option Addr} (hat : AsksAt A8 H (fun g => lo ≤ g ∧ g < H) w l1 e1 sp1 cap1 w2) (hk : AskOk H (fun g => lo ≤ g ∧ g < H) w l1 w2 l3 e3 sp3 cap3 w3) (hA8 : H < A8) (_hH : H < w2.heap.size) (hwH : w.heap.size ≤ H) :
    MidAt A8 H (fun g => lo ≤ g ∧ g < H) w (.bool true) (.pointer (some ⟨w3.heap.size, 0, none⟩)) ((w3.alloc (.cells #[.slice none 0 0, .int .i64 0] 38)).setRow w3.heap.size #[.slice sp3 (lwOf l3 e3).length cap3, .int .i64 (e3 : Int)]) := by
  have hal : Below w3.heap.size w3 (w3.alloc (.cells #[.slice none 0 0, .int .i64 0] 38)) := (Below.refl _ _).alloc (Nat.le_refl _) _
  have hrow := butFor_row (w3.alloc (.cells #[.slice none 0 0, .int .i64 0] 38)) w3.heap.size #[.slice sp3 (lwOf l3 e3).length cap3, .int .i64 (e3 : Int)]
  have h3 : H < w3.heap.size := hk.r.lt
  have h8 := hk.h.blk hat.a (by omega)
  have hb3 : Below w.heap.size w w3 := hat.b.trans (hk.h.below hwH hat.b.size)
  exact ⟨rfl, l3, e3, sp3, cap3, _, rfl, (hk.r.below hal (Nat.le_refl _)).other hrow (by omega) (by omega), RefIs.row (K := fun _ => True) (hk.f.below hal) (by have := hb3.size; omega), ⟨_, _, hrow.blk (h8.below hal h8.lt) (by have := h8.lt; omega)⟩, (Blk.new w3 _ _).row [_, _], below_row' (hb3.trans (hal.mono hb3.size)) hb3.size, Nat.le_trans hk.n hat.n⟩
theorem asks_next {A8 H lo : Nat} {w W : World} {l3 : List (BitVec 8)} {e3 cap3 : Nat} {sp3 : Option Addr} {u0 u1 : Value} (hr : RdAt W H (fun g => lo ≤ g ∧ g < H) l3 e3) (hf : RefIs W (fun g => g < w.heap.size) sp3 (lwOf l3 e3) cap3) (hu : Blk W A8 [u0, u1] 38) (hb : Below w.heap.size w W) (hn : l3.length ≤ 1000) (hA8 : H < A8) (hwH : w.heap.size ≤ H) :
    AsksAt A8 H (fun g => lo ≤ g ∧ g < H) w l3 e3 sp3 cap3 (W.setRow A8 #[.slice sp3 (lwOf l3 e3).length cap3, .int .i64 (e3 : Int)]) :=
  ⟨hr.other (butFor_row _ _ _) (by omega) (by omega), RefIs.row (K := fun _ => True) hf (by omega), hu.row [_, _], below_row' hb (by omega), hn⟩

set_option maxRecDepth 100000 in
set_option maxHeartbeats 2000000 in
theorem wireReads_body (bs : List (BitVec 8)) (sp : Option Addr) (cap : Nat) (ps : List (BitVec 8 × Int)) (sp2 : Option Addr) (cap2 : Nat) (w : World) (hl : bs.length ≤ 1000) (hp : ps.length ≤ 100) (hc : bs.length ≤ cap) (hz : sp = none → cap = 0) (hS : SrcA w sp bs) (hP : PairsAt .i64 w sp2 ps) :
    Calls Try.prog 4 #[.slice sp bs.length cap, .slice sp2 ps.length cap2] w fun e w' => e = .returned (.bool true) ∧ Below w.heap.size w w' := by
  obtain ⟨L, hL⟩ : ∃ L, bs.length = L := ⟨_, rfl⟩
  obtain ⟨N, hN⟩ : ∃ N, ps.length = N := ⟨_, rfl⟩
  have HL := Lib.hid hL
  have HN := Lib.hid hN
  have HS := Lib.hid hS
  have HP := Lib.hid hP
  have HZ := Lib.hid hz
  have HC := Lib.hid hc
  rw [hL] at hl ⊢
  rw [hN] at hp ⊢
  clear hL hN hS hP hz hc
  go_enter Try.func4, Try.ntmps4
  go_wp2_with (first
    | (at_builtin; refine wpList_append_nil rfl _ (.tmp 21) rfl rfl sp cap bs (by rw [HL.out]; rfl) HC.out HZ.out HS.out (by have := HL.out; omega) ?_; intro v w1 hown hb _; have HO := Lib.hid hown; have HB := Lib.hid hb; clear hown hb)
    | fail)
  obtain ⟨so, co, rfl, hco, _, hso, hzo, hao⟩ := OwnB.form HO.out
  have hnew := new_any bs so co w1 (by have := HL.out; omega) hzo hco hso
  have hown := HO.out
  unfold OwnB at hown
  rw [HL.out] at hnew hown ⊢
  have HNEW := Lib.hid hnew
  have HOW := Lib.hid hown
  clear hco hso hzo hao hnew hown HO
  refine HNEW.out.mono ?_
  rintro x w2 ⟨H, rfl, hr2, hH2, hb2⟩
  obtain ⟨lo, hlo⟩ : ∃ lo, w1.heap.size = lo := ⟨_, rfl⟩
  have HO2 : Hid (OwnAt w.heap.size L (.slice so L co) H (fun g => lo ≤ g ∧ g < H) bs w w2) := Lib.hid (by
    rw [← hlo]
    refine ⟨bs.map V8, ?_, hr2, HB.out.trans (hb2.mono HB.out.size)⟩
    have h := HOW.out
    refine ⟨h.1, ?_⟩
    rcases h.2 with hn | ⟨g, c, cur, e1, hbg, hg, rest⟩
    · exact .inl hn
    · exact .inr ⟨g, c, cur, e1, hbg, by rw [hb2.block g (Array.getElem?_eq_some_iff.1 hg).1]; exact hg, rest⟩)
  have hloH : lo ≤ H := by rw [← hlo]; exact hH2
  have hwlo : w.heap.size ≤ lo := by rw [← hlo]; exact HB.out.size
  have HSRC : Hid (∀ k, (Value.slice so L co).ownBlock = some k → k < lo) := Lib.hid (fun k hk => by rw [← hlo]; exact (HOW.out.lt k hk).2)
  clear hr2 hH2 hb2 hlo HNEW HOW HB
  go_wp2
  go_loopw [7] (fun i wr => ∃ j : Nat, j ≤ L ∧ i = .int .i64 j ∧ OwnAt w.heap.size L (.slice so L co) H (fun g => lo ≤ g ∧ g < H) bs w wr) (fun i _ => L - (intOf i).toNat)
  case atStart => exact ⟨0, by omega, rfl, HO2.out⟩
  case round =>
    clear HO2
    obtain ⟨wo, rfl⟩ : ∃ W : World, W = wr := ⟨_, rfl⟩
    obtain ⟨j, hj, rfl, xs, hox, hrx, hbx⟩ := hrel
    by_cases hlt : j < L
    · have hox2 := hox.2
      rcases hox2 with ⟨_, hn0⟩ | ⟨g, cap5, cur, hv, hgB, hgc, _, _, _, _⟩
      · omega
      · obtain ⟨rfl, _, rfl⟩ : so = some ⟨g, 0, none⟩ ∧ L = L ∧ co = cap5 := by simpa using hv
        have hglo : g < lo := HSRC.out g rfl
        obtain ⟨st1, st2⟩ := hox.stored j (.int .u8 7)
        have HST := Lib.hid (show OwnAt w.heap.size L (.slice (some ⟨g, 0, none⟩) L co) H (fun g => lo ≤ g ∧ g < H) bs w (wo.setCell ⟨g, j, none⟩ (.int .u8 7)) from ⟨_, st1, hrx.other (J := g) ((ButFor.refl g wo).set j _) (by omega) (by omega), hbx.setCell hgB _⟩)
        have cj := hox.cellAt j (by omega)
        have hlx := hox.1
        rw [List.getElem?_eq_getElem (by omega)] at cj
        have fj := hox.frozenAt j
        generalize xs[j] = xj at cj
        clear st1 st2 hv hgc hlx hox hbx hrx
        go_wp2
        go_roundw
        case rel => exact ⟨j + 1, by omega, by go_num, HST.out⟩
        case measure => simp [intOf]; omega
    · obtain rfl : j = L := by omega
      have HRX := Lib.hid hrx
      have HBX := Lib.hid hbx
      have hHs : H < wo.heap.size := hrx.lt
      clear hox hrx hbx hlt hj
      go_wp2
      -- the asks
      obtain ⟨A8, hA8e⟩ : ∃ A, wo.heap.size = A := ⟨_, rfl⟩
      have HAS : Hid (AsksAt A8 H (fun g => lo ≤ g ∧ g < H) w bs 0 sp cap (wo.alloc (.cells #[.slice sp j cap, .int .i64 0] 38))) := Lib.hid (by
        have hb : Below wo.heap.size wo (wo.alloc (.cells #[.slice sp j cap, .int .i64 0] 38)) := (Below.refl _ _).alloc (Nat.le_refl _) _
        refine ⟨HRX.out.below hb (Nat.le_refl _), ⟨by rw [show lwOf bs 0 = bs from rfl]; exact HC.out, HZ.out, fun h0 => ?_⟩, ?_, HBX.out.trans (hb.mono HBX.out.size), by rw [HL.out]; exact hl⟩
        · rw [show lwOf bs 0 = bs from rfl] at h0 ⊢
          obtain ⟨g, o, e, hg, hcl⟩ := HS.out h0
          exact ⟨g, o, e, hg, Nat.lt_of_lt_of_le hg (HBX.out.trans (hb.mono HBX.out.size)).size, fun q hq => ((HBX.out.trans (hb.mono HBX.out.size)).cell (p := ⟨g, o + q, none⟩) hg).trans (hcl q hq)⟩
        · rw [show (lwOf bs 0).length = j from HL.out]
          exact Blk.new' _ _ _ _ _ hA8e.symm rfl)
      have hA8 : H < A8 := by rw [← hA8e]; exact hHs
      have hwH : w.heap.size ≤ H := by omega
      rw [hA8e]
      clear HRX HBX hA8e hHs
      go_loopw [9] (fun i wr => ∃ k : Nat, k ≤ N ∧ i = .int .i64 k ∧ ∃ l1 e1 sp1 cap1, AsksAt A8 H (fun g => lo ≤ g ∧ g < H) w l1 e1 sp1 cap1 wr) (fun i _ => N - (intOf i).toNat)
      case atStart => exact ⟨0, by omega, rfl, bs, 0, sp, cap, HAS.out⟩
      case round =>
        clear HAS
        obtain ⟨wr2, rfl⟩ : ∃ W : World, W = wr := ⟨_, rfl⟩
        obtain ⟨k, hk, rfl, l1, e1, sp1, cap1, has⟩ := hrel
        have HAS := Lib.hid has
        have HAD := Lib.hid has.drw
        have hHs2 : H < wr2.heap.size := has.r.lt
        have hA8s : A8 < wr2.heap.size := has.a.lt
        by_cases hlt : k < N
        · obtain ⟨g, o, rfl, hg, hcp⟩ := HP.out (by rw [HN.out]; omega)
          obtain ⟨q0, q1⟩ := hcp k (by rw [HN.out]; exact hlt)
          obtain ⟨x, hx⟩ : ∃ x, (ps.getD k (0, 0)).1 = x := ⟨_, rfl⟩
          obtain ⟨n, hn⟩ : ∃ n, (ps.getD k (0, 0)).2 = n := ⟨_, rfl⟩
          rw [hx] at q0
          rw [hn] at q1
          have HS0 : Hid (SAsk A8 (.slice sp1 (lwOf l1 e1).length cap1) (.int .i64 (e1 : Int)) g (o + k * 2) x n wr2.drew) := Lib.hid ⟨⟨has.a.cell (j := 0) rfl, has.a.cell (j := 1) rfl⟩, (has.b.cell (p := ⟨g, o + k * 2, none⟩) hg).trans q0, (has.b.cell (p := ⟨g, o + k * 2 + 1, none⟩) hg).trans q1, hA8s, by have := has.b.size; simp; omega⟩
          have hgH : g < H := by omega
          clear hcp q0 q1 hx hn has
          go_wp2
          go_cut [10, 11] (fun s10 s11 wx => s10 = .bool true ∧ MidAt A8 H (fun g => lo ≤ g ∧ g < H) w s10 s11 wx)
          case first =>
            refine wp_region_sched (.take 0 (.take 1 (.take 2 (.take 3 (.take 4 (.take 5 (.fork 6 (.take 7 (.take 8 (.take 9 (.step 10 (.take 11 (.step 12 (.nil))))))) 10 (.step 6 (.take 7 (.take 8 (.take 9 (.take 11 (.step 12 (.nil)))))))))))))) (by kernel_rfl) (by kernel_rfl) (fun d _ _ _ _ h => by cases d <;> exact h) (SAsk A8 (.slice sp1 (lwOf l1 e1).length cap1) (.int .i64 (e1 : Int)) g (o + k * 2) x n) HS0.out ?_
            refine wpG_take _ (.pointer (some ⟨H, 0, none⟩)) rfl (by rfl) (fun W hW => by rfl) ?_
            (try simp only [Act.put, List.setIfInBounds_toArray, List.set_cons_zero, List.set_cons_succ])
            refine wpG_take _ (.agg #[.slice sp1 (lwOf l1 e1).length cap1, .int .i64 (e1 : Int)]) rfl (by rfl) (fun W hW => ex_two rfl rfl hW.two) ?_
            (try simp only [Act.put, List.setIfInBounds_toArray, List.set_cons_zero, List.set_cons_succ])
            refine wpG_take _ (Value.slice (some ⟨g, o, none⟩) N cap2) rfl (by rfl) (fun W hW => by rfl) ?_
            (try simp only [Act.put, List.setIfInBounds_toArray, List.set_cons_zero, List.set_cons_succ])
            refine wpG_take _ (.int .i64 (k : Int)) rfl (by rfl) (fun W hW => by rfl) ?_
            (try simp only [Act.put, List.setIfInBounds_toArray, List.set_cons_zero, List.set_cons_succ])
            refine wpG_take _ (.pointer (some ⟨g, o + k * 2, none⟩)) rfl (by rfl) (fun W hW => by go_simp) ?_
            (try simp only [Act.put, List.setIfInBounds_toArray, List.set_cons_zero, List.set_cons_succ])
            refine wpG_take _ (.agg #[V8 x, .int .i64 n]) rfl (by rfl) (fun W hW => by have c0 := hW.c0; have c1 := hW.c1; go_simp) ?_
            (try simp only [Act.put, List.setIfInBounds_toArray, List.set_cons_zero, List.set_cons_succ])
            refine wpG_fork ?_ ?_
            · refine wpG_call _ rfl (by rfl) 15 #[.pointer (some ⟨H, 0, none⟩), .agg #[.slice sp1 (lwOf l1 e1).length cap1, .int .i64 (e1 : Int)], .agg #[V8 x, .int .i64 n]] (fun _ => by go_simp) (fun v w3 => ∃ l3 e3 sp3 cap3, v = .tuple #[.bool true, .agg #[.slice sp3 (lwOf l3 e3).length cap3, .int .i64 (e3 : Int)]] ∧ AskOk H (fun g => lo ≤ g ∧ g < H) w l1 wr2.drew l3 e3 sp3 cap3 w3)
                ((asked_any H _ (fun g => g < w.heap.size) l1 e1 sp1 cap1 x n wr2.drew (by have := HAD.out.n; omega) HAD.out.r HAD.out.f (by omega) (fun g hg => Nat.lt_trans hg.2 HAD.out.r.lt)).mono fun _ w3 ⟨l3, e3, sp3, cap3, hx, h1, h2, h3, h4⟩ => ⟨_, hx, HS0.out.butFor h3 (by omega) (by omega), l3, e3, sp3, cap3, rfl, h1, h2, h3, h4⟩) ?_
              rintro v w3 hS3 ⟨l3, e3, sp3, cap3, rfl, hk3⟩
              have HS3 := Lib.hid hS3
              have HK3 := Lib.hid hk3
              clear hS3 hk3
              refine ⟨_, fun _ h => h, HS3.out, ?_⟩
              (try simp only [Act.put, List.setIfInBounds_toArray, List.set_cons_zero, List.set_cons_succ])
              refine wpG_take _ (.tuple #[.bool true, .agg #[.slice sp3 (lwOf l3 e3).length cap3, .int .i64 (e3 : Int)]]) rfl (by rfl) (fun W hW => by rfl) ?_
              (try simp only [Act.put, List.setIfInBounds_toArray, List.set_cons_zero, List.set_cons_succ])
              refine wpG_take _ (.bool true) rfl (by rfl) (fun W hW => by go_simp) ?_
              (try simp only [Act.put, List.setIfInBounds_toArray, List.set_cons_zero, List.set_cons_succ])
              refine wpG_take _ (.agg #[.slice sp3 (lwOf l3 e3).length cap3, .int .i64 (e3 : Int)]) rfl (by rfl) (fun W hW => by go_simp) ?_
              (try simp only [Act.put, List.setIfInBounds_toArray, List.set_cons_zero, List.set_cons_succ])
              refine wpG_alloc _ rfl (by rfl) (.pointer (some ⟨w3.heap.size, 0, none⟩)) (w3.alloc (.cells #[.slice none 0 0, .int .i64 0] 38)) (by go_simp) (HS3.out.below ((Below.refl _ _).alloc (Nat.le_refl _) _)) ?_
              (try simp only [Act.put, List.setIfInBounds_toArray, List.set_cons_zero, List.set_cons_succ])
              refine wpG_take _ (.bool true) rfl (by rfl) (fun W hW => by rfl) ?_
              (try simp only [Act.put, List.setIfInBounds_toArray, List.set_cons_zero, List.set_cons_succ])
              refine wpG_unit _ rfl (by rfl) ((w3.alloc (.cells #[.slice none 0 0, .int .i64 0] 38)).setRow w3.heap.size #[.slice sp3 (lwOf l3 e3).length cap3, .int .i64 (e3 : Int)]) (ex_put2 rfl rfl rfl (Blk.new w3 [.slice none 0 0, .int .i64 0] 38) rfl rfl) ((HS3.out.below ((Below.refl _ _).alloc (Nat.le_refl _) _)).butFor (butFor_row _ _ _) (by have := HK3.out.h.size; simp at this; omega) (by have := HK3.out.h.size; simp at this; omega)) ?_
              (try simp only [Act.put, List.setIfInBounds_toArray, List.set_cons_zero, List.set_cons_succ])
              refine wpG_nil ?_
              have HM : Hid (MidAt A8 H (fun g => lo ≤ g ∧ g < H) w (.bool true) (.pointer (some ⟨w3.heap.size, 0, none⟩)) ((w3.alloc (.cells #[.slice none 0 0, .int .i64 0] 38)).setRow w3.heap.size #[.slice sp3 (lwOf l3 e3).length cap3, .int .i64 (e3 : Int)])) := Lib.hid (mid_a HAD.out HK3.out hA8 hHs2 hwH)
              go_wp2_with fail
              go_meet
              exact ⟨rfl, HM.out⟩
            · refine wpG_alloc _ rfl (by rfl) (.pointer (some ⟨wr2.drew.heap.size, 0, none⟩)) (wr2.drew.alloc (.cells #[.slice none 0 0, .int .i64 0] 38)) (by go_simp) (HS0.out.below ((Below.refl _ _).alloc (Nat.le_refl _) _)) ?_
              (try simp only [Act.put, List.setIfInBounds_toArray, List.set_cons_zero, List.set_cons_succ])
              obtain ⟨w2, hw2⟩ : ∃ W, wr2.drew.alloc (.cells #[.slice none 0 0, .int .i64 0] 38) = W := ⟨_, rfl⟩
              have hb2 : Below wr2.drew.heap.size wr2.drew w2 := by rw [← hw2]; exact (Below.refl _ _).alloc (Nat.le_refl _) _
              have B11 : Hid (Blk w2 wr2.drew.heap.size [.slice none 0 0, .int .i64 0] 38) := Lib.hid (by rw [← hw2]; exact Blk.new _ _ _)
              have HS2 := Lib.hid (HS0.out.below hb2)
              have HA2 := Lib.hid (HAD.out.below hb2)
              rw [hw2]
              clear hw2 hb2
              refine wpG_call _ rfl (by rfl) 15 #[.pointer (some ⟨H, 0, none⟩), .agg #[.slice sp1 (lwOf l1 e1).length cap1, .int .i64 (e1 : Int)], .agg #[V8 x, .int .i64 n]] (fun _ => by go_simp) (fun v w3 => ∃ l3 e3 sp3 cap3, v = .tuple #[.bool true, .agg #[.slice sp3 (lwOf l3 e3).length cap3, .int .i64 (e3 : Int)]] ∧ AskOk H (fun g => lo ≤ g ∧ g < H) w l1 w2 l3 e3 sp3 cap3 w3)
                ((asked_any H _ (fun g => g < w.heap.size) l1 e1 sp1 cap1 x n w2 (by have := HA2.out.n; omega) HA2.out.r HA2.out.f (by omega) (fun g hg => Nat.lt_trans hg.2 HA2.out.r.lt)).mono fun _ w3 ⟨l3, e3, sp3, cap3, hx, h1, h2, h3, h4⟩ => ⟨_, hx, HS2.out.butFor h3 (by omega) (by omega), l3, e3, sp3, cap3, rfl, h1, h2, h3, h4⟩) ?_
              rintro v w3 hS3 ⟨l3, e3, sp3, cap3, rfl, hk3⟩
              have HS3 := Lib.hid hS3
              have HK3 := Lib.hid hk3
              clear hS3 hk3
              refine ⟨_, fun _ h => h, HS3.out, ?_⟩
              (try simp only [Act.put, List.setIfInBounds_toArray, List.set_cons_zero, List.set_cons_succ])
              refine wpG_take _ (.tuple #[.bool true, .agg #[.slice sp3 (lwOf l3 e3).length cap3, .int .i64 (e3 : Int)]]) rfl (by rfl) (fun W hW => by rfl) ?_
              (try simp only [Act.put, List.setIfInBounds_toArray, List.set_cons_zero, List.set_cons_succ])
              refine wpG_take _ (.bool true) rfl (by rfl) (fun W hW => by go_simp) ?_
              (try simp only [Act.put, List.setIfInBounds_toArray, List.set_cons_zero, List.set_cons_succ])
              refine wpG_take _ (.agg #[.slice sp3 (lwOf l3 e3).length cap3, .int .i64 (e3 : Int)]) rfl (by rfl) (fun W hW => by go_simp) ?_
              (try simp only [Act.put, List.setIfInBounds_toArray, List.set_cons_zero, List.set_cons_succ])
              refine wpG_take _ (.bool true) rfl (by rfl) (fun W hW => by rfl) ?_
              (try simp only [Act.put, List.setIfInBounds_toArray, List.set_cons_zero, List.set_cons_succ])
              refine wpG_unit _ rfl (by rfl) (w3.setRow wr2.drew.heap.size #[.slice sp3 (lwOf l3 e3).length cap3, .int .i64 (e3 : Int)]) (ex_put2 rfl rfl rfl (HK3.out.h.blk B11.out (by have := hHs2; simp; omega)) rfl rfl) (HS3.out.butFor (butFor_row _ _ _) (by have := hA8; simp; omega) (by simp; omega)) ?_
              (try simp only [Act.put, List.setIfInBounds_toArray, List.set_cons_zero, List.set_cons_succ])
              refine wpG_nil ?_
              have HM : Hid (MidAt A8 H (fun g => lo ≤ g ∧ g < H) w (.bool true) (.pointer (some ⟨wr2.drew.heap.size, 0, none⟩)) (w3.setRow wr2.drew.heap.size #[.slice sp3 (lwOf l3 e3).length cap3, .int .i64 (e3 : Int)])) := Lib.hid (mid_b HA2.out HK3.out B11.out hA8 hHs2 hwH)
              go_wp2_with fail
              go_meet
              exact ⟨rfl, HM.out⟩
          case rest =>
            obtain ⟨wc1, rfl⟩ : ∃ W : World, W = wc := ⟨_, rfl⟩
            obtain ⟨rfl, _, l3, e3, sp3, cap3, A11, rfl, hr5, hf5, ha8, ha11, hb5, hn5⟩ := hcut
            have d0 := ha11.cell (j := 0) rfl
            have d1 := ha11.cell (j := 1) rfl
            obtain ⟨u0, u1, hub⟩ := ha8
            have HU := Lib.hid hub
            have HB11 := Lib.hid ha11
            have HF5 := Lib.hid hf5
            have HR4 := Lib.hid hr5
            have HB5 := Lib.hid hb5
            clear hr5 hf5 hub ha11 hb5
            go_wp2_with (first
              | (refine wpList_store_row rfl 38 (.tmp 8) (.tmp 52) rfl A8 #[.slice sp3 (lwOf l3 e3).length cap3, .int .i64 (e3 : Int)] rfl rfl 38 _ HU.out size2 rfl (all2 _ _ _ _ _) ?_; refine (fun (q : ∀ W, AsksAt A8 H (fun g => lo ≤ g ∧ g < H) w l3 e3 sp3 cap3 W → wpList _ _ _ _ _ W) => q _ (asks_next HR4.out HF5.out HU.out HB5.out hn5 hA8 hwH)) ?_; intro wc2 hat2; have HAT2 := Lib.hid hat2; have c80 := hat2.a.cell (j := 0) rfl; have c81 := hat2.a.cell (j := 1) rfl; have HR5 := Lib.hid (show RdAt wc2.drew H _ l3 e3 from hat2.r); clear hat2)
              | fail)
            refine wp_region_sched (.take 0 (.take 1 (.take 2 (.take 3 (.take 5 (.take 6 (.step 4 (.take 7 (.take 8 (.take 9 (.take 10 (.take 12 (.take 13 (.take 14 (.step 11 (.take 15 (.take 16 (.nil)))))))))))))))))) (by kernel_rfl) (by kernel_rfl) (fun d _ _ _ _ h => by cases d <;> exact h) (fun W => W = wc2.drew) rfl ?_
            refine wpG_take _ (.bool true) rfl (by rfl) (fun W hW => by subst hW; rfl) ?_
            (try simp only [Act.put, List.setIfInBounds_toArray, List.set_cons_zero, List.set_cons_succ])
            refine wpG_take _ (.bool false) rfl (by rfl) (fun W hW => by subst hW; go_simp) ?_
            (try simp only [Act.put, List.setIfInBounds_toArray, List.set_cons_zero, List.set_cons_succ])
            refine wpG_take _ (.bool false) rfl (by rfl) (fun W hW => by subst hW; rfl) ?_
            (try simp only [Act.put, List.setIfInBounds_toArray, List.set_cons_zero, List.set_cons_succ])
            refine wpG_take _ (.pointer (some ⟨H, 0, none⟩)) rfl (by rfl) (fun W hW => by subst hW; rfl) ?_
            (try simp only [Act.put, List.setIfInBounds_toArray, List.set_cons_zero, List.set_cons_succ])
            refine wpG_take _ (.pointer (some ⟨A8, 1, none⟩)) rfl (by rfl) (fun W hW => by subst hW; go_simp) ?_
            (try simp only [Act.put, List.setIfInBounds_toArray, List.set_cons_zero, List.set_cons_succ])
            refine wpG_take _ (.int .i64 (e3 : Int)) rfl (by rfl) (fun W hW => by subst hW; go_simp) ?_
            (try simp only [Act.put, List.setIfInBounds_toArray, List.set_cons_zero, List.set_cons_succ])
            refine wpG_call _ rfl (by rfl) 16 #[.pointer (some ⟨H, 0, none⟩)] (fun _ => by go_simp) (fun v _ => v = .int .i64 (e3 : Int)) ((err_any H l3 e3 _ HR5.out).mono fun _ w' ⟨hx, hw⟩ => ⟨_, hx, hw.symm, rfl⟩) ?_
            rintro v w6 rfl rfl
            refine ⟨_, fun _ h => h, rfl, ?_⟩
            (try simp only [Act.put, List.setIfInBounds_toArray, List.set_cons_zero, List.set_cons_succ])
            refine wpG_take _ (.bool false) rfl (by rfl) (fun W hW => by subst hW; go_simp) ?_
            (try simp only [Act.put, List.setIfInBounds_toArray, List.set_cons_zero, List.set_cons_succ])
            refine wpG_take _ (.bool false) rfl (by rfl) (fun W hW => by subst hW; rfl) ?_
            (try simp only [Act.put, List.setIfInBounds_toArray, List.set_cons_zero, List.set_cons_succ])
            refine wpG_take _ (.bool false) rfl (by rfl) (fun W hW => by subst hW; rfl) ?_
            (try simp only [Act.put, List.setIfInBounds_toArray, List.set_cons_zero, List.set_cons_succ])
            refine wpG_take _ (.pointer (some ⟨H, 0, none⟩)) rfl (by rfl) (fun W hW => by subst hW; rfl) ?_
            (try simp only [Act.put, List.setIfInBounds_toArray, List.set_cons_zero, List.set_cons_succ])
            refine wpG_take _ (.pointer (some ⟨A8, 0, none⟩)) rfl (by rfl) (fun W hW => by subst hW; go_simp) ?_
            (try simp only [Act.put, List.setIfInBounds_toArray, List.set_cons_zero, List.set_cons_succ])
            refine wpG_take _ (Value.slice sp3 (lwOf l3 e3).length cap3) rfl (by rfl) (fun W hW => by subst hW; go_simp) ?_
            (try simp only [Act.put, List.setIfInBounds_toArray, List.set_cons_zero, List.set_cons_succ])
            refine wpG_take _ (.int .i64 ((lwOf l3 e3).length : Int)) rfl (by rfl) (fun W hW => by subst hW; go_simp) ?_
            (try simp only [Act.put, List.setIfInBounds_toArray, List.set_cons_zero, List.set_cons_succ])
            refine wpG_call _ rfl (by rfl) 17 #[.pointer (some ⟨H, 0, none⟩)] (fun _ => by go_simp) (fun v _ => v = .int .i64 ((lwOf l3 e3).length : Int)) ((left_any H l3 e3 _ HR5.out).mono fun _ w' ⟨hx, hw⟩ => ⟨_, by rw [hx, leftOf_lw], hw.symm, rfl⟩) ?_
            rintro v w6 rfl rfl
            refine ⟨_, fun _ h => h, rfl, ?_⟩
            (try simp only [Act.put, List.setIfInBounds_toArray, List.set_cons_zero, List.set_cons_succ])
            refine wpG_take _ (.bool false) rfl (by rfl) (fun W hW => by subst hW; go_simp) ?_
            (try simp only [Act.put, List.setIfInBounds_toArray, List.set_cons_zero, List.set_cons_succ])
            refine wpG_take _ (.bool false) rfl (by rfl) (fun W hW => by subst hW; rfl) ?_
            (try simp only [Act.put, List.setIfInBounds_toArray, List.set_cons_zero, List.set_cons_succ])
            refine wpG_nil ?_
            go_wp2
            go_roundw
            case rel => exact ⟨k + 1, by omega, by go_num, l3, e3, sp3, cap3, HAT2.out.drw⟩
            case measure => simp [intOf]; omega
        · obtain rfl : k = N := by omega
          clear hlt hk has
          go_wp2_with (go_at_call 7; refine (wakes_any _).mono ?_; rintro x w9 ⟨rfl, b9⟩; have HB9 := Lib.hid (HAS.out.b.trans (b9.mono HAS.out.b.size)); clear b9)
          go_ret
          exact ⟨rfl, HB9.out⟩
end Go.Proofs.Ytfamohnbaelccaa
