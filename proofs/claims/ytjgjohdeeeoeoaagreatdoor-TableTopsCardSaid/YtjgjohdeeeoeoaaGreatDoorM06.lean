/- slices.Grow of nil; slices.Concat of two slices of bytes. -/
import Derived.Test.YtjgjohdeeeoeoaaGreatDoorM05
import Derived.Lib.AppendZerosOnto
import Derived.Lib.Walk
import Derived.Laws.OwnMore
import Derived.Test.YtjgjohdeeeoeoaaGreatDoorM02
import Derived.WalkKit
import Derived.Lib.Hide
import Derived.Deep.QuietTactic
import Derived.BigQuiet
import Derived.StillTailTactics
import Derived.Deep.RegionWith
import Derived.Deep.RegionHeld3
import Derived.Deep.MidRow
import Derived.Stop.BytesEq
import Derived.Deep.Quiet
namespace Go.Proofs.YtjgjohdeeeoeoaaGreatDoor
open Go.RowKit
theorem ownB_src {w : World} {B : Nat} {v : Value} {l m : Bs} {sp : Option Addr} {cap : Nat} (h : OwnB w B v l) (hB : B ≤ w.heap.size) (hl : l.length + m.length ≤ 1000000) (hS : SrcA w sp m) (hz : sp = none → cap = 0) (ty : TypeId) :
    ∃ v' w', (Builtin.append_ #[29, 29] ty #[v, .slice sp m.length cap]).run Tryz.prog w = .ok v' w' ∧ OwnB w' B v' (l ++ m) ∧ Below B w w' := by
  obtain ⟨i0, hi, hz0, hz1, hz2⟩ := info_parts infoB
  cases sp with
  | none =>
    have hm : m = [] := by
      rcases Nat.eq_zero_or_pos m.length with h0 | h0
      · exact List.eq_nil_of_length_eq_zero h0
      · obtain ⟨_, _, he, _⟩ := hS h0; cases he
    subst hm
    obtain rfl := hz rfl
    exact ⟨v, w, run_append_owned_none (P := Tryz.prog) (w := w) B 29 ty 5 i0 1 Tryz.underlying29 hi v l.length (l.map V8) h, by rw [List.append_nil]; exact h, Below.refl _ _⟩
  | some ad =>
    obtain ⟨v', w', hr, h2, h3, _, h5⟩ := run_append_own_at (P := Tryz.prog) w B 29 ty 5 i0 (.int .u8 0) 1 1 Tryz.underlying29 hi hz0 hz1 hz2 rfl (by decide) v l.length (l.map V8) h ad m.length cap (m.map V8) (by simp) (fun j u hj => by
      have hj2 : 0 < m.length := by
        have := (List.getElem?_eq_some_iff.1 hj).1
        simp at this; omega
      obtain ⟨g, o, e, _, hc⟩ := hS hj2
      cases e
      exact src_cell hc j u hj) (one_v8 m) (by unfold maxLen; omega) (by omega) hB
    refine ⟨v', w', hr, ?_, (Below.refl _ _).grown h3 hB (fun k hk => (h.lt k hk).1)⟩
    unfold OwnB
    rw [List.map_append, List.length_append]
    exact h2
theorem zeroCells_one (n : Nat) : (Builtin.zeroCells #[Value.int .u8 0] n).size = n := by simp [Builtin.zeroCells]
set_option maxRecDepth 100000 in
set_option maxHeartbeats 2000000 in
theorem grow_any (n : Nat) (h0 : 0 < n) (hn : n ≤ 200000) (w : World) : Calls Tryz.prog 79 #[.slice none 0 0, .int .i64 (n : Int)] w fun e w' => ∃ v, e = .returned v ∧ OwnB w' w.heap.size v [] ∧ Below w.heap.size w w' := by
  obtain ⟨i0, hi, hz0, hz1, hz2⟩ := info_parts infoB
  have hold : (Builtin.firstCells i0.size 0 (.slice none 0 0)).run Tryz.prog w.drew = .ok ([] : List Value).toArray w.drew := by rw [hz1]; exact run_firstCells_none w.drew 1 0 0 0
  have hrz : ∀ ty, (Builtin.append_ #[29, 3] ty #[.slice none 0 0, .int .i64 (n : Int)]).run Tryz.prog w = .ok (.slice (some ⟨w.heap.size, 0, none⟩) (0 + n) (grownCap w (0 + n) 0 5)) (w.drew.alloc (.cells (([] : List Value).toArray ++ Builtin.zeroCells (Value.int .u8 0).cells n ++ Builtin.zeroCells (Value.int .u8 0).cells (grownCap w (0 + n) 0 5 - (0 + n))) 5)) := fun ty =>
    Lib.run_append_grow_zeros w 29 3 ty 5 i0 (.int .u8 0) .i64 .i64 Tryz.underlying29 Tryz.underlying3 hi hz0 none 0 0 [] hold n h0 (by omega) (by omega) (by omega) (by rw [hz2]; omega) (growslice_fits (by omega) (by rw [hz2]; omega))
  have hge : 0 + n ≤ grownCap w (0 + n) 0 5 := grownCap_ge w _ _ _
  have hle := grownCap_le_maxLen w (0 + n) 0 5 (by unfold maxLen; omega)
  obtain ⟨G, hG⟩ : ∃ G, grownCap w (0 + n) 0 5 = G := ⟨_, rfl⟩
  rw [hG] at hrz hge hle
  rw [Nat.zero_add] at hrz hge
  obtain ⟨cs, hcs⟩ : ∃ cs : Array Value, (([] : List Value).toArray ++ Builtin.zeroCells (Value.int .u8 0).cells n ++ Builtin.zeroCells (Value.int .u8 0).cells (G - n)) = cs := ⟨_, rfl⟩
  have hsz : cs.size = G * 1 := by
    rw [← hcs, Array.size_append, Array.size_append]
    have e : (Value.int .u8 0).cells = #[Value.int .u8 0] := rfl
    rw [e, zeroCells_one, zeroCells_one]
    simp
    omega
  rw [hcs] at hrz
  have hO : OwnB (w.drew.alloc (.cells cs 5)) w.heap.size (.slice (some ⟨w.heap.size, 0, none⟩) 0 G) [] := World.ownsRow_made w.drew cs G (Nat.le_refl _) hle hsz
  have HO := Lib.hid hO
  have HRZ := Lib.hid hrz
  have hG63 : G ≤ 9223372036854775807 := by unfold maxLen at hle; omega
  clear hcs hsz hO hrz hold hG hle hi hz0 hz1 hz2
  have q : (0 : Int) < (n : Int) := by omega
  have qn : ¬ (n : Int) < 0 := by omega
  have e0 := IntWalk.i64_in ((n : Int) - 0) (by omega)
  go_enter Tryz.func79, Tryz.ntmps79
  go_wp2_with (first | (at_builtin; refine Lib.wpList_append_run _ rfl _ _ _ _ rfl _ _ rfl rfl _ _ (HRZ.out _) ?_) | fail)
  go_ret
  exact ⟨_, rfl, HO.out, (Below.refl _ _).drew.alloc (Nat.le_refl _) _⟩
def CcI (a b : Bs) (k : Nat) : Bs := if k = 0 then [] else if k = 1 then a else a ++ b
set_option maxRecDepth 100000 in
set_option maxHeartbeats 2000000 in
theorem conc_any (a b : Bs) (sp0 sp1 : Option Addr) (c0 c1 g : Nat) (w : World) (h0 : 0 < a.length + b.length) (hl : a.length + b.length ≤ 100000) (hg : g < w.heap.size)
    (x0 : w.cell? ⟨g, 0, none⟩ = some (.slice sp0 a.length c0)) (x1 : w.cell? ⟨g, 1, none⟩ = some (.slice sp1 b.length c1)) (hS0 : SrcA w sp0 a) (hS1 : SrcA w sp1 b) (hz0 : sp0 = none → c0 = 0) (hz1 : sp1 = none → c1 = 0) :
    Calls Tryz.prog 50 #[.slice (some ⟨g, 0, none⟩) 2 2] w fun e w' => ∃ v, e = .returned v ∧ OwnB w' w.heap.size v (a ++ b) ∧ Below w.heap.size w w' := by
  obtain ⟨A, hA⟩ : ∃ A, a.length = A := ⟨_, rfl⟩
  obtain ⟨B, hB⟩ : ∃ B, b.length = B := ⟨_, rfl⟩
  have HA := Lib.hid hA; have HB := Lib.hid hB; have HS0 := Lib.hid hS0; have HS1 := Lib.hid hS1; have HZ0 := Lib.hid hz0; have HZ1 := Lib.hid hz1
  have HX0 := Lib.hid x0; have HX1 := Lib.hid x1
  rw [hA] at x0 h0 hl; rw [hB] at x1 h0 hl
  have e1 := IntWalk.i64_in ((A : Int) + (B : Int)) (by omega)
  have e2 := IntWalk.i64_in (0 + (A : Int)) (by omega)
  have qa : ¬ (A : Int) < 0 := by omega
  have qb : ¬ (A : Int) + (B : Int) < 0 := by omega
  clear hA hB hS0 hS1 hz0 hz1
  go_enter Tryz.func50, Tryz.ntmps50
  go_wp2
  go_loop [3, 11] (fun s i => (s = .int .i64 0 ∧ i = .int .i64 0) ∨ (s = .int .i64 (A : Int) ∧ i = .int .i64 1) ∨ (s = .int .i64 ((A : Int) + (B : Int)) ∧ i = .int .i64 2)) (fun _ i => 2 - (intOf i).toNat)
  case atStart => exact .inl ⟨rfl, rfl⟩
  case round =>
    rcases hrel with ⟨rfl, rfl⟩ | ⟨rfl, rfl⟩ | ⟨rfl, rfl⟩
    · go_wp2
      go_round
      case rel => exact .inr (.inl ⟨rfl, rfl⟩)
      case measure => simp [intOf]
    · go_wp2
      go_round
      case rel => exact .inr (.inr ⟨rfl, rfl⟩)
      case measure => simp [intOf]
    · clear e1 e2 qa qb x0 x1
      have hc := grow_any (A + B) h0 (by omega) w
      rw [show ((A + B : Nat) : Int) = (A : Int) + (B : Int) by omega] at hc
      have HC := Lib.hid hc
      clear hc
      go_wp2_with (first | (go_at_call 79; refine HC.out.mono ?_; rintro e w1 ⟨v1, rfl, ho1, hb1⟩; have HO1 := Lib.hid ho1; have HB1 := Lib.hid hb1; clear ho1 hb1) | fail)
      go_loopw [6, 27] (fun v i wr => ∃ k : Nat, k ≤ 2 ∧ i = .int .i64 (k : Int) ∧ OwnB wr w.heap.size v (CcI a b k) ∧ Below w.heap.size w wr) (fun _ i _ => 2 - (intOf i).toNat)
      case atStart => exact ⟨0, by omega, rfl, HO1.out, HB1.out⟩
      case round =>
        clear HO1 HB1 HC
        obtain ⟨k, hk, rfl, ho, hb⟩ := hrel
        have hk3 : k = 0 ∨ k = 1 ∨ k = 2 := by omega
        have y0 : wr.cell? ⟨g, 0, none⟩ = some (.slice sp0 A c0) := (hb.cell (p := ⟨g, 0, none⟩) hg).trans (by rw [HX0.out, HA.out])
        have y1 : wr.cell? ⟨g, 1, none⟩ = some (.slice sp1 B c1) := (hb.cell (p := ⟨g, 1, none⟩) hg).trans (by rw [HX1.out, HB.out])
        rcases hk3 with rfl | rfl | rfl
        · obtain ⟨v', w', hr, ho', hb'⟩ := ownB_src (m := a) ho hb.size (by rw [HA.out]; simp [CcI]; omega) (HS0.out.below hb (Nat.le_refl _)) HZ0.out 29
          rw [HA.out] at hr
          have HR := Lib.hid hr
          have HN : Hid (OwnB w' w.heap.size v' (CcI a b 1) ∧ Below w.heap.size w w') := Lib.hid ⟨by simpa [CcI] using ho', hb.trans hb'⟩
          obtain ⟨sp', n', c', rfl⟩ : ∃ sp n c, v' = .slice sp n c := by
            obtain ⟨sp, c, e, _⟩ := OwnB.form ho'
            exact ⟨sp, _, c, e⟩
          clear hr ho' hb' ho hb
          go_wp2_with (first | (at_builtin; refine wpL_val rfl (ex_appB rfl rfl rfl HR.out) ?_) | fail)
          go_roundw
          case rel => exact ⟨1, by omega, rfl, HN.out⟩
          case measure => simp [intOf]
        · obtain ⟨v', w', hr, ho', hb'⟩ := ownB_src (m := b) ho hb.size (by rw [HB.out]; simp [CcI, HA.out]; omega) (HS1.out.below hb (Nat.le_refl _)) HZ1.out 29
          rw [HB.out] at hr
          have HR := Lib.hid hr
          have HN : Hid (OwnB w' w.heap.size v' (CcI a b 2) ∧ Below w.heap.size w w') := Lib.hid ⟨by simpa [CcI] using ho', hb.trans hb'⟩
          obtain ⟨sp', n', c', rfl⟩ : ∃ sp n c, v' = .slice sp n c := by
            obtain ⟨sp, c, e, _⟩ := OwnB.form ho'
            exact ⟨sp, _, c, e⟩
          clear hr ho' hb' ho hb
          go_wp2_with (first | (at_builtin; refine wpL_val rfl (ex_appB rfl rfl rfl HR.out) ?_) | fail)
          go_roundw
          case rel => exact ⟨2, by omega, rfl, HN.out⟩
          case measure => simp [intOf]
        · have HN := Lib.hid (And.intro ho hb)
          clear ho hb
          go_wp2
          go_ret
          exact ⟨_, rfl, by simpa [CcI] using HN.out.1, HN.out.2⟩
def PuRel (p : Pt) (w : World) (v i : Value) (wr : World) : Prop :=
  ∃ k : Nat, k ≤ 4 ∧ i = .int .i64 (k : Int) ∧ OwnB wr w.heap.size v (tagB p ++ p.hash ++ tailB (p.ats.take k)) ∧ Below w.heap.size w wr
theorem body_len {p : Pt} (hp : p.OK) {k : Nat} (hk : k ≤ 4) : (tagB p ++ p.hash ++ tailB (p.ats.take k)).length = 48 + 2 * k := by
  have := hp.len
  simp [tagB_length, hp.hash, tailB_length]
  omega
set_option maxRecDepth 100000 in
set_option maxHeartbeats 4000000 in
theorem ptrPut_any (p : Pt) (hp : p.OK) (l : Bs) (sp : Option Addr) (cap : Nat) (w : World) (hl : l.length ≤ 1000) (hS : SrcA w sp l) (hz : sp = none → cap = 0) :
    Calls Tryz.prog 24 #[.slice sp l.length cap, .agg (pcells p).toArray] w fun e w' => ∃ v, e = .returned v ∧ OwnB w' w.heap.size v (l ++ padB p) ∧ Below w.heap.size w w' := by
  have HP := Lib.hid hp
  have HG0 : Hid (Blk (w.alloc (.cells (pcells p).toArray 28)) w.heap.size (pcells p) 28) := Lib.hid (Blk.new _ _ _)
  have HB0 : Hid (Below w.heap.size w (w.alloc (.cells (pcells p).toArray 28))) := Lib.hid ((Below.refl _ _).alloc (Nat.le_refl _) _)
  obtain ⟨L, hL⟩ : ∃ L, l.length = L := ⟨_, rfl⟩
  rw [hL] at hl ⊢
  have HL := Lib.hid hL; have HS := Lib.hid hS; have HZ := Lib.hid hz
  clear hp hL hS hz
  go_enter Tryz.func24, Tryz.ntmps24
  go_upto_region 1 with fail
  generalize (w.alloc (.cells (pcells p).toArray 28)) = W0 at HG0 HB0 ⊢
  refine gS (.take 0 (.take 2 (.take 3 (.step 1 (.step 4 (.take 5 (.nil))))))) (fun X => Blk X w.heap.size (pcells p) 28) HG0.out.drew ?_
  refine wpG_take _ (.agg (pcells p).toArray) rfl (by rfl) (fun X hX => ex_ld rfl rfl (rng_all hX) Tryz.underlying28 rfl (by rw [sizeP, pcells_length HP.out])) ?_; try simp only [pS]
  refine wpG_take _ (.pointer (some ⟨w.heap.size, 5, none⟩)) rfl (by rfl) (fun X hX => ex_faP 5 5 (by omega) rfl rfl) ?_; try simp only [pS]
  refine wpG_take _ (.slice (some ⟨w.heap.size, 5, none⟩) 32 32) rfl (by rfl) (fun X hX => ex_slH rfl rfl) ?_; try simp only [pS]
  refine wpG_call _ rfl (by rfl) 48 #[.agg (pcells p).toArray] (fun _ => by go_simp) (fun u w' => OwnB w' W0.heap.size u (tagB p) ∧ Below W0.heap.size W0 w') ((tag_any p HP.out W0.drew).mono fun e w' ⟨v, e1, e2, e3⟩ => ⟨v, e1, HG0.out.drew.below e3 HG0.out.lt, e2, (Below.refl _ _).drew.trans e3⟩) ?_
  rintro u w2 hs2 ⟨ho2, hb2⟩
  refine ⟨_, fun _ h => h, hs2, ?_⟩; try simp only [pS]
  obtain ⟨v3, w3, hr3, ho3, hb3⟩ := ownB_app (m := p.hash) ho2 hb2.size (by rw [tagB_length, HP.out.hash]; omega) (g := w.heap.size) (off := 5) (c := 32) (rng_hash hs2) 29
  rw [HP.out.hash] at hr3
  refine wpG_mk _ rfl (by rfl) v3 w3 (ex_appB rfl rfl rfl hr3) _ (hs2.below hb3 HG0.out.lt) (fun _ h => h) ?_; try simp only [pS]
  refine wpG_take _ (v3) rfl (by rfl) (fun X hX => by rfl) ?_; try simp only [pS]
  refine wpG_nil ?_
  have HS3 := Lib.hid (hs2.below hb3 HG0.out.lt)
  have HO3 := Lib.hid (ho3.mono (B' := w.heap.size) HB0.out.size)
  have HB3 := Lib.hid (HB0.out.trans ((hb2.trans hb3).mono HB0.out.size))
  clear hs2 ho2 hb2 hr3 ho3 hb3
  have HATS : Hid ((p.ats.map U16).length = 4) := Lib.hid (by simp [HP.out.len])
  obtain ⟨sp3, n3, c3, rfl⟩ : ∃ sp n c, v3 = .slice sp n c := by
    obtain ⟨sp, c, e, _⟩ := OwnB.form HO3.out
    exact ⟨sp, _, c, e⟩
  go_wp2_with (first | (refine wpL_val rfl (ex_ld (ty := 26) (cs := p.ats.map U16) rfl rfl (rng_ats HS3.out HP.out.hash) Tryz.underlying26 rfl (by rw [sizeAts, HATS.out])) ?_) | fail)
  have HR := Lib.hid (show PuRel p w (.slice sp3 n3 c3) (.int .i64 0) w3 from ⟨0, by omega, rfl, by simpa [tailB] using HO3.out, HB3.out⟩)
  clear HS3 HB3 HO3 HB0 HG0
  go_loopw [5, 15] (fun v i wr => PuRel p w v i wr) (fun _ i _ => 4 - (intOf i).toNat)
  case atStart => exact HR.out
  case round =>
    clear HR
    obtain ⟨k, hk, rfl, hO, hB⟩ := hrel
    have HO := Lib.hid hO
    have HB := Lib.hid hB
    obtain ⟨sp4, cap4, e, q1, q2, q3, q4, q5⟩ := OwnB.form hO
    have HS4 := Lib.hid q3
    have HZ4 := Lib.hid q4
    have hlen := body_len HP.out hk
    rw [hlen] at e
    subst e
    clear hO hB q1 q2 q3 q4 q5
    have wk1 := IntWalk.i64_in ((k : Int) + 1) (by omega)
    by_cases hlt : k < 4
    · obtain ⟨x, hx⟩ : ∃ x, p.ats[k]? = some x := ⟨_, List.getElem?_eq_getElem (by rw [HP.out.len]; exact hlt)⟩
      have hxl : x < 65536 := HP.out.ats x (List.mem_of_getElem? hx)
      have hix : ∀ W : World, (Instr.index 26 (.agg (p.ats.map U16).toArray) (.int .i64 (k : Int))).run Tryz.prog W = .ok (.int .u16 (x : Int)) W := fun W => index_ats p hx hlt W
      have HX := Lib.hid hx
      have hc := pu16_any (tagB p ++ p.hash ++ tailB (p.ats.take k)) sp4 cap4 x wr (by omega) hxl HS4.out
      rw [hlen] at hc
      have HC := Lib.hid hc
      clear hx hc hlen
      go_wp2_with fail
      refine HC.out.mono ?_
      rintro e w4 ⟨rfl, ho4, hb4⟩
      have HO4 := Lib.hid ho4
      have HB4 := Lib.hid hb4
      clear ho4 hb4
      go_wp2_with fail
      go_roundw
      case rel =>
        refine ⟨k + 1, by omega, by go_num, ?_, HB.out.trans (HB4.out.mono HB.out.size)⟩
        have h1 := HO4.out
        rw [List.append_assoc, ← tailB_snoc, ← val_take_one HX.out] at h1
        have h2 : (tagB p ++ p.hash ++ tailB (p.ats.take (k + 1))).length = 48 + 2 * k + 2 := by rw [body_len HP.out (by omega)]; omega
        rw [h2] at h1
        exact h1.mono HB.out.size
      case measure => simp [intOf]; omega
    · obtain rfl : k = 4 := by omega
      have e4 : p.ats.take 4 = p.ats := List.take_of_length_le (by rw [HP.out.len]; omega)
      have hbody : tagB p ++ p.hash ++ tailB (p.ats.take 4) = bodyB p := by rw [e4]; rfl
      rw [hbody] at HS4
      have HBL : Hid ((bodyB p).length = 56) := Lib.hid (bodyB_length HP.out)
      rw [show 48 + 2 * 4 = 56 from rfl]
      have hc := fill_any (bodyB p) sp4 cap4 64 wr (by rw [HBL.out]; omega) (by omega) HS4.out
      rw [HBL.out] at hc
      have HC := Lib.hid hc
      clear hlt hk e4 hbody hlen hc
      rw [show ((4 : Nat) : Int) = (4 : Int) from rfl]
      go_wp2_with (first | (go_at_call 23; refine HC.out.mono ?_; fail) | fail)
      refine HC.out.mono ?_
      rintro e w5 ⟨v5, rfl, ho5, hb5⟩
      have hpad : fillOf (bodyB p) 64 = padB p := by
        unfold fillOf padB
        rw [HBL.out]
        rfl
      rw [hpad] at ho5
      obtain ⟨sp5, cap5, e5, q1, q2, q3, q4, q5⟩ := OwnB.form ho5
      have hpl := padB_length HP.out
      rw [hpl] at e5
      subst e5
      have hbb := HB.out.trans (hb5.mono HB.out.size)
      have hw := hbb.size
      have hbk : Blk (w5.alloc (.cells #[.slice sp L cap, .slice sp5 64 cap5] 29)) w5.heap.size [.slice sp L cap, .slice sp5 64 cap5] 29 := Blk.new' _ _ _ _ _ rfl rfl
      have hz6 : Below w5.heap.size w5 (w5.alloc (.cells #[.slice sp L cap, .slice sp5 64 cap5] 29)) := (Below.refl _ _).alloc (Nat.le_refl _) _
      have hc6 := conc_any l (padB p) sp sp5 cap cap5 w5.heap.size _ (by rw [hpl]; omega) (by rw [HL.out, hpl]; omega) (by simp) (by rw [HL.out]; exact hbk.cell rfl) (by rw [hpl]; exact hbk.cell rfl) ((HS.out.below hbb (Nat.le_refl _)).grown hz6) (q3.grown hz6) HZ.out q4
      have HC6 : Hid (Calls Tryz.prog 50 #[.slice (some ⟨w5.heap.size, 0, none⟩) 2 2] (w5.alloc (.cells #[.slice sp L cap, .slice sp5 64 cap5] 29)) fun e w' => ∃ v, e = .returned v ∧ OwnB w' w.heap.size v (l ++ padB p) ∧ Below w.heap.size w w') := Lib.hid (hc6.mono fun e w' ⟨v, e1, e2, e3⟩ => ⟨v, e1, e2.mono (by simp; omega), hbb.trans ((hz6.trans (e3.mono (by simp))).mono hw)⟩)
      clear hc6 hbk hz6 hbb q1 q2 q3 q4 q5 hpad ho5 hb5 hpl hw HC HO HS4 HZ4
      go_wp2_with (first | (go_at_call 50; refine HC6.out.mono ?_; rintro e w7 ⟨v7, rfl, ho7, hb7⟩; have HO7 := Lib.hid ho7; have HB7 := Lib.hid hb7; clear ho7 hb7) | fail)
      go_ret
      exact ⟨_, rfl, HO7.out, HB7.out⟩
theorem take_oneB {l : Bs} {k : Nat} {x : BitVec 8} (h : l[k]? = some x) : l.take (k + 1) = l.take k ++ [x] := by
  obtain ⟨h2, h3⟩ := List.getElem?_eq_some_iff.1 h
  rw [List.take_succ_eq_append_getElem h2, h3]
def QbRel (p : Pt) (w : World) (v : Value) (l : Bs) (wr : World) : Prop := OwnB wr (w.heap.size + 1) v l ∧ Below w.heap.size w wr ∧ Blk wr w.heap.size (pcells p) 28
theorem QbRel.next {p : Pt} {w wr w' : World} {v v' : Value} {l l' : Bs} (h : QbRel p w v l wr) (ho : OwnB w' (w.heap.size + 1) v' l') (hb : Below (w.heap.size + 1) wr w') : QbRel p w v' l' w' :=
  have h1 := h.2.2.lt
  ⟨ho, h.2.1.trans (hb.mono (by omega)), h.2.2.below hb (by omega)⟩
theorem QbRel.num {p : Pt} {w wr w4 : World} {v u : Value} {l : Bs} {n k : Nat} (h : QbRel p w v l wr) (hl : l.length ≤ 100) (hk : k ≤ 8) (ho4 : OwnB w4 wr.heap.size u (leb n k)) (hb4 : Below wr.heap.size wr w4) :
    ∃ sp n' c v5 w5, (∃ sp4 cap4, u = .slice sp4 k cap4) ∧ v5 = .slice sp n' c ∧ (∀ ty, (Builtin.append_ #[29, 29] ty #[v, u]).run Tryz.prog w4 = .ok v5 w5) ∧ QbRel p w v5 (l ++ leb n k) w5 := by
  obtain ⟨sp4, cap4, e4, q1, q2, q3, q4, q5⟩ := OwnB.form ho4
  rw [leb_length] at e4
  subst e4
  have h1 := h.2.2.lt
  obtain ⟨v5, w5, hr5, ho5, hb5⟩ := ownB_src (m := leb n k) (h.1.below hb4 (Nat.le_refl _)) (by have := hb4.size; omega) (by rw [leb_length]; omega) q3 q4 29
  rw [leb_length] at hr5
  obtain ⟨sp, c, e, _⟩ := OwnB.form ho5
  exact ⟨sp, _, c, v5, w5, ⟨_, _, rfl⟩, e, fun _ => hr5, h.next ho5 ((hb4.mono (by omega)).trans hb5)⟩
theorem qb_start {p : Pt} (hp : p.OK) (w : World) : QbRel p w (.slice (some ⟨w.heap.size + 1, 0, none⟩) 2 2) (leb p.kind 1 ++ leb p.level 1) ((w.alloc (.cells (pcells p).toArray 28)).alloc (.cells #[.int .u8 (p.kind : Int), .int .u8 (p.level : Int)] 5)) := by
  have h : Blk ((w.alloc (.cells (pcells p).toArray 28)).alloc (.cells #[.int .u8 (p.kind : Int), .int .u8 (p.level : Int)] 5)) (w.heap.size + 1) [V8 (lb p.kind 0), V8 (lb p.level 0)] 5 := Blk.new' _ _ _ _ _ (by simp) (by rw [u8_cell hp.kind, u8_cell hp.level])
  have ho := h.owns (base := w.heap.size + 1) (n := 2) (Nat.le_refl _) (Nat.le_refl _) (by unfold maxLen; simp)
  exact ⟨ho, ((Below.refl _ _).alloc (Nat.le_refl _) _).alloc (by simp) _, (Blk.new _ _ _).alloc _⟩
set_option maxRecDepth 100000 in
set_option maxHeartbeats 8000000 in
theorem qbytes_any (p : Pt) (hp : p.OK) (w : World) : Calls Tryz.prog 9 #[.agg (pcells p).toArray] w fun e w' => ∃ v, e = .returned v ∧ OwnB w' w.heap.size v (padB p) ∧ Below w.heap.size w w' := by
  have HP := Lib.hid hp
  have HG0 : Hid (Blk (w.alloc (.cells (pcells p).toArray 28)) w.heap.size (pcells p) 28) := Lib.hid (Blk.new _ _ _)
  have cK := HG0.out.cell (j := 0) rfl
  have cL := HG0.out.cell (j := 1) rfl
  have b1 := hp.obj; have b2 := hp.off; have b3 := hp.birth
  have HB1 := Lib.hid b1; have HB2 := Lib.hid b2; have HB3 := Lib.hid b3
  clear hp b1 b2 b3
  go_enter Tryz.func9, Tryz.ntmps9
  go_upto_region 2 with fail
  refine (fun (k : ∀ W1, QbRel p w (.slice (some ⟨w.heap.size + 1, 0, none⟩) 2 2) (leb p.kind 1 ++ leb p.level 1) W1 → Code.wp _ _ _ _ W1) => k _ (qb_start HP.out w)) ?_
  intro W1 hR1
  have HR1 := Lib.hid hR1
  clear cK cL HG0 hR1
  have c1 : W1.cell? ⟨w.heap.size, 2, none⟩ = some (.int .u16 (p.obj : Int)) := HR1.out.2.2.cell rfl
  have e1 := u64_in p.obj (by have := HB1.out; omega)
  go_wp2_with fail
  refine (wNum_any p.obj 2 W1 (by omega) (by have := HB1.out; omega)).mono ?_
  rintro e w2 ⟨u2, rfl, ho2, hb2⟩
  obtain ⟨sp2, n2, k2, v3, w3, ⟨_, _, rfl⟩, rfl, hr3, hq3⟩ := HR1.out.num (by simp [leb_length]) (by omega) ho2 hb2
  have HA2 := Lib.hid hr3; have HR2 := Lib.hid hq3
  clear ho2 hb2 hr3 hq3 HR1 c1 e1
  have c2 : w3.cell? ⟨w.heap.size, 3, none⟩ = some (.int .u32 (p.off : Int)) := HR2.out.2.2.cell rfl
  have e2 := u64_in p.off (by have := HB2.out; omega)
  go_wp2_with (first | (at_builtin; refine wpL_val rfl (ex_appB rfl rfl rfl (HA2.out _)) ?_) | fail)
  refine (wNum_any p.off 4 w3 (by omega) (by have := HB2.out; omega)).mono ?_
  rintro e w4 ⟨u4, rfl, ho4, hb4⟩
  obtain ⟨sp4, n4, k4, v5, w5, ⟨_, _, rfl⟩, rfl, hr5, hq5⟩ := HR2.out.num (by simp [leb_length]) (by omega) ho4 hb4
  have HA3 := Lib.hid hr5; have HR3 := Lib.hid hq5
  clear ho4 hb4 hr5 hq5 HR2 HA2 c2 e2
  have c3 : w5.cell? ⟨w.heap.size, 4, none⟩ = some (.int .u64 (p.birth : Int)) := HR3.out.2.2.cell rfl
  go_wp2_with (first | (at_builtin; refine wpL_val rfl (ex_appB rfl rfl rfl (HA3.out _)) ?_) | fail)
  refine (wNum_any p.birth 8 w5 (by omega) HB3.out).mono ?_
  rintro e w6 ⟨u6, rfl, ho6, hb6⟩
  obtain ⟨sp6, n6, k6, v7, w7, ⟨_, _, rfl⟩, rfl, hr7, hq7⟩ := HR3.out.num (by simp [leb_length]) (by omega) ho6 hb6
  have HA4 := Lib.hid hr7
  have HR4 : Hid (QbRel p w (.slice sp6 n6 k6) (tagB p ++ p.hash.take 0) w7) := Lib.hid (by simpa [tagB] using hq7)
  clear ho6 hb6 hr7 hq7 HR3 HA3 c3
  go_wp2_with (first | (at_builtin; refine wpL_val rfl (ex_appB rfl rfl rfl (HA4.out _)) ?_) | fail)
  go_loopw [3, 4] (fun v i wr => ∃ k : Nat, k ≤ 32 ∧ i = .int .i64 (k : Int) ∧ QbRel p w v (tagB p ++ p.hash.take k) wr) (fun _ i _ => 32 - (intOf i).toNat)
  case atStart => exact ⟨0, by omega, rfl, HR4.out⟩
  case round =>
    clear HR4 HA4
    obtain ⟨k, hk, rfl, hR⟩ := hrel
    have HR := Lib.hid hR
    obtain ⟨sp, cap, rfl, -⟩ := OwnB.form hR.1
    have hgl := hR.2.2
    have hgs := hgl.lt
    have wk1 := IntWalk.i64_in ((k : Int) + 1) (by omega)
    clear hR
    by_cases hlt : k < 32
    · obtain ⟨x, hx⟩ : ∃ x, p.hash[k]? = some x := ⟨_, List.getElem?_eq_getElem (by have := HP.out.hash; omega)⟩
      have cx := cell_hash hgl hx
      have hz : Below wr.heap.size wr (wr.alloc (.cells #[V8 x] 5)) := (Below.refl _ _).alloc (Nat.le_refl _) _
      obtain ⟨v3, w3, hr3, ho3, hb3⟩ := ownB_app (m := [x]) (HR.out.1.below hz (Nat.le_refl _)) (by have := hz.size; omega) (by simp [tagB_length]; omega) (g := wr.heap.size) (off := 0) (c := 1) (rng_all (Blk.new wr [V8 x] 5)) 29
      obtain ⟨sp3, n3, cap3, rfl⟩ : ∃ sp n c, v3 = .slice sp n c := by
        obtain ⟨sp, c, e, _⟩ := OwnB.form ho3
        exact ⟨sp, _, c, e⟩
      have HR3 := Lib.hid hr3
      have HN := Lib.hid (show QbRel p w (.slice sp3 n3 cap3) (tagB p ++ p.hash.take (k + 1)) w3 from HR.out.next (by rw [take_oneB hx, ← List.append_assoc]; exact ho3) ((hz.mono (by omega)).trans hb3))
      clear hx hgl hr3 ho3 hb3 hz HR
      go_wp2_with (first | (at_builtin; refine wpL_val rfl (ex_appB rfl rfl rfl HR3.out) ?_) | fail)
      go_roundw
      case rel => exact ⟨k + 1, by omega, by go_num, HN.out⟩
      case measure => simp [intOf]; omega
    · have em : (k : Int) = 32 := by omega
      rw [em]
      obtain rfl : k = 32 := by omega
      clear em
      have e32 : p.hash.take 32 = p.hash := List.take_of_length_le (by have := HP.out.hash; omega)
      have HR2 : Hid (QbRel p w (.slice sp (tagB p ++ p.hash.take 32).length cap) (tagB p ++ p.hash ++ tailB (p.ats.take 0)) wr) := Lib.hid (by have := HR.out; rw [e32] at this ⊢; simpa [tailB] using this)
      clear hlt hk hgl HR e32
      go_wp2_with fail
      go_loopw [3, 5] (fun v i wr => ∃ k : Nat, k ≤ 4 ∧ i = .int .i64 (k : Int) ∧ QbRel p w v (tagB p ++ p.hash ++ tailB (p.ats.take k)) wr) (fun _ i _ => 4 - (intOf i).toNat)
      case atStart => exact ⟨0, by omega, rfl, HR2.out⟩
      case round =>
        clear HR2
        obtain ⟨k, hk, rfl, hR⟩ := hrel
        have HR := Lib.hid hR
        obtain ⟨sp, cap, e, -⟩ := OwnB.form hR.1
        have hlen := body_len HP.out hk
        have HLN := Lib.hid hlen
        rw [hlen] at e
        subst e
        have hgl := hR.2.2
        have hgs := hgl.lt
        have wk1 := IntWalk.i64_in ((k : Int) + 1) (by omega)
        clear hR hlen
        by_cases hlt : k < 4
        · obtain ⟨x, hx⟩ : ∃ x, p.ats[k]? = some x := ⟨_, List.getElem?_eq_getElem (by have := HP.out.len; omega)⟩
          have cx := cell_ats hgl HP.out.hash hx
          have hxl : x < 65536 := HP.out.ats x (List.mem_of_getElem? hx)
          have hw64 : IntKind.u64.wrap (x : Int) = (x : Int) := u64_in x (by omega)
          have HX := Lib.hid hx
          have HXL := Lib.hid hxl
          clear hx hgl hxl
          go_wp2_with fail
          refine (wNum_any x 2 wr (by omega) (by have := HXL.out; omega)).mono ?_
          rintro e w4 ⟨u, rfl, ho4, hb4⟩
          obtain ⟨sp5, n5, cap5, v5, w5, ⟨_, _, rfl⟩, rfl, hr5, hq5⟩ := HR.out.num (by rw [HLN.out]; omega) (by omega) ho4 hb4
          have HR5 := Lib.hid hr5
          have HN := Lib.hid (show QbRel p w (.slice sp5 n5 cap5) (tagB p ++ p.hash ++ tailB (p.ats.take (k + 1))) w5 by rw [val_take_one HX.out, tailB_snoc, ← List.append_assoc]; exact hq5)
          clear hr5 hq5 ho4 hb4 HR
          go_wp2_with (first | (at_builtin; refine wpL_val rfl (ex_appB rfl rfl rfl (HR5.out _)) ?_) | fail)
          go_roundw
          case rel => exact ⟨k + 1, by omega, by go_num, HN.out⟩
          case measure => simp [intOf]; omega
        · have em : (k : Int) = 4 := by omega
          rw [em]
          obtain rfl : k = 4 := by omega
          clear em
          have e4 : p.ats.take 4 = p.ats := List.take_of_length_le (by have := HP.out.len; omega)
          have hb : tagB p ++ p.hash ++ tailB (p.ats.take 4) = bodyB p := by rw [e4]; rfl
          have hR3 := HR.out
          rw [hb] at hR3
          have hbl : (bodyB p).length = 56 := bodyB_length HP.out
          obtain ⟨sp9, cap9, e9, q1, q2, q3, q4, q5⟩ := OwnB.form hR3.1
          rw [hbl] at e9
          injection e9 with e91 e92 e93
          subst e91 e93
          have hc := wFillR_any (bodyB p) sp cap 64 wr (by rw [hbl]; omega) (by omega) q1 q4 q3
          rw [hbl] at hc
          have hpad : fillOf (bodyB p) 64 = padB p := by
            unfold fillOf padB
            rw [hbl]
            rfl
          rw [hpad] at hc
          have HC := Lib.hid hc
          have HBW := Lib.hid hR3.2.1
          clear hlt hk hgl HR HLN e4 hb hbl hc hR3 q1 q2 q3 q4 q5 e92
          rw [show 48 + 2 * 4 = 56 from rfl]
          go_wp2_with (first | (go_at_call 7; refine HC.out.mono ?_; rintro e w9 ⟨v9, rfl, ho9, hb9⟩; have HO9 := Lib.hid (ho9.mono (B' := w.heap.size) HBW.out.size); have HB9 := Lib.hid (HBW.out.trans (hb9.mono HBW.out.size)); clear ho9 hb9) | fail)
          go_ret
          exact ⟨_, rfl, HO9.out, HB9.out⟩
def N32 (x : BitVec 32) : Int := (x.toNat : Int)
abbrev V32 (x : BitVec 32) : Value := .int .u32 (N32 x)
def rot (x : BitVec 32) (n : Nat) : BitVec 32 := x >>> n ||| x <<< (32 - n)
theorem n32_nonneg (x : BitVec 32) : 0 ≤ N32 x := by unfold N32; omega
theorem n32_lt (x : BitVec 32) : N32 x < 4294967296 := by unfold N32; have := x.isLt; omega
theorem shr32 (x : BitVec 32) (n : Nat) : N32 x / 2 ^ n = N32 (x >>> n) := by
  unfold N32
  rw [BitVec.toNat_ushiftRight, Nat.shiftRight_eq_div_pow]
  simp
theorem xor32 (x y : BitVec 32) : bits .xor .u32 (N32 x) (N32 y) = N32 (x ^^^ y) := by
  unfold N32; rw [u32_xor_nat _ _ x.isLt y.isLt, BitVec.toNat_xor]
theorem and32 (x y : BitVec 32) : bits .and .u32 (N32 x) (N32 y) = N32 (x &&& y) := by
  unfold N32; rw [u32_and_nat _ _ x.isLt y.isLt, BitVec.toNat_and]
theorem not32 (x : BitVec 32) : bits .xor .u32 4294967295 (N32 x) = N32 (~~~ x) := by
  have h := xor32 (BitVec.allOnes 32) x
  rw [show N32 (BitVec.allOnes 32) = 4294967295 from rfl] at h
  rw [h, BitVec.allOnes_xor]
theorem add32 (x y : BitVec 32) : IntKind.u32.wrap (N32 x + N32 y) = N32 (x + y) := by
  unfold N32
  rw [IntKind.wrap_u32', BitVec.toNat_add]
  simp
theorem half32 (y : BitVec 32) : N32 y / (2 : Int) = N32 (y >>> 1) := by have := shr32 y 1; simpa using this
theorem half32' (y : BitVec 32) : (N32 y).tdiv (2 : Int) % (4294967296 : Int) = N32 (y >>> 1) := by
  have h0 := n32_nonneg y
  have h1 := n32_lt y
  rw [← half32, Int.tdiv_eq_ediv_of_nonneg h0]
  omega
theorem rot_nat (x : BitVec 32) (n : Nat) (h : n < 32) : (rot x n).toNat = (x.toNat % 2 ^ n) * 2 ^ (32 - n) + x.toNat / 2 ^ n := by
  unfold rot
  have hx := x.isLt
  have hp : (2 : Nat) ^ 32 = 2 ^ n * 2 ^ (32 - n) := by rw [← Nat.pow_add]; congr 1; omega
  rw [BitVec.toNat_or, BitVec.toNat_shiftLeft, BitVec.toNat_ushiftRight, Nat.shiftLeft_eq, Nat.shiftRight_eq_div_pow, Nat.or_comm, hp, Nat.mul_mod_mul_right]
  refine nat_join (32 - n) _ _ (Nat.mul_mod_left _ _) ?_
  rw [Nat.div_lt_iff_lt_mul (Nat.two_pow_pos _), Nat.mul_comm, ← hp]; exact hx
theorem rot_zero (x : BitVec 32) : rot x 0 = x := by
  unfold rot
  apply BitVec.eq_of_getLsbD_eq
  intro i hi
  simp
theorem rot_succ_nat (x : BitVec 32) (k : Nat) (hk : k < 25) : (rot x (k + 1)).toNat = (rot x k).toNat % 2 * 2147483648 + (rot x k).toNat / 2 := by
  rw [rot_nat _ _ (by omega), rot_nat _ _ (by omega)]
  have hx := x.isLt
  generalize x.toNat = m at *
  have : k = 0 ∨ k = 1 ∨ k = 2 ∨ k = 3 ∨ k = 4 ∨ k = 5 ∨ k = 6 ∨ k = 7 ∨ k = 8 ∨ k = 9 ∨ k = 10 ∨ k = 11 ∨ k = 12 ∨ k = 13 ∨ k = 14 ∨ k = 15 ∨ k = 16 ∨ k = 17 ∨ k = 18 ∨ k = 19 ∨ k = 20 ∨ k = 21 ∨ k = 22 ∨ k = 23 ∨ k = 24 := by omega
  rcases this with rfl | rfl | rfl | rfl | rfl | rfl | rfl | rfl | rfl | rfl | rfl | rfl | rfl | rfl | rfl | rfl | rfl | rfl | rfl | rfl | rfl | rfl | rfl | rfl | rfl <;> omega
theorem rot_even (x : BitVec 32) (k : Nat) (hk : k < 25) (h : ¬ N32 (rot x k) % 2 = 1) : N32 (rot x k >>> 1) = N32 (rot x (k + 1)) := by
  rw [← half32]
  have := rot_succ_nat x k hk
  unfold N32 at *
  omega
theorem rot_odd (x : BitVec 32) (k : Nat) (hk : k < 25) (h : N32 (rot x k) % 2 = 1) : (N32 (rot x k >>> 1) + (2147483648 : Int)) % (4294967296 : Int) = N32 (rot x (k + 1)) := by
  rw [← half32]
  have := rot_succ_nat x k hk
  have h1 := (rot x k).isLt
  unfold N32 at *
  omega
set_option maxHeartbeats 400000 in
theorem refTurned_any (x : BitVec 32) (n : Nat) (h1 : n < 26) (w : World) :
    Calls Tryz.prog 159 #[V32 x, .int .i64 (n : Int)] w fun e w' => e = .returned (V32 (rot x n)) ∧ w = w' := by
  go_enter Tryz.func159, Tryz.ntmps159
  go_wp2
  go_loop [0, 5] (fun v i => ∃ k : Nat, k ≤ n ∧ i = .int .i64 k ∧ v = V32 (rot x k)) (fun _ i => n - (intOf i).toNat)
  case atStart => exact ⟨0, Nat.zero_le _, rfl, by rw [rot_zero]⟩
  case round =>
    obtain ⟨k, hk, rfl, rfl⟩ := hrel
    have hy0 := n32_nonneg (rot x k)
    have hh := half32' (rot x k)
    by_cases hlt : k < n
    · by_cases ho : N32 (rot x k) % 2 = 1
      · have hw := rot_odd x k (by omega) ho
        have HW := Lib.hid hw; clear hw
        go_wp2
        go_round
        case rel => exact ⟨k + 1, by omega, by go_num, by first | rw [HW.out] | rw [hh, HW.out]⟩
        case measure => simp [intOf]; omega
      · have hw := rot_even x k (by omega) ho
        have HW := Lib.hid hw; clear hw
        have ho' : (N32 (rot x k) % 2 == 1) = false := by simpa using ho
        clear ho
        go_wp2
        go_round
        case rel => exact ⟨k + 1, by omega, by go_num, by first | rw [HW.out] | rw [hh, HW.out]⟩
        case measure => simp [intOf]; omega
    · obtain rfl : k = n := by omega
      go_wp2
      go_ret
      exact ⟨rfl, rfl⟩
def sh (x : BitVec 32) (k : Nat) : BitVec 32 := x >>> k
theorem sh_succ (x : BitVec 32) (k : Nat) : (N32 (sh x k)).tdiv (2 : Int) % (4294967296 : Int) = N32 (sh x (k + 1)) := by
  rw [half32']; unfold sh; rw [BitVec.shiftRight_add]
theorem refMoved_any (x : BitVec 32) (n : Nat) (h1 : n < 32) (w : World) :
    Calls Tryz.prog 160 #[V32 x, .int .i64 (n : Int)] w fun e w' => e = .returned (V32 (sh x n)) ∧ w = w' := by
  go_enter Tryz.func160, Tryz.ntmps160
  go_wp2
  go_loop [0, 5] (fun v i => ∃ k : Nat, k ≤ n ∧ i = .int .i64 k ∧ v = V32 (sh x k)) (fun _ i => n - (intOf i).toNat)
  case atStart => exact ⟨0, Nat.zero_le _, rfl, rfl⟩
  case round =>
    obtain ⟨k, hk, rfl, rfl⟩ := hrel
    have hy0 := n32_nonneg (sh x k)
    have hh := sh_succ x k
    by_cases hlt : k < n
    · go_wp2
      go_round
      case rel => exact ⟨k + 1, by omega, by go_num, by first | rfl | rw [hh]⟩
      case measure => simp [intOf]; omega
    · obtain rfl : k = n := by omega
      go_wp2
      go_ret
      exact ⟨rfl, rfl⟩
def up (x : BitVec 8) : BitVec 32 := BitVec.ofNat 32 x.toNat
theorem cv32 (x : BitVec 8) : IntKind.u32.wrap (N8 x) = N32 (up x) := by
  unfold N8 N32 up
  rw [IntKind.wrap_u32', BitVec.toNat_ofNat]
  simp
def be (b0 b1 b2 b3 : BitVec 8) : BitVec 32 := up b0 <<< 24 ||| up b1 <<< 16 ||| up b2 <<< 8 ||| up b3
def word (pb : List (BitVec 8)) (i : Nat) : BitVec 32 := be (pb.getD (4 * i) 0) (pb.getD (4 * i + 1) 0) (pb.getD (4 * i + 2) 0) (pb.getD (4 * i + 3) 0)
def Wp (pb : List (BitVec 8)) (k : Nat) : List (BitVec 32) := (List.range k).map (word pb)
def s0 (x : BitVec 32) : BitVec 32 := rot x 7 ^^^ rot x 18 ^^^ sh x 3
def s1 (x : BitVec 32) : BitVec 32 := rot x 17 ^^^ rot x 19 ^^^ sh x 10
def nextW (l : List (BitVec 32)) (i : Nat) : BitVec 32 := l.getD (i - 16) 0 + s0 (l.getD (i - 15) 0) + l.getD (i - 7) 0 + s1 (l.getD (i - 2) 0)
def Wx (pb : List (BitVec 8)) : Nat → List (BitVec 32)
  | 0 => Wp pb 16
  | k + 1 => Wx pb k ++ [nextW (Wx pb k) (16 + k)]
theorem Wp_length (pb : List (BitVec 8)) (k : Nat) : (Wp pb k).length = k := by simp [Wp]
theorem Wp_succ (pb : List (BitVec 8)) (k : Nat) : Wp pb (k + 1) = Wp pb k ++ [word pb k] := by simp [Wp, List.range_succ]
theorem Wx_length (pb : List (BitVec 8)) (k : Nat) : (Wx pb k).length = 16 + k := by
  induction k with
  | zero => simp [Wx, Wp]
  | succ k ih => simp [Wx, ih]; omega
def sched (pb : List (BitVec 8)) : List (BitVec 32) := Wx pb 48
theorem sched_length (pb : List (BitVec 8)) : (sched pb).length = 64 := Wx_length pb 48
def KC : List (BitVec 32) := [1116352408#32, 1899447441#32, 3049323471#32, 3921009573#32, 961987163#32, 1508970993#32, 2453635748#32, 2870763221#32, 3624381080#32, 310598401#32, 607225278#32, 1426881987#32, 1925078388#32, 2162078206#32, 2614888103#32, 3248222580#32, 3835390401#32, 4022224774#32, 264347078#32, 604807628#32, 770255983#32, 1249150122#32, 1555081692#32, 1996064986#32, 2554220882#32, 2821834349#32, 2952996808#32, 3210313671#32, 3336571891#32, 3584528711#32, 113926993#32, 338241895#32, 666307205#32, 773529912#32, 1294757372#32, 1396182291#32, 1695183700#32, 1986661051#32, 2177026350#32, 2456956037#32, 2730485921#32, 2820302411#32, 3259730800#32, 3345764771#32, 3516065817#32, 3600352804#32, 4094571909#32, 275423344#32, 430227734#32, 506948616#32, 659060556#32, 883997877#32, 958139571#32, 1322822218#32, 1537002063#32, 1747873779#32, 1955562222#32, 2024104815#32, 2227730452#32, 2361852424#32, 2428436474#32, 2756734187#32, 3204031479#32, 3329325298#32]
structure St where
  a : BitVec 32
  b : BitVec 32
  c : BitVec 32
  d : BitVec 32
  e : BitVec 32
  f : BitVec 32
  g : BitVec 32
  h : BitVec 32
def St.list (s : St) : List (BitVec 32) := [s.a, s.b, s.c, s.d, s.e, s.f, s.g, s.h]
def S1 (x : BitVec 32) : BitVec 32 := rot x 6 ^^^ rot x 11 ^^^ rot x 25
def S0 (x : BitVec 32) : BitVec 32 := rot x 2 ^^^ rot x 13 ^^^ rot x 22
def ch (e f g : BitVec 32) : BitVec 32 := (e &&& f) ^^^ (~~~ e &&& g)
def maj (a b c : BitVec 32) : BitVec 32 := (a &&& b) ^^^ (a &&& c) ^^^ (b &&& c)
def rt (s : St) (k w : BitVec 32) : BitVec 32 := s.h + S1 s.e + ch s.e s.f s.g + k + w
def ru (s : St) : BitVec 32 := S0 s.a + maj s.a s.b s.c
def rnd (s : St) (k w : BitVec 32) : St := ⟨rt s k w + ru s, s.a, s.b, s.c, s.d + rt s k w, s.e, s.f, s.g⟩
def runs (s : St) (ws : List (BitVec 32)) : Nat → St
  | 0 => s
  | i + 1 => rnd (runs s ws i) (KC.getD i 0) (ws.getD i 0)
def plus (s t : St) : St := ⟨s.a + t.a, s.b + t.b, s.c + t.c, s.d + t.d, s.e + t.e, s.f + t.f, s.g + t.g, s.h + t.h⟩
def take (s : St) (pb : List (BitVec 8)) : St := plus s (runs s (sched pb) 64)
def Z8 : Value := .int .u8 0
def lo8 (x : BitVec 32) : BitVec 8 := BitVec.ofNat 8 x.toNat
theorem lo8_eq (x : BitVec 32) : IntKind.u8.wrap (N32 x) = N8 (lo8 x) := by
  unfold N32 N8 lo8
  rw [IntKind.wrap_u8', BitVec.toNat_ofNat]
  simp
def wb (x : BitVec 32) (i : Nat) : BitVec 8 := lo8 (x >>> (24 - 8 * i))
def wbs (x : BitVec 32) (k : Nat) : List (BitVec 8) := (List.range k).map (wb x)
theorem wbs_length (x : BitVec 32) (k : Nat) : (wbs x k).length = k := by simp [wbs]
def outBytes (l : List (BitVec 32)) : List (BitVec 8) := l.flatMap (wbs · 4)
theorem info24 : (Tryz.prog.info? 25).map (·.size) = some 32 := by kernel_rfl
theorem outBytes_length (l : List (BitVec 32)) : (outBytes l).length = 4 * l.length := by
  induction l with
  | nil => rfl
  | cons x l ih => simp only [outBytes, List.flatMap_cons, List.length_append, wbs_length, List.length_cons] at ih ⊢; omega
theorem outBytes_snoc (l : List (BitVec 32)) (j : Nat) (hj : j < l.length) : outBytes (l.take (j + 1)) = outBytes (l.take j) ++ wbs (l.getD j 0) 4 := by
  have e : l.getD j 0 = l[j] := by simp [List.getD_eq_getElem?_getD, hj]
  rw [List.take_succ_eq_append_getElem hj, e]
  unfold outBytes
  rw [List.flatMap_append]
  simp
theorem size24 (l : List (BitVec 32)) (h : l.length = 8) : (Tryz.prog.info? 25).map (·.size) = some ((outBytes l).map V8).toArray.size := by
  rw [info24]; simp [outBytes_length, h]
end Go.Proofs.YtjgjohdeeeoeoaaGreatDoor
namespace Go.Proofs.YtjgjohdeeeoeoaaGreatDoor
def H0 : St := ⟨0x6a09e667#32, 0xbb67ae85#32, 0x3c6ef372#32, 0xa54ff53a#32, 0x510e527f#32, 0x9b05688c#32, 0x1f83d9ab#32, 0x5be0cd19#32⟩
def chunk (m : List (BitVec 8)) (i : Nat) : List (BitVec 8) := (m.drop (64 * i)).take 64
def absorb : Nat → List (BitVec 8) → St
  | 0, _ => H0
  | i + 1, m => take (absorb i m) (chunk m i)
def laid (rest : List (BitVec 8)) (k : Nat) (cs : List (BitVec 8)) : List (BitVec 8) := rest.take k ++ (cs ++ rest.drop (k + cs.length))
end Go.Proofs.YtjgjohdeeeoeoaaGreatDoor
namespace Go.Proofs.YtjgjohdeeeoeoaaGreatDoor
open Go.RowKit
def noughts (n : Nat) : Nat := (64 - (n + 9) % 64) % 64
def lenb (n i : Nat) : BitVec 8 := BitVec.ofNat 8 (8 * n / 2 ^ (56 - 8 * i))
def fillHead (n : Nat) : List (BitVec 8) := 128#8 :: List.replicate (noughts n) 0#8
def fillK (n k : Nat) : List (BitVec 8) := fillHead n ++ (List.range k).map (lenb n)
def fill (n : Nat) : List (BitVec 8) := fillK n 8
theorem fillK_length (n k : Nat) : (fillK n k).length = 1 + noughts n + k := by simp [fillK, fillHead]; omega
theorem noughts_lt (n : Nat) : noughts n < 64 := Nat.mod_lt _ (by omega)
def lenOf : Value → Nat | .slice _ l _ => l | _ => 0
theorem size5 : (Tryz.prog.info? 5).map (·.size) = some 1 := by kernel_rfl
theorem elem22 : Tryz.prog.underlying 29 = some (.slice (Tryz.prog.elem 29)) := by kernel_rfl
theorem elem22' : Tryz.prog.elem 29 = 5 := by kernel_rfl
theorem sizeOf5 (W : World) : (sizeOf 5).run Tryz.prog W = .ok 1 W := by
  obtain ⟨i, h1, h2⟩ := Option.map_eq_some_iff.1 size5
  simp [sizeOf, typeInfo, h1, h2]
def full (m : List (BitVec 8)) : List (BitVec 8) := m ++ fill m.length
def digest (m : List (BitVec 8)) : List (BitVec 8) := outBytes (absorb ((full m).length / 64) (full m)).list
theorem digest_length (m : List (BitVec 8)) : (digest m).length = 32 := outBytes_length _
theorem size24d (m : List (BitVec 8)) : (Tryz.prog.info? 25).map (·.size) = some ((digest m).map V8).toArray.size := by rw [info24]; simp [digest_length]
section
variable {P : Program} {ops : Array Oper} {C : World → Prop} {Q : Act → Prop} {rest : List Oper} {a : Act} {o : Oper}
end
end Go.Proofs.YtjgjohdeeeoeoaaGreatDoor
