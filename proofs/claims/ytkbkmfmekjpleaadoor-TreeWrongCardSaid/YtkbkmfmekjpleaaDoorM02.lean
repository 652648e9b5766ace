/- Slices of bytes: what they hold; as a string; put behind nil. -/
import Derived.Test.YtkbkmfmekjpleaaDoorM01
import Derived.Test.YtkbkmfmekjpleaaDoorRows
import Derived.Laws.AppendOwnNone
import Derived.Deep.RegionLaw
namespace Go.Proofs.YtkbkmfmekjpleaaDoor
open Go.RowKit

theorem infoB : (Tryd.prog.info? 5).map (fun i => (i.zero, i.size, i.bytes)) = some (some (.int .u8 0), 1, 1) := by kernel_rfl
theorem sizeB : (Tryd.prog.info? 5).map (·.size) = some 1 := by kernel_rfl

/-- The bytes bs lie where the slice begins. -/
def SrcA (w : World) (sp : Option Addr) (bs : List (BitVec 8)) : Prop :=
  0 < bs.length → ∃ g o, sp = some ⟨g, o, none⟩ ∧ g < w.heap.size ∧ ∀ j, j < bs.length → w.cell? ⟨g, o + j, none⟩ = some (V8 (bs.getD j 0))
theorem SrcA.below {w W : World} {sp : Option Addr} {bs : List (BitVec 8)} (h : SrcA w sp bs) {B : Nat} (hb : Below B w W) (hB : w.heap.size ≤ B) : SrcA W sp bs := fun h0 => by
  obtain ⟨g, o, rfl, hg, hc⟩ := h h0
  exact ⟨g, o, rfl, Nat.lt_of_lt_of_le hg hb.size, fun j hj => (hb.cell (p := ⟨g, o + j, none⟩) (Nat.lt_of_lt_of_le hg hB)).trans (hc j hj)⟩
theorem SrcA.grown {w W : World} {sp : Option Addr} {bs : List (BitVec 8)} (h : SrcA w sp bs) (hb : Below w.heap.size w W) : SrcA W sp bs := h.below hb (Nat.le_refl _)
theorem SrcA.drew {w : World} {sp : Option Addr} {bs : List (BitVec 8)} (h : SrcA w sp bs) : SrcA w.drew sp bs := h
theorem SrcA.nil (w : World) (sp : Option Addr) : SrcA w sp [] := fun h => absurd h (by simp)
/-- A slice of the call's own holds bytes. -/
abbrev OwnB (w : World) (B : Nat) (v : Value) (l : List (BitVec 8)) : Prop := w.ownsRow B 5 1 v l.length (l.map V8)
theorem OwnB.form {w : World} {B : Nat} {v : Value} {l : List (BitVec 8)} (h : OwnB w B v l) : ∃ sp cap, v = .slice sp l.length cap ∧ l.length ≤ cap ∧ cap ≤ maxLen ∧ SrcA w sp l ∧ (sp = none → cap = 0) ∧ (∀ a, sp = some a → B ≤ a.block ∧ a.block < w.heap.size) := by
  rcases h.2 with ⟨rfl, hn⟩ | ⟨g, cap, cur, rfl, hb, hg, hc, hm, _, _⟩
  · refine ⟨none, 0, by rw [hn], by omega, by unfold maxLen; omega, fun h0 => by omega, fun _ => rfl, fun _ hh => by cases hh⟩
  · have hlt : g < w.heap.size := (Array.getElem?_eq_some_iff.1 hg).1
    refine ⟨some ⟨g, 0, none⟩, cap, rfl, hc, hm, fun h0 => ⟨g, 0, rfl, hlt, fun j hj => ?_⟩, (fun hh => by cases hh), (fun _ hh => by cases hh; exact ⟨hb, hlt⟩)⟩
    rw [Nat.zero_add, h.cellAt j (by omega)]
    exact get_map V8 _ j hj 0
theorem OwnB.below {w W : World} {B B' : Nat} {v : Value} {l : List (BitVec 8)} (h : OwnB w B v l) (hb : Below B' w W) (hB : w.heap.size ≤ B') : OwnB W B v l := by
  refine ⟨h.1, ?_⟩
  rcases h.2 with hn | ⟨g, cap, cur, rfl, hbg, hg, rest⟩
  · exact .inl hn
  · exact .inr ⟨g, cap, cur, rfl, hbg, by rw [hb.block g (Nat.lt_of_lt_of_le (Array.getElem?_eq_some_iff.1 hg).1 hB)]; exact hg, rest⟩

theorem src_cell {w : World} {g o : Nat} {l : List (BitVec 8)} (h : ∀ j, j < l.length → w.cell? ⟨g, o + j, none⟩ = some (V8 (l.getD j 0))) : ∀ j v, (l.map V8)[j]? = some v → w.cell? ((⟨g, o, none⟩ : Addr).add j) = some v := by
  intro j v hv
  rw [Addr.add_mid]
  have hj : j < l.length := by
    have := (List.getElem?_eq_some_iff.1 hv).1
    simpa using this
  rw [h j hj, ← hv, get_map V8 l j hj 0]
theorem one_v8 (l : List (BitVec 8)) : ∀ v ∈ l.map V8, v.oneCell' = true := by
  intro v hv
  obtain ⟨x, _, rfl⟩ := List.mem_map.1 hv
  rfl
/-- 'append(nil, b...)': new memory that holds the bytes. -/
theorem wpList_append_nil {w : World} {ops : Array Oper} {rest : List Oper} {o : Oper} {a : Act} {Q : Exit → Act → World → Prop} (hgd : o.guard = none) (s x : Operand)
    (ho : o.op = .call { callee := .builtin .append, args := #[s, x], argTypes := #[41, 41] }) (hs : a.eval s = .slice none 0 0) (sp : Option Addr) (cap : Nat) (l : List (BitVec 8)) (hx : a.eval x = .slice sp l.length cap) (hc : l.length ≤ cap) (hz : sp = none → cap = 0) (hsrc : SrcA w sp l)
    (hl : l.length ≤ 140737488355328) (h : ∀ v w', OwnB w' w.heap.size v l → Below w.heap.size w w' → (v = .slice none 0 0 ↔ l = []) → wpList Tryd.prog ops Q rest (a.put o.dst v) w') : wpList Tryd.prog ops Q (o :: rest) a w := by
  obtain ⟨i0, hi, hz0, hz1, hz2⟩ := info_parts infoB
  by_cases hn : sp = none
  · subst hn
    have h0 : l = [] := by
      rcases Nat.eq_zero_or_pos l.length with h0 | h0
      · exact List.eq_nil_of_length_eq_zero h0
      · obtain ⟨_, _, he, _⟩ := hsrc h0; cases he
    subst h0
    obtain rfl := hz rfl
    exact wpList_append_own_none hgd s x 41 ho w.heap.size 5 i0 1 Tryd.underlying41 hi (.slice none 0 0) 0 [] hs (World.ownsRow_nil _ _ _ _) hx (h _ _ (World.ownsRow_nil _ _ _ _) (Below.refl _ _) (by simp))
  · obtain ⟨ad, rfl⟩ := Option.ne_none_iff_exists'.1 hn
    refine wpList_append_own w hgd s x 41 ho w.heap.size 5 i0 (.int .u8 0) 1 1 Tryd.underlying41 hi hz0 hz1 hz2 rfl (by omega) (.slice none 0 0) 0 [] hs (World.ownsRow_nil _ _ _ _) ad l.length cap (l.map V8) hx (by simp) ?_ (one_v8 l) (by unfold maxLen; omega) (by omega) (Nat.le_refl _) ?_
    · intro j v hv
      have hj : 0 < l.length := by
        have := (List.getElem?_eq_some_iff.1 hv).1
        simp at this; omega
      obtain ⟨g, o, he, hg, hcl⟩ := hsrc hj
      cases he
      exact src_cell hcl j v hv
    · intro v' w' hown hg hnil
      refine h v' w' ?_ ?_ ?_
      · simpa using hown
      · exact (Below.refl _ _).grown hg (Nat.le_refl _) (fun k hk => by cases hk)
      · rw [hnil]; simp
end Go.Proofs.YtkbkmfmekjpleaaDoor
/- How many bytes a number has; a number put behind bytes. -/
namespace Go.Proofs.YtkbkmfmekjpleaaDoor
open Go.RowKit

set_option maxRecDepth 100000 in
theorem len64_at8 (w : World) : Calls Tryd.prog 78 #[.int .u64 255] w fun e w' => e = .returned (.int .i64 8) ∧ w = w' := by
  go_enter Tryd.func78, Tryd.ntmps78
  go_wp2
  go_ret
  exact ⟨by kernel_rfl, rfl⟩
theorem wd8_any (w : World) : Calls Tryd.prog 72 #[] w fun e w' => e = .returned (.int .i64 1) ∧ w = w' := by
  go_enter Tryd.func72, Tryd.ntmps72
  go_wp2_with (go_at_call 78; refine (len64_at8 _).mono ?_; rintro e w' ⟨rfl, rfl⟩)
  go_ret
  exact ⟨rfl, rfl⟩
set_option maxRecDepth 100000 in
theorem len64_at16 (w : World) : Calls Tryd.prog 78 #[.int .u64 65535] w fun e w' => e = .returned (.int .i64 16) ∧ w = w' := by
  go_enter Tryd.func78, Tryd.ntmps78
  go_wp2
  go_ret
  exact ⟨by kernel_rfl, rfl⟩
theorem wd16_any (w : World) : Calls Tryd.prog 73 #[] w fun e w' => e = .returned (.int .i64 2) ∧ w = w' := by
  go_enter Tryd.func73, Tryd.ntmps73
  go_wp2_with (go_at_call 78; refine (len64_at16 _).mono ?_; rintro e w' ⟨rfl, rfl⟩)
  go_ret
  exact ⟨rfl, rfl⟩
set_option maxRecDepth 100000 in
theorem len64_at32 (w : World) : Calls Tryd.prog 78 #[.int .u64 4294967295] w fun e w' => e = .returned (.int .i64 32) ∧ w = w' := by
  go_enter Tryd.func78, Tryd.ntmps78
  go_wp2
  go_ret
  exact ⟨by kernel_rfl, rfl⟩
theorem wd32_any (w : World) : Calls Tryd.prog 74 #[] w fun e w' => e = .returned (.int .i64 4) ∧ w = w' := by
  go_enter Tryd.func74, Tryd.ntmps74
  go_wp2_with (go_at_call 78; refine (len64_at32 _).mono ?_; rintro e w' ⟨rfl, rfl⟩)
  go_ret
  exact ⟨rfl, rfl⟩
set_option maxRecDepth 100000 in
theorem len64_at64 (w : World) : Calls Tryd.prog 78 #[.int .u64 18446744073709551615] w fun e w' => e = .returned (.int .i64 64) ∧ w = w' := by
  go_enter Tryd.func78, Tryd.ntmps78
  go_wp2
  go_ret
  exact ⟨by kernel_rfl, rfl⟩
theorem wd64_any (w : World) : Calls Tryd.prog 75 #[] w fun e w' => e = .returned (.int .i64 8) ∧ w = w' := by
  go_enter Tryd.func75, Tryd.ntmps75
  go_wp2_with (go_at_call 78; refine (len64_at64 _).mono ?_; rintro e w' ⟨rfl, rfl⟩)
  go_ret
  exact ⟨rfl, rfl⟩

/-- What the loop of put holds: the slice's first n bytes. -/
def PutRel (l : List (BitVec 8)) (m : Nat) (w : World) (s : Value) (wr : World) : Prop :=
  s = .slice (some ⟨w.heap.size, 0, none⟩) l.length m ∧ OwnB wr w.heap.size (.slice (some ⟨w.heap.size, 0, none⟩) l.length m) l ∧ Below w.heap.size w wr
theorem owns_of_row {w1 : World} {g : Nat} {l : List (BitVec 8)} {n m : Nat} {B : Nat} (h : w1.heap[g]? = some (.cells (splice (List.replicate m (.int .u8 0)) 0 (l.map V8)).toArray 5 (0, 0))) (hn : l.length = n) (hm : n ≤ m) (hx : m ≤ maxLen) (hB : B ≤ g) :
    OwnB w1 B (.slice (some ⟨g, 0, none⟩) n m) l := by
  subst hn
  refine ⟨by simp, .inr ⟨g, m, _, rfl, hB, h, hm, hx, ?_, ?_⟩⟩
  · simp only [List.size_toArray, Nat.mul_one]
    rw [length_splice _ _ _ (by simp; omega)]; simp
  · simp [splice]
theorem one_at (w : World) (v : Value) (t : TypeId) : ∀ j u, [v][j]? = some u → (w.alloc (.cells #[v] t)).cell? ((⟨w.heap.size, 0, none⟩ : Addr).add j) = some u := by
  intro j u hj
  match j, hj with
  | 0, hj => simp at hj; subst hj; simp [Addr.add]
theorem one_cell8 (x : BitVec 8) : ∀ u ∈ [V8 x], u.oneCell' = true := by
  intro u hu; simp at hu; subst hu; rfl

theorem src_pos {w : World} {sp : Option Addr} {bs : List (BitVec 8)} (h : SrcA w sp bs) {g : Nat} : 0 < (bs.map V8).length → (some (⟨g, 0, none⟩ : Addr)) = some ⟨g, 0, none⟩ ∧ ∃ ad, sp = some ad ∧ ∀ j v, (bs.map V8)[j]? = some v → w.cell? (ad.add j) = some v := fun h0 => by
  obtain ⟨g', o, rfl, _, hc⟩ := h (by simpa using h0)
  exact ⟨rfl, _, rfl, src_cell hc⟩

set_option maxRecDepth 100000 in
set_option maxHeartbeats 1000000 in
theorem put16_any (l : List (BitVec 8)) (sp : Option Addr) (cap n : Nat) (w : World) (hl : l.length ≤ 100000) (hn : n < 2 ^ 16) (hS : SrcA w sp l) :
    Calls Tryd.prog 70 #[.slice sp l.length cap, .int .u16 (n : Int)] w fun e w' => e = .returned (.slice (some ⟨w.heap.size, 0, none⟩) (l.length + 2) (l.length + 2)) ∧
      OwnB w' w.heap.size (.slice (some ⟨w.heap.size, 0, none⟩) (l ++ leb n 2).length (l.length + 2)) (l ++ leb n 2) ∧ Below w.heap.size w w' := by
  obtain ⟨i0, hi, hz0, hz1, hz2⟩ := info_parts infoB
  have HS := Lib.hid hS
  obtain ⟨L, hL⟩ : ∃ L, l.length = L := ⟨_, rfl⟩
  rw [hL] at hl ⊢
  have HL := Lib.hid hL
  clear hS hL
  have hw := u64_in n (by omega)
  clear hn
  go_enter Tryd.func70, Tryd.ntmps70
  go_wp2_with (first
    | (go_at_call 73; refine (wd16_any _).mono ?_; rintro e w' ⟨rfl, rfl⟩)
    | (at_make; refine wpList_makeLC rfl _ _ 41 rfl 5 i0 (.int .u8 0) Tryd.underlying41 hi hz0 rfl hz1 .i64 .i64 _ _ L (L + 2) rfl rfl rfl (by omega) (by omega) (by rw [hz2]; omega) (by unfold maxLen; omega) ?_; intro w1 hb1 hb2; have HB1 := Lib.hid hb1; have HB2 := Lib.hid hb2; clear hb1 hb2)
    | (refine wpList_copy_splice rfl (.tmp 14) (.tmp 15) 41 41 rfl 5 Tryd.underlying41 sizeB (some ⟨w.heap.size, 0, none⟩) sp L (L + 2) L cap rfl rfl w.heap.size 0 _ 5 HB1.out (l.map V8) (by rw [List.length_map, HL.out]; simp) (src_pos (HS.out.grown HB2.out)) (by simp [HL.out]) (one_v8 l) w.heap.size w HB2.out (Nat.le_refl _) ?_; intro w2 hs2 hb3; have HP := Lib.hid hs2.out; have HB3 := Lib.hid hb3; clear hs2 hb3)
    | fail)
  have hR0 : PutRel (l ++ leb n 0) (L + 2) w (.slice (some ⟨w.heap.size, 0, none⟩) L (L + 2)) w2 := by
    have e : (l ++ leb n 0).length = L := by rw [List.length_append, HL.out, leb_length]; omega
    refine ⟨by rw [e], ?_, HB3.out⟩
    rw [e]
    exact owns_of_row (by simpa [leb] using HP.out) e (by omega) (by unfold maxLen; omega) (Nat.le_refl _)
  have HR0 := Lib.hid hR0
  clear hR0
  go_loopw [5, 18] (fun s i wr => ∃ k : Nat, k ≤ 2 ∧ i = .int .i64 k ∧ PutRel (l ++ leb n k) (L + 2) w s wr) (fun _ i _ => 2 - (intOf i).toNat)
  case atStart => exact ⟨0, by omega, rfl, HR0.out⟩
  case round =>
    clear HR0 HB1 HB2 HB3 HP
    obtain ⟨k, hk, rfl, hR⟩ := hrel
    obtain ⟨rfl, hown, hbel⟩ := hR
    have e : (l ++ leb n k).length = L + k := by rw [List.length_append, HL.out, leb_length]
    have HO := Lib.hid hown
    have HW := Lib.hid hbel
    have hsz : w.heap.size < wr.heap.size := (hown.lt _ rfl).2
    have HE := Lib.hid e
    have hown2 := hown
    unfold OwnB at hown2
    rw [e] at hown2
    have HO2 := Lib.hid hown2
    rw [e]
    clear hown2
    clear hown hbel e
    by_cases hlt : k < 2
    · have e2 := IntWalk.i64_in (8 * (k : Int)) (by omega)
      have p3 : 0 ≤ 8 * (k : Int) := by omega
      have r3 : (8 * (k : Int)).toNat = 8 * k := by omega
      have m3 : min (8 * k) 64 = 8 * k := by omega
      have l3 := lb_int n k
      have l4 := lb_mod n k
      have z1 := hz1
      clear hz1
      have HZ1 := Lib.hid z1
      clear z1
      go_wp2_with (first
        | (at_builtin; refine wpList_append_fits _ rfl (.tmp 21) (.tmp 28) 41 rfl w.heap.size 5 i0 1 Tryd.underlying41 hi HZ1.out w.heap.size (L + k) (L + 2) ((l ++ leb n k).map V8) rfl (HO2.out.alloc _) ⟨wr.heap.size, 0, none⟩ 1 1 [V8 (lb n k)] rfl rfl (one_at _ _ _) (one_cell8 _) (by omega) ?_; intro w2 ho hg)
        | fail)
      have HR2 : Hid (PutRel (l ++ leb n (k + 1)) (L + 2) w (.slice (some ⟨w.heap.size, 0, none⟩) (L + k + 1) (L + 2)) w2) := Lib.hid (by
        have e : (l ++ leb n (k + 1)).length = L + k + 1 := by rw [List.length_append, HL.out, leb_length]; omega
        refine ⟨by rw [e], ?_, (HW.out.alloc (by omega) _).grown hg (by simp; omega) (fun j hj => by cases hj; exact Nat.le_refl _)⟩
        unfold OwnB
        rw [e, leb_succ, ← List.append_assoc, List.map_append]
        exact ho)
      clear ho hg
      go_roundw
      case rel => exact ⟨k + 1, by omega, by go_num, HR2.out⟩
      case measure => simp [intOf]; omega
    · obtain rfl : k = 2 := by omega
      clear hlt hk
      go_wp2
      go_ret
      refine ⟨rfl, ?_, HW.out⟩
      exact HO.out
theorem pu16_any (l : List (BitVec 8)) (sp : Option Addr) (cap n : Nat) (w : World) (hl : l.length ≤ 100000) (hn : n < 2 ^ 16) (hS : SrcA w sp l) :
    Calls Tryd.prog 58 #[.slice sp l.length cap, .int .u16 (n : Int)] w fun e w' => e = .returned (.slice (some ⟨w.heap.size, 0, none⟩) (l.length + 2) (l.length + 2)) ∧
      OwnB w' w.heap.size (.slice (some ⟨w.heap.size, 0, none⟩) (l ++ leb n 2).length (l.length + 2)) (l ++ leb n 2) ∧ Below w.heap.size w w' := by
  obtain ⟨L, hL⟩ : ∃ L, l.length = L := ⟨_, rfl⟩
  have hc := put16_any l sp cap n w hl hn hS
  rw [hL] at hc ⊢
  have HC := Lib.hid hc
  clear hc hS hn hl hL
  go_enter Tryd.func58, Tryd.ntmps58
  go_wp2_with fail
  refine HC.out.mono ?_
  rintro e w' ⟨rfl, h1, h2⟩
  have H1 := Lib.hid h1
  have H2 := Lib.hid h2
  clear h1 h2
  go_wp2
  go_ret
  exact ⟨rfl, H1.out, H2.out⟩

set_option maxRecDepth 100000 in
set_option maxHeartbeats 1000000 in
theorem put32_any (l : List (BitVec 8)) (sp : Option Addr) (cap n : Nat) (w : World) (hl : l.length ≤ 100000) (hn : n < 2 ^ 32) (hS : SrcA w sp l) :
    Calls Tryd.prog 77 #[.slice sp l.length cap, .int .u32 (n : Int)] w fun e w' => e = .returned (.slice (some ⟨w.heap.size, 0, none⟩) (l.length + 4) (l.length + 4)) ∧
      OwnB w' w.heap.size (.slice (some ⟨w.heap.size, 0, none⟩) (l ++ leb n 4).length (l.length + 4)) (l ++ leb n 4) ∧ Below w.heap.size w w' := by
  obtain ⟨i0, hi, hz0, hz1, hz2⟩ := info_parts infoB
  have HS := Lib.hid hS
  obtain ⟨L, hL⟩ : ∃ L, l.length = L := ⟨_, rfl⟩
  rw [hL] at hl ⊢
  have HL := Lib.hid hL
  clear hS hL
  have hw := u64_in n (by omega)
  clear hn
  go_enter Tryd.func77, Tryd.ntmps77
  go_wp2_with (first
    | (go_at_call 74; refine (wd32_any _).mono ?_; rintro e w' ⟨rfl, rfl⟩)
    | (at_make; refine wpList_makeLC rfl _ _ 41 rfl 5 i0 (.int .u8 0) Tryd.underlying41 hi hz0 rfl hz1 .i64 .i64 _ _ L (L + 4) rfl rfl rfl (by omega) (by omega) (by rw [hz2]; omega) (by unfold maxLen; omega) ?_; intro w1 hb1 hb2; have HB1 := Lib.hid hb1; have HB2 := Lib.hid hb2; clear hb1 hb2)
    | (refine wpList_copy_splice rfl (.tmp 14) (.tmp 15) 41 41 rfl 5 Tryd.underlying41 sizeB (some ⟨w.heap.size, 0, none⟩) sp L (L + 4) L cap rfl rfl w.heap.size 0 _ 5 HB1.out (l.map V8) (by rw [List.length_map, HL.out]; simp) (src_pos (HS.out.grown HB2.out)) (by simp [HL.out]) (one_v8 l) w.heap.size w HB2.out (Nat.le_refl _) ?_; intro w2 hs2 hb3; have HP := Lib.hid hs2.out; have HB3 := Lib.hid hb3; clear hs2 hb3)
    | fail)
  have hR0 : PutRel (l ++ leb n 0) (L + 4) w (.slice (some ⟨w.heap.size, 0, none⟩) L (L + 4)) w2 := by
    have e : (l ++ leb n 0).length = L := by rw [List.length_append, HL.out, leb_length]; omega
    refine ⟨by rw [e], ?_, HB3.out⟩
    rw [e]
    exact owns_of_row (by simpa [leb] using HP.out) e (by omega) (by unfold maxLen; omega) (Nat.le_refl _)
  have HR0 := Lib.hid hR0
  clear hR0
  go_loopw [5, 18] (fun s i wr => ∃ k : Nat, k ≤ 4 ∧ i = .int .i64 k ∧ PutRel (l ++ leb n k) (L + 4) w s wr) (fun _ i _ => 4 - (intOf i).toNat)
  case atStart => exact ⟨0, by omega, rfl, HR0.out⟩
  case round =>
    clear HR0 HB1 HB2 HB3 HP
    obtain ⟨k, hk, rfl, hR⟩ := hrel
    obtain ⟨rfl, hown, hbel⟩ := hR
    have e : (l ++ leb n k).length = L + k := by rw [List.length_append, HL.out, leb_length]
    have HO := Lib.hid hown
    have HW := Lib.hid hbel
    have hsz : w.heap.size < wr.heap.size := (hown.lt _ rfl).2
    have HE := Lib.hid e
    have hown2 := hown
    unfold OwnB at hown2
    rw [e] at hown2
    have HO2 := Lib.hid hown2
    rw [e]
    clear hown2
    clear hown hbel e
    by_cases hlt : k < 4
    · have e2 := IntWalk.i64_in (8 * (k : Int)) (by omega)
      have p3 : 0 ≤ 8 * (k : Int) := by omega
      have r3 : (8 * (k : Int)).toNat = 8 * k := by omega
      have m3 : min (8 * k) 64 = 8 * k := by omega
      have l3 := lb_int n k
      have l4 := lb_mod n k
      have z1 := hz1
      clear hz1
      have HZ1 := Lib.hid z1
      clear z1
      go_wp2_with (first
        | (at_builtin; refine wpList_append_fits _ rfl (.tmp 21) (.tmp 28) 41 rfl w.heap.size 5 i0 1 Tryd.underlying41 hi HZ1.out w.heap.size (L + k) (L + 4) ((l ++ leb n k).map V8) rfl (HO2.out.alloc _) ⟨wr.heap.size, 0, none⟩ 1 1 [V8 (lb n k)] rfl rfl (one_at _ _ _) (one_cell8 _) (by omega) ?_; intro w2 ho hg)
        | fail)
      have HR2 : Hid (PutRel (l ++ leb n (k + 1)) (L + 4) w (.slice (some ⟨w.heap.size, 0, none⟩) (L + k + 1) (L + 4)) w2) := Lib.hid (by
        have e : (l ++ leb n (k + 1)).length = L + k + 1 := by rw [List.length_append, HL.out, leb_length]; omega
        refine ⟨by rw [e], ?_, (HW.out.alloc (by omega) _).grown hg (by simp; omega) (fun j hj => by cases hj; exact Nat.le_refl _)⟩
        unfold OwnB
        rw [e, leb_succ, ← List.append_assoc, List.map_append]
        exact ho)
      clear ho hg
      go_roundw
      case rel => exact ⟨k + 1, by omega, by go_num, HR2.out⟩
      case measure => simp [intOf]; omega
    · obtain rfl : k = 4 := by omega
      clear hlt hk
      go_wp2
      go_ret
      refine ⟨rfl, ?_, HW.out⟩
      exact HO.out
theorem pu32_any (l : List (BitVec 8)) (sp : Option Addr) (cap n : Nat) (w : World) (hl : l.length ≤ 100000) (hn : n < 2 ^ 32) (hS : SrcA w sp l) :
    Calls Tryd.prog 69 #[.slice sp l.length cap, .int .u32 (n : Int)] w fun e w' => e = .returned (.slice (some ⟨w.heap.size, 0, none⟩) (l.length + 4) (l.length + 4)) ∧
      OwnB w' w.heap.size (.slice (some ⟨w.heap.size, 0, none⟩) (l ++ leb n 4).length (l.length + 4)) (l ++ leb n 4) ∧ Below w.heap.size w w' := by
  obtain ⟨L, hL⟩ : ∃ L, l.length = L := ⟨_, rfl⟩
  have hc := put32_any l sp cap n w hl hn hS
  rw [hL] at hc ⊢
  have HC := Lib.hid hc
  clear hc hS hn hl hL
  go_enter Tryd.func69, Tryd.ntmps69
  go_wp2_with fail
  refine HC.out.mono ?_
  rintro e w' ⟨rfl, h1, h2⟩
  have H1 := Lib.hid h1
  have H2 := Lib.hid h2
  clear h1 h2
  go_wp2
  go_ret
  exact ⟨rfl, H1.out, H2.out⟩

set_option maxRecDepth 100000 in
set_option maxHeartbeats 1000000 in
theorem put64_any (l : List (BitVec 8)) (sp : Option Addr) (cap n : Nat) (w : World) (hl : l.length ≤ 100000) (hn : n < 2 ^ 64) (hS : SrcA w sp l) :
    Calls Tryd.prog 76 #[.slice sp l.length cap, .int .u64 (n : Int)] w fun e w' => e = .returned (.slice (some ⟨w.heap.size, 0, none⟩) (l.length + 8) (l.length + 8)) ∧
      OwnB w' w.heap.size (.slice (some ⟨w.heap.size, 0, none⟩) (l ++ leb n 8).length (l.length + 8)) (l ++ leb n 8) ∧ Below w.heap.size w w' := by
  obtain ⟨i0, hi, hz0, hz1, hz2⟩ := info_parts infoB
  have HS := Lib.hid hS
  obtain ⟨L, hL⟩ : ∃ L, l.length = L := ⟨_, rfl⟩
  rw [hL] at hl ⊢
  have HL := Lib.hid hL
  clear hS hL
  have hw := u64_in n (by omega)
  clear hn
  go_enter Tryd.func76, Tryd.ntmps76
  go_wp2_with (first
    | (go_at_call 75; refine (wd64_any _).mono ?_; rintro e w' ⟨rfl, rfl⟩)
    | (at_make; refine wpList_makeLC rfl _ _ 41 rfl 5 i0 (.int .u8 0) Tryd.underlying41 hi hz0 rfl hz1 .i64 .i64 _ _ L (L + 8) rfl rfl rfl (by omega) (by omega) (by rw [hz2]; omega) (by unfold maxLen; omega) ?_; intro w1 hb1 hb2; have HB1 := Lib.hid hb1; have HB2 := Lib.hid hb2; clear hb1 hb2)
    | (refine wpList_copy_splice rfl (.tmp 14) (.tmp 15) 41 41 rfl 5 Tryd.underlying41 sizeB (some ⟨w.heap.size, 0, none⟩) sp L (L + 8) L cap rfl rfl w.heap.size 0 _ 5 HB1.out (l.map V8) (by rw [List.length_map, HL.out]; simp) (src_pos (HS.out.grown HB2.out)) (by simp [HL.out]) (one_v8 l) w.heap.size w HB2.out (Nat.le_refl _) ?_; intro w2 hs2 hb3; have HP := Lib.hid hs2.out; have HB3 := Lib.hid hb3; clear hs2 hb3)
    | fail)
  have hR0 : PutRel (l ++ leb n 0) (L + 8) w (.slice (some ⟨w.heap.size, 0, none⟩) L (L + 8)) w2 := by
    have e : (l ++ leb n 0).length = L := by rw [List.length_append, HL.out, leb_length]; omega
    refine ⟨by rw [e], ?_, HB3.out⟩
    rw [e]
    exact owns_of_row (by simpa [leb] using HP.out) e (by omega) (by unfold maxLen; omega) (Nat.le_refl _)
  have HR0 := Lib.hid hR0
  clear hR0
  go_loopw [5, 18] (fun s i wr => ∃ k : Nat, k ≤ 8 ∧ i = .int .i64 k ∧ PutRel (l ++ leb n k) (L + 8) w s wr) (fun _ i _ => 8 - (intOf i).toNat)
  case atStart => exact ⟨0, by omega, rfl, HR0.out⟩
  case round =>
    clear HR0 HB1 HB2 HB3 HP
    obtain ⟨k, hk, rfl, hR⟩ := hrel
    obtain ⟨rfl, hown, hbel⟩ := hR
    have e : (l ++ leb n k).length = L + k := by rw [List.length_append, HL.out, leb_length]
    have HO := Lib.hid hown
    have HW := Lib.hid hbel
    have hsz : w.heap.size < wr.heap.size := (hown.lt _ rfl).2
    have HE := Lib.hid e
    have hown2 := hown
    unfold OwnB at hown2
    rw [e] at hown2
    have HO2 := Lib.hid hown2
    rw [e]
    clear hown2
    clear hown hbel e
    by_cases hlt : k < 8
    · have e2 := IntWalk.i64_in (8 * (k : Int)) (by omega)
      have p3 : 0 ≤ 8 * (k : Int) := by omega
      have r3 : (8 * (k : Int)).toNat = 8 * k := by omega
      have m3 : min (8 * k) 64 = 8 * k := by omega
      have l3 := lb_int n k
      have l4 := lb_mod n k
      have z1 := hz1
      clear hz1
      have HZ1 := Lib.hid z1
      clear z1
      go_wp2_with (first
        | (at_builtin; refine wpList_append_fits _ rfl (.tmp 21) (.tmp 27) 41 rfl w.heap.size 5 i0 1 Tryd.underlying41 hi HZ1.out w.heap.size (L + k) (L + 8) ((l ++ leb n k).map V8) rfl (HO2.out.alloc _) ⟨wr.heap.size, 0, none⟩ 1 1 [V8 (lb n k)] rfl rfl (one_at _ _ _) (one_cell8 _) (by omega) ?_; intro w2 ho hg)
        | fail)
      have HR2 : Hid (PutRel (l ++ leb n (k + 1)) (L + 8) w (.slice (some ⟨w.heap.size, 0, none⟩) (L + k + 1) (L + 8)) w2) := Lib.hid (by
        have e : (l ++ leb n (k + 1)).length = L + k + 1 := by rw [List.length_append, HL.out, leb_length]; omega
        refine ⟨by rw [e], ?_, (HW.out.alloc (by omega) _).grown hg (by simp; omega) (fun j hj => by cases hj; exact Nat.le_refl _)⟩
        unfold OwnB
        rw [e, leb_succ, ← List.append_assoc, List.map_append]
        exact ho)
      clear ho hg
      go_roundw
      case rel => exact ⟨k + 1, by omega, by go_num, HR2.out⟩
      case measure => simp [intOf]; omega
    · obtain rfl : k = 8 := by omega
      clear hlt hk
      go_wp2
      go_ret
      refine ⟨rfl, ?_, HW.out⟩
      exact HO.out
theorem pu64_any (l : List (BitVec 8)) (sp : Option Addr) (cap n : Nat) (w : World) (hl : l.length ≤ 100000) (hn : n < 2 ^ 64) (hS : SrcA w sp l) :
    Calls Tryd.prog 68 #[.slice sp l.length cap, .int .u64 (n : Int)] w fun e w' => e = .returned (.slice (some ⟨w.heap.size, 0, none⟩) (l.length + 8) (l.length + 8)) ∧
      OwnB w' w.heap.size (.slice (some ⟨w.heap.size, 0, none⟩) (l ++ leb n 8).length (l.length + 8)) (l ++ leb n 8) ∧ Below w.heap.size w w' := by
  obtain ⟨L, hL⟩ : ∃ L, l.length = L := ⟨_, rfl⟩
  have hc := put64_any l sp cap n w hl hn hS
  rw [hL] at hc ⊢
  have HC := Lib.hid hc
  clear hc hS hn hl hL
  go_enter Tryd.func68, Tryd.ntmps68
  go_wp2_with fail
  refine HC.out.mono ?_
  rintro e w' ⟨rfl, h1, h2⟩
  have H1 := Lib.hid h1
  have H2 := Lib.hid h2
  clear h1 h2
  go_wp2
  go_ret
  exact ⟨rfl, H1.out, H2.out⟩
end Go.Proofs.YtkbkmfmekjpleaaDoor
