/- The digits of a digest. -/
import Derived.Test.YtoaaaonpmcebfaaDoorSum
import Derived.Deep.RegionLaw
import Derived.WalkSpells
namespace Go.Proofs.YtoaaaonpmcebfaaDoor
open Go.RowKit

def digits : List (BitVec 8) := [48#8, 49#8, 50#8, 51#8, 52#8, 53#8, 54#8, 55#8, 56#8, 57#8, 97#8, 98#8, 99#8, 100#8, 101#8, 102#8]
def digit (n : Nat) : BitVec 8 := digits.getD n 0
def hex2 (x : BitVec 8) : List (BitVec 8) := [digit (x.toNat / 16), digit (x.toNat % 16)]
def hexOf (l : List (BitVec 8)) : List (BitVec 8) := l.flatMap hex2
abbrev dstr : ByteArray := { data := #[48, 49, 50, 51, 52, 53, 54, 55, 56, 57, 97, 98, 99, 100, 101, 102] }

theorem index24 (l : List (BitVec 8)) (hl : l.length = 32) (k : Nat) (hk : k < 32) (W : World) : (Instr.index 24 (.agg (l.map V8).toArray) (.int .i64 (k : Int))).run Tryd.prog W = .ok (V8 (l.getD k 0)) W := by
  refine run_index_cells 24 5 32 _ k _ W Tryd.underlying24 Tryd.underlying5 hk size5 ?_
  have := get_map V8 l k (by rw [hl]; exact hk) 0
  simpa using this
theorem size24l (l : List (BitVec 8)) (hl : l.length = 32) : (Tryd.prog.info? 24).map (·.size) = some (l.map V8).toArray.size := by rw [info24]; simp [hl]
theorem hi16 (x : BitVec 8) : N8 x / (16 : Int) = ((x.toNat / 16 : Nat) : Int) := by unfold N8; simp
theorem lo16 (x : BitVec 8) : bits .and .u8 (N8 x) (15 : Int) = ((x.toNat % 16 : Nat) : Int) := by
  unfold N8
  have := u8_and_nat x.toNat 15 x.isLt (by omega)
  rw [show ((15 : Int)) = ((15 : Nat) : Int) from rfl, this, Nat.and_two_pow_sub_one_eq_mod x.toNat 4]
theorem dig_val : ∀ n : Fin 16, ((dstr[n.val]'(by have := n.isLt; show n.val < 16; omega)).toNat : Int) = N8 (digit n.val) := by decide
theorem dig_at (n : Nat) (hn : n < 16) : ∀ W : World, (Instr.index 9 (.string { data := #[48, 49, 50, 51, 52, 53, 54, 55, 56, 57, 97, 98, 99, 100, 101, 102] }) (.int .u8 (n : Int))).run Tryd.prog W = .ok (V8 (digit n)) W := by
  intro W
  rw [run_index_string W 9 dstr .u8 n Tryd.underlying9, dif_pos ⟨by omega, by show (n : Int) < 16; omega⟩]
  have := dig_val ⟨n, hn⟩
  simp only [Int.toNat_natCast]
  rw [this]
theorem two_at (w : World) (u v : Value) (t : TypeId) : ∀ j x, [u, v][j]? = some x → (w.alloc (.cells #[u, v] t)).cell? ((⟨w.heap.size, 0, none⟩ : Addr).add j) = some x := by
  intro j x hj
  match j, hj with
  | 0, hj | 1, hj => simp at hj; subst hj; simp [Addr.add]
theorem hexOf_length (l : List (BitVec 8)) : (hexOf l).length = 2 * l.length := by
  induction l with
  | nil => rfl
  | cons x l ih =>
    have e : hexOf (x :: l) = hex2 x ++ hexOf l := rfl
    rw [e, List.length_append, ih]
    simp [hex2]; omega
theorem hex_spare (l : List (BitVec 8)) (hl : l.length = 32) (k j : Nat) (hj : j < 2 * k + 2) (hj2 : 2 * k ≤ j) (hk : k < 32) : ((hexOf (l.take k)).map V8 ++ List.replicate (64 - 2 * k) Z8)[j]? = some Z8 :=
  get_rep _ _ _ _ (by simp [hexOf_length]; omega) (by simp [hexOf_length]; omega)
theorem hexOf_snoc (l : List (BitVec 8)) (k : Nat) (hk : k < l.length) : hexOf (l.take (k + 1)) = hexOf (l.take k) ++ hex2 (l.getD k 0) := by
  have e : l.getD k 0 = l[k] := by simp [List.getD_eq_getElem?_getD, hk]
  rw [List.take_succ_eq_append_getElem hk, e]
  unfold hexOf
  rw [List.flatMap_append]
  simp
theorem hex_step (l : List (BitVec 8)) (hl : l.length = 32) (k : Nat) (hk : k < 32) (x : BitVec 8) (q1 q2 : Nat) (hx : l.getD k 0 = x) (h1 : x.toNat / 16 = q1) (h2 : x.toNat % 16 = q2) {G : Nat} {w : World}
    (h : Blk w G ((hexOf (l.take k)).map V8 ++ List.replicate (64 - 2 * k) Z8) 5) (o : Obj) :
    Blk (((w.setCell ⟨G, 2 * k, none⟩ (.int .u8 (N8 (digit q1)))).setCell ⟨G, 2 * k + 1, none⟩ (.int .u8 (N8 (digit q2)))).alloc o).drew G ((hexOf (l.take (k + 1))).map V8 ++ List.replicate (64 - 2 * (k + 1)) Z8) 5 := by
  have hlen : (hexOf (l.take k)).length = 2 * k := by rw [hexOf_length, List.length_take]; omega
  have s1 := h.set (2 * k) (V8 (digit q1))
  rw [set_next' _ (64 - 2 * k) (63 - 2 * k) Z8 _ (2 * k) (by rw [List.length_map, hlen]) (by omega)] at s1
  have s2 := s1.set (2 * k + 1) (V8 (digit q2))
  rw [set_next' _ (63 - 2 * k) (62 - 2 * k) Z8 _ (2 * k + 1) (by simp [hlen]) (by omega)] at s2
  rw [hexOf_snoc l k (by omega), hx, List.map_append, show 64 - 2 * (k + 1) = 62 - 2 * k by omega]
  have e : (hex2 x).map V8 = [V8 (digit q1), V8 (digit q2)] := by simp [hex2, h1, h2]
  rw [e]
  have := (s2.alloc o).drew
  simpa using this
def bstr (l : List (BitVec 8)) : ByteArray := ⟨(l.map (fun x => UInt8.ofNat x.toNat)).toArray⟩
theorem u8v (x : BitVec 8) : Value.int .u8 ((UInt8.ofNat x.toNat).toNat : Int) = V8 x := by
  have : (UInt8.ofNat x.toNat).toNat = x.toNat := by
    rw [UInt8.toNat_ofNat']; exact Nat.mod_eq_of_lt x.isLt
  rw [this]; rfl
theorem hex_string (l : List (BitVec 8)) (hl : l.length = 32) {G : Nat} {w : World} (h : Blk w G ((hexOf (l.take 32)).map V8 ++ List.replicate (64 - 2 * 32) Z8) 5) :
    (convert 22 9 (.slice (some ⟨G, 0, none⟩) 64 64)).run Tryd.prog w = .ok (.string (bstr (hexOf l))) w := by
  have e : l.take 32 = l := List.take_of_length_le (by omega)
  rw [e] at h
  have h64 : ((hexOf l).map (fun x => UInt8.ofNat x.toNat)).length = 64 := by rw [List.length_map, hexOf_length, hl]
  have := run_convert_bytes_back (P := Tryd.prog) w 22 9 5 ⟨G, 0, none⟩ 64 ((hexOf l).map (fun x => UInt8.ofNat x.toNat)) Tryd.underlying22 Tryd.underlying5 Tryd.underlying9 (fun j hj => by
    rw [Addr.add_mid, Nat.zero_add]
    have hj' : j < (hexOf l).length := by simpa using hj
    refine h.cell ?_
    rw [List.getElem?_append_left (by simpa using hj'), List.getElem?_map, List.getElem?_eq_getElem hj', List.getElem_map]
    exact congrArg some (u8v _).symm)
  rw [h64] at this
  exact this
def HexRel (l : List (BitVec 8)) (G : Nat) (w : World) (k : Nat) (s : Value) (wr : World) : Prop :=
  s = .slice (some ⟨G, 0, none⟩) (2 * k) 64 ∧ Blk wr G ((hexOf (l.take k)).map V8 ++ List.replicate (64 - 2 * k) Z8) 5 ∧ Below w.heap.size w wr

theorem hex_start (w : World) (o : Obj) (w1 : World) (h1 : Blk w1 (w.alloc o).heap.size (List.replicate 64 (.int .u8 0)) 5) (h2 : Below (w.alloc o).heap.size (w.alloc o) w1) (cs : List Value) (ho : o = .cells cs.toArray 24 := by rfl) :
    Blk w1 (w.heap.size + 1) (List.replicate 64 Z8) 5 ∧ Blk w1 w.heap.size cs 24 ∧ Below w.heap.size w w1 := by
  subst ho
  simp only [World.size_alloc] at h1 h2
  exact ⟨h1, (Blk.new _ _ _).below h2 (by omega), ((Below.refl _ _).alloc (Nat.le_refl _) _).trans (h2.mono (by omega))⟩

set_option maxRecDepth 100000 in
set_option maxHeartbeats 1000000 in
theorem hex_any (l : List (BitVec 8)) (hl : l.length = 32) (w : World) :
    Calls Tryd.prog 11 #[.agg (l.map V8).toArray] w fun e w' => e = .returned (.string (bstr (hexOf l))) ∧ Below w.heap.size w w' := by
  obtain ⟨i0, hi, hz0, hz1, hz2⟩ := info_parts info5
  go_enter Tryd.func11, Tryd.ntmps11
  go_wp2_with (first
    | (at_make; refine wpList_makeLC rfl _ _ 22 rfl 5 i0 (.int .u8 0) Tryd.underlying22 hi hz0 rfl hz1 .i64 .i64 _ _ 0 64 rfl rfl rfl rfl (by omega) (by rw [hz2]; omega) (by unfold maxLen; omega) ?_; intro w1 hb1 hb2; have HW1 := Lib.hid (hex_start w _ w1 hb1 hb2 (l.map V8)); clear hb1 hb2)
    | (refine wpList_load_row rfl 24 (.tmp 1) rfl w.heap.size rfl 24 _ _ _ HW1.out.2.1 Tryd.underlying24 rfl (size24l l hl) ?_)
    | fail)
  have HR0 : Hid (HexRel l (w.heap.size + 1) w 0 (.slice (some ⟨w.heap.size + 1, 0, none⟩) 0 64) w1) := Lib.hid ⟨rfl, HW1.out.1, HW1.out.2.2⟩
  clear HW1
  go_loopw [3, 8] (fun s i wr => ∃ k : Nat, k ≤ 32 ∧ i = .int .i64 k ∧ HexRel l (w.heap.size + 1) w k s wr) (fun _ i _ => 32 - (intOf i).toNat)
  case atStart => exact ⟨0, by omega, rfl, HR0.out⟩
  case round =>
    clear HR0
    obtain ⟨k, hk, rfl, rfl, hb, hbel⟩ := hrel
    have HBk := Lib.hid hb
    have HBel := Lib.hid hbel
    clear hb hbel
    by_cases hlt : k < 32
    · obtain ⟨x, hx⟩ : ∃ x, l.getD k 0 = x := ⟨_, rfl⟩
      have hix : ∀ W : World, (Instr.index 24 (.agg (l.map V8).toArray) (.int .i64 (k : Int))).run Tryd.prog W = .ok (V8 x) W := fun W => by rw [← hx]; exact index24 l hl k hlt W
      have HX := Lib.hid hx
      clear hx
      obtain ⟨q1, hq1⟩ : ∃ q, x.toNat / 16 = q := ⟨_, rfl⟩
      obtain ⟨q2, hq2⟩ : ∃ q, x.toNat % 16 = q := ⟨_, rfl⟩
      have h1 := hi16 x
      have h2 := lo16 x
      have i1 := dig_at (x.toNat / 16) (by have := x.isLt; omega)
      have i2 := dig_at (x.toNat % 16) (by omega)
      rw [hq1] at h1 i1
      rw [hq2] at h2 i2
      have HQ1 := Lib.hid hq1
      have HQ2 := Lib.hid hq2
      clear hq1 hq2
      have hgs : w.heap.size + 1 < wr.heap.size := HBk.out.lt
      have hk2 : 2 * k ≤ 62 := by omega
      have cA := HBk.out.cell (hex_spare l hl k (2 * k) (by omega) (Nat.le_refl _) hlt)
      have cB := HBk.out.cell (hex_spare l hl k (2 * k + 1) (by omega) (by omega) hlt)
      have fA := HBk.out.free (2 * k)
      have fB := HBk.out.free (2 * k + 1)
      go_wp2
      go_region
      clear cA cB fA fB h1 h2 i1 i2 hix
      go_wp2
      go_roundw
      case rel => exact ⟨k + 1, by omega, by go_num, rfl, hex_step l hl k hlt x q1 q2 HX.out HQ1.out HQ2.out HBk.out _, (((HBel.out.setCell (by simp) _).setCell (by simp) _).alloc (by have := HBel.out.size; simp; omega) _).drew⟩
      case measure => simp [intOf]; omega
    · obtain rfl : k = 32 := by omega
      clear hlt hk
      have hcv := hex_string l hl HBk.out
      clear hi
      go_wp2
      go_ret
      exact ⟨rfl, HBel.out⟩

end Go.Proofs.YtoaaaonpmcebfaaDoor
