/- Digests that are known: the walk of the law, with the digest of a million letters left a premise. -/
import Derived.Test.YtoaaaonpmcebfaaDoorWakes
import Derived.Test.YtoaaaonpmcebfaaDoorNil
import Derived.Test.YtoaaaonpmcebfaaDoorLHex
namespace Go.Proofs.YtoaaaonpmcebfaaDoor
open Go.RowKit

theorem write_n (H : Nat) (m bs : List (BitVec 8)) (n : Nat) (hn : bs.length = n) (sp : Option Addr) (cap : Nat) (w : World) (hl : m.length + n < 1000000000) (hcap : n ≤ cap) (hcap2 : cap ≤ 9223372036854775807)
    (hH : HashAt w H m) (hS : Src w H sp bs) (hT : Tab w) (hH0 : H ≠ 0) :
    Calls Tryd.prog 13 #[.pointer (some ⟨H, 0, none⟩), .slice sp n cap] w fun e w' => e = .returned (.tuple #[]) ∧ HashAt w' H (m ++ bs) ∧ ButFor H w w' ∧ Tab w' := by
  subst hn; exact write_any H m bs sp cap w hl hcap hcap2 hH hS hT hH0
theorem shaSum_n (bs : List (BitVec 8)) (n : Nat) (hn : bs.length = n) (sp : Option Addr) (cap : Nat) (w : World) (hl : n < 900000000) (hc : n ≤ cap) (hc2 : cap ≤ 9223372036854775807) (hS : SrcA w sp bs) (hT : Tab w) :
    Calls Tryd.prog 9 #[.slice sp n cap] w fun e w' => e = .returned (.agg ((digest bs).map V8).toArray) ∧ Below w.heap.size w w' := by
  subst hn; exact shaSum_any bs sp cap w hl hc hc2 hS hT

/-- So many letters. -/
def aaa (k : Nat) : List (BitVec 8) := List.replicate k 97#8
theorem aaa_length (k : Nat) : (aaa k).length = k := by simp [aaa]
theorem aaa_add (a b : Nat) : aaa a ++ aaa b = aaa (a + b) := by simp [aaa, List.replicate_append_replicate]
def zs (k : Nat) : List Value := List.replicate k Z8
def RelA (w : World) (k : Nat) (wr : World) : Prop :=
  Blk wr (w.heap.size + 1) ((aaa k).map V8 ++ zs (1000 - k)) 5 ∧ HashAt wr w.heap.size [] ∧ Tab wr ∧ Below w.heap.size w wr
def RelB (w : World) (k : Nat) (wr : World) : Prop :=
  Blk wr (w.heap.size + 1) ((aaa 1000).map V8) 5 ∧ HashAt wr w.heap.size (aaa (1000 * k)) ∧ Tab wr ∧ Below w.heap.size w wr
theorem relA_start (w W : World) (hT : Tab w) (hb : Blk W (w.alloc (.cells (hcells H0 (List.replicate 64 0#8) 0).toArray 45)).heap.size (List.replicate 1000 (.int .u8 0)) 5)
    (hW : Below (w.alloc (.cells (hcells H0 (List.replicate 64 0#8) 0).toArray 45)).heap.size (w.alloc (.cells (hcells H0 (List.replicate 64 0#8) 0).toArray 45)) W) : RelA w 0 W := by
  simp only [World.size_alloc] at hb hW
  refine ⟨hb, ⟨List.replicate 64 0#8, ⟨rfl, rfl⟩, ?_⟩, ?_, ((Below.refl _ _).alloc (Nat.le_refl _) _).trans (hW.mono (by omega))⟩
  · exact (Blk.new w _ 45).below hW (by omega)
  · exact (hT.alloc _).below hW (by simp)
theorem relA_step {w wr : World} {k : Nat} (h : RelA w k wr) (hk : k < 1000) (hT : Tab w) : RelA w (k + 1) (wr.setCell ⟨w.heap.size + 1, k, none⟩ (.int .u8 97)) := by
  obtain ⟨h1, ⟨rest, h2, h3⟩, h4, h5⟩ := h
  refine ⟨?_, ⟨rest, h2, h3.other (by simp) _⟩, h4.other (by simp) _, h5.setCell (by simp) _⟩
  have := h1.set k (V8 97#8)
  unfold zs at this
  rw [set_next' _ (1000 - k) (1000 - (k + 1)) Z8 _ k (by rw [List.length_map, aaa_length]) (by omega)] at this
  have e : (aaa (k + 1)).map V8 = (aaa k).map V8 ++ [V8 97#8] := by rw [← aaa_add, List.map_append]; rfl
  rw [e]; exact this
theorem relB_start {w wr : World} (h : RelA w 1000 wr) : RelB w 0 wr := by
  obtain ⟨h1, h2, h3, h4⟩ := h
  refine ⟨?_, h2, h3, h4⟩
  have e : zs (1000 - 1000) = [] := rfl
  rw [e, List.append_nil] at h1
  exact h1
theorem relB_src {w wr : World} {k : Nat} (h : RelB w k wr) : Src wr w.heap.size (some ⟨w.heap.size + 1, 0, none⟩) (aaa 1000) := fun _ =>
  ⟨w.heap.size + 1, 0, rfl, by omega, h.1.lt, fun j hj => by rw [Nat.zero_add]; exact h.1.cell (get_map V8 _ j hj 0)⟩
theorem relB_step {w wr w1 : World} {k : Nat} (h : RelB w k wr) (hh : HashAt w1 w.heap.size (aaa (1000 * k) ++ aaa 1000)) (hb : ButFor w.heap.size wr w1) (ht : Tab w1) : RelB w (k + 1) w1 := by
  refine ⟨hb.blk h.1 (by omega), ?_, ht, h.2.2.2.trans (hb.below (Nat.le_refl _) h.2.2.2.size)⟩
  rw [aaa_add] at hh
  exact hh

def text56 : List (BitVec 8) := [97#8, 98#8, 99#8, 100#8, 98#8, 99#8, 100#8, 101#8, 99#8, 100#8, 101#8, 102#8, 100#8, 101#8, 102#8, 103#8, 101#8, 102#8, 103#8, 104#8, 102#8, 103#8, 104#8, 105#8, 103#8, 104#8, 105#8, 106#8, 104#8, 105#8, 106#8, 107#8, 105#8, 106#8, 107#8, 108#8, 106#8, 107#8, 108#8, 109#8, 107#8, 108#8, 109#8, 110#8, 108#8, 109#8, 110#8, 111#8, 109#8, 110#8, 111#8, 112#8, 110#8, 111#8, 112#8, 113#8]
theorem none_digits : bstr (hexOf (digest [])) = { data := #[101, 51, 98, 48, 99, 52, 52, 50, 57, 56, 102, 99, 49, 99, 49, 52, 57, 97, 102, 98, 102, 52, 99, 56, 57, 57, 54, 102, 98, 57, 50, 52, 50, 55, 97, 101, 52, 49, 101, 52, 54, 52, 57, 98, 57, 51, 52, 99, 97, 52, 57, 53, 57, 57, 49, 98, 55, 56, 53, 50, 98, 56, 53, 53] } := by kernel_rfl
theorem text56_digits : bstr (hexOf (digest text56)) = { data := #[50, 52, 56, 100, 54, 97, 54, 49, 100, 50, 48, 54, 51, 56, 98, 56, 101, 53, 99, 48, 50, 54, 57, 51, 48, 99, 51, 101, 54, 48, 51, 57, 97, 51, 51, 99, 101, 52, 53, 57, 54, 52, 102, 102, 50, 49, 54, 55, 102, 54, 101, 99, 101, 100, 100, 52, 49, 57, 100, 98, 48, 54, 99, 49] } := by kernel_rfl
/-- The bytes of the second constant text, as the program lays them. -/
abbrev obj56 : Obj := .cells #[Value.int .u8 97, .int .u8 98, .int .u8 99, .int .u8 100, .int .u8 98, .int .u8 99, .int .u8 100, .int .u8 101, .int .u8 99, .int .u8 100, .int .u8 101, .int .u8 102, .int .u8 100, .int .u8 101, .int .u8 102, .int .u8 103, .int .u8 101, .int .u8 102, .int .u8 103, .int .u8 104, .int .u8 102, .int .u8 103, .int .u8 104, .int .u8 105, .int .u8 103, .int .u8 104, .int .u8 105, .int .u8 106, .int .u8 104, .int .u8 105, .int .u8 106, .int .u8 107, .int .u8 105, .int .u8 106, .int .u8 107, .int .u8 108, .int .u8 106, .int .u8 107, .int .u8 108, .int .u8 109, .int .u8 107, .int .u8 108, .int .u8 109, .int .u8 110, .int .u8 108, .int .u8 109, .int .u8 110, .int .u8 111, .int .u8 109, .int .u8 110, .int .u8 111, .int .u8 112, .int .u8 110, .int .u8 111, .int .u8 112, .int .u8 113] 5 (56, 57)
theorem src56 (w : World) : SrcA (w.alloc obj56) (some ⟨w.heap.size, 0, none⟩) text56 := fun _ => by
  refine ⟨w.heap.size, 0, rfl, by simp, fun j hj => ?_⟩
  rw [Nat.zero_add, cell_of_row _ _ _ _ _ _ (heap_alloc_new w obj56)]
  have := get_map V8 text56 j hj 0
  rw [← this]
  show (#[Value.int .u8 97, .int .u8 98, .int .u8 99, .int .u8 100, .int .u8 98, .int .u8 99, .int .u8 100, .int .u8 101, .int .u8 99, .int .u8 100, .int .u8 101, .int .u8 102, .int .u8 100, .int .u8 101, .int .u8 102, .int .u8 103, .int .u8 101, .int .u8 102, .int .u8 103, .int .u8 104, .int .u8 102, .int .u8 103, .int .u8 104, .int .u8 105, .int .u8 103, .int .u8 104, .int .u8 105, .int .u8 106, .int .u8 104, .int .u8 105, .int .u8 106, .int .u8 107, .int .u8 105, .int .u8 106, .int .u8 107, .int .u8 108, .int .u8 106, .int .u8 107, .int .u8 108, .int .u8 109, .int .u8 107, .int .u8 108, .int .u8 109, .int .u8 110, .int .u8 108, .int .u8 109, .int .u8 110, .int .u8 111, .int .u8 109, .int .u8 110, .int .u8 111, .int .u8 112, .int .u8 110, .int .u8 111, .int .u8 112, .int .u8 113] : Array Value)[j]? = _
  rw [show (#[Value.int .u8 97, .int .u8 98, .int .u8 99, .int .u8 100, .int .u8 98, .int .u8 99, .int .u8 100, .int .u8 101, .int .u8 99, .int .u8 100, .int .u8 101, .int .u8 102, .int .u8 100, .int .u8 101, .int .u8 102, .int .u8 103, .int .u8 101, .int .u8 102, .int .u8 103, .int .u8 104, .int .u8 102, .int .u8 103, .int .u8 104, .int .u8 105, .int .u8 103, .int .u8 104, .int .u8 105, .int .u8 106, .int .u8 104, .int .u8 105, .int .u8 106, .int .u8 107, .int .u8 105, .int .u8 106, .int .u8 107, .int .u8 108, .int .u8 106, .int .u8 107, .int .u8 108, .int .u8 109, .int .u8 107, .int .u8 108, .int .u8 109, .int .u8 110, .int .u8 108, .int .u8 109, .int .u8 110, .int .u8 111, .int .u8 109, .int .u8 110, .int .u8 111, .int .u8 112, .int .u8 110, .int .u8 111, .int .u8 112, .int .u8 113] : Array Value) = (text56.map V8).toArray from rfl]
  simp

theorem sha_c (bs : List (BitVec 8)) (n : Nat) (hn : bs.length = n) {c : List Value} (hc : (digest bs).map V8 = c) (sp : Option Addr) (cap : Nat) (w : World) (hl : n < 900000000) (hcp : n ≤ cap) (hc2 : cap ≤ 9223372036854775807) (hS : SrcA w sp bs) (hT : Tab w) :
    Calls Tryd.prog 9 #[.slice sp n cap] w fun e w' => e = .returned (.agg c.toArray) ∧ Below w.heap.size w w' := by
  subst hc; exact shaSum_n bs n hn sp cap w hl hcp hc2 hS hT
theorem hashSum_c (H : Nat) (m : List (BitVec 8)) {c : List Value} (hc : (digest m).map V8 = c) (w : World) (hl : m.length < 900000000) (hH : HashAt w H m) (hT : Tab w) :
    Calls Tryd.prog 14 #[.pointer (some ⟨H, 0, none⟩)] w fun e w' => e = .returned (.agg c.toArray) ∧ Below w.heap.size w w' := by
  subst hc; exact hashSum_any H m w hl hH hT
theorem relB_below {w W W' : World} {k : Nat} (h : RelB w k W) (hb : Below W.heap.size W W') : RelB w k W' := by
  obtain ⟨h1, ⟨rest, h2, h3⟩, h4, h5⟩ := h
  exact ⟨h1.below hb h1.lt, ⟨rest, h2, h3.below hb h3.lt⟩, h4.below hb (Nat.le_refl _), h5.trans (hb.mono h5.size)⟩
theorem relB_alloc {w W : World} {k : Nat} (h : RelB w k W) (o : Obj) : RelB w k (W.alloc o) := relB_below h ((Below.refl _ _).alloc (Nat.le_refl _) _)

theorem sha56 {c : List Value} (hc : (digest text56).map V8 = c) (o : Obj) (w W : World) (ho : o = obj56) (h : RelB w 1000 W) :
    Calls Tryd.prog 9 #[.slice (some ⟨W.heap.size, 0, none⟩) 56 56] (W.alloc o) fun e w' => e = .returned (.agg c.toArray) ∧ RelB w 1000 w' := by
  subst ho
  refine (sha_c text56 56 rfl hc _ _ _ (by omega) (by omega) (by omega) (src56 W) (relB_alloc h _).2.2.1).mono ?_
  exact fun e w1 h1 => ⟨h1.1, relB_below (relB_alloc h _) h1.2⟩

set_option maxRecDepth 100000 in
set_option maxHeartbeats 2000000 in
theorem shaKnown_walk (hM : bstr (hexOf (digest (aaa (1000 * 1000)))) = { data := #[99, 100, 99, 55, 54, 101, 53, 99, 57, 57, 49, 52, 102, 98, 57, 50, 56, 49, 97, 49, 99, 55, 101, 50, 56, 52, 100, 55, 51, 101, 54, 55, 102, 49, 56, 48, 57, 97, 52, 56, 97, 52, 57, 55, 50, 48, 48, 101, 48, 52, 54, 100, 51, 57, 99, 99, 99, 55, 49, 49, 50, 99, 100, 48] }) (w : World) (hT : Tab w) : Calls Tryd.prog 7 #[] w fun e w' => e = .returned (.bool true) ∧ Below w.heap.size w w' := by
  obtain ⟨i0, hi, hz0, hz1, hz2⟩ := info_parts info5
  have HT := Lib.hid hT
  obtain ⟨c0, hc0⟩ : ∃ c, (digest []).map V8 = c := ⟨_, rfl⟩
  obtain ⟨c1, hc1⟩ : ∃ c, (digest text56).map V8 = c := ⟨_, rfl⟩
  obtain ⟨c2, hc2⟩ : ∃ c, (digest (aaa (1000 * 1000))).map V8 = c := ⟨_, rfl⟩
  have HC0 := Lib.hid hc0; have HC1 := Lib.hid hc1; have HC2 := Lib.hid hc2
  have HM := Lib.hid hM
  clear hc0 hc1 hc2
  have HI := Lib.hid hi; have HZ0 := Lib.hid hz0; have HZ1 := Lib.hid hz1; have HZ2 := Lib.hid hz2
  clear hM hT hi hz0 hz1 hz2
  go_enter Tryd.func7, Tryd.ntmps7
  go_wp2_with (first
    | (go_at_call 15; refine (new_any w).mono ?_; rintro e0 w0 ⟨rfl, rfl⟩)
    | (at_make; refine wpList_makeLC rfl _ _ 22 rfl 5 i0 (.int .u8 0) Tryd.underlying22 HI.out HZ0.out rfl HZ1.out .i64 .i64 _ _ 1000 1000 rfl rfl rfl rfl (by omega) (by rw [HZ2.out]; omega) (by unfold maxLen; omega) ?_; intro w1 hb1 hb2; have HA := Lib.hid (relA_start w w1 HT.out hb1 hb2); clear hb1 hb2)
    | fail)
  go_loopw [3] (fun i wr => ∃ k : Nat, k ≤ 1000 ∧ i = .int .i64 k ∧ RelA w k wr) (fun i _ => 1000 - (intOf i).toNat)
  case atStart => exact ⟨0, by omega, rfl, HA.out⟩
  case round =>
    clear HA
    obtain ⟨k, hk, rfl, hR⟩ := hrel
    have HR := Lib.hid hR
    clear hR
    by_cases hlt : k < 1000
    · have ck : wr.cell? ⟨w.heap.size + 1, k, none⟩ = some Z8 := HR.out.1.cell (get_rep _ _ _ _ (Nat.le_of_eq (by rw [List.length_map, aaa_length])) (by rw [List.length_map, aaa_length]; omega))
      have fk := HR.out.1.free k
      have hs := HR.out.1.lt
      go_wp2
      go_roundw
      case rel => exact ⟨k + 1, by omega, by go_num, relA_step HR.out hlt HT.out⟩
      case measure => simp [intOf]; omega
    · obtain rfl : k = 1000 := by omega
      have HB0 : Hid (RelB w 0 wr) := Lib.hid (relB_start HR.out)
      clear HR hlt hk
      rw [show ((1000 : Nat) : Int) = (1000 : Int) from rfl]
      go_wp2
      go_loopw [4] (fun i wr => ∃ k : Nat, k ≤ 1000 ∧ i = .int .i64 k ∧ RelB w k wr) (fun i _ => 1000 - (intOf i).toNat)
      case atStart => exact ⟨0, by omega, rfl, HB0.out⟩
      case round =>
        clear HB0
        obtain ⟨k, hk, rfl, hR⟩ := hrel
        have HR := Lib.hid hR
        clear hR
        by_cases hlt : k < 1000
        · go_wp2_with (first
            | (go_at_call 13; refine (write_n w.heap.size (aaa (1000 * k)) (aaa 1000) 1000 (aaa_length _) (some ⟨w.heap.size + 1, 0, none⟩) 1000 _ (by rw [aaa_length]; omega) (by omega) (by omega) HR.out.2.1 (relB_src HR.out) HR.out.2.2.1 (Nat.ne_of_gt HT.out.lt)).mono ?_; rintro e1 w2 ⟨rfl, hh, hb, ht⟩; have HN := Lib.hid (relB_step HR.out hh hb ht); clear hh hb ht)
            | fail)
          go_roundw
          case rel => exact ⟨k + 1, by omega, by go_num, HN.out⟩
          case measure => simp [intOf]; omega
        · obtain rfl : k = 1000 := by omega
          rw [show ((1000 : Nat) : Int) = (1000 : Int) from rfl]
          have kc := fun (w : World) (C : Array Value) (n c : Nat) => Lib.run_convert_bytes_const (P := Tryd.prog) w 22 5 C n c Tryd.underlying22 Tryd.underlying5
          go_wp2_with (first
            | (have hq := HR; clear hq; go_at_call 9; refine (sha_c [] 0 rfl HC0.out none 0 _ (by omega) (by omega) (by omega) (fun h => absurd h (by decide)) HR.out.2.2.1).mono ?_; rintro e1 w2 ⟨rfl, hb⟩; have HR2 := Lib.hid (relB_below HR.out hb); clear hb HR)
            | (have hq := HR4; clear hq; go_at_call 9; refine (sha56 HC1.out _ w _ (by rfl) HR4.out).mono ?_; rintro e1 w4 ⟨rfl, hb⟩; have HR5 := Lib.hid hb; clear hb HR4)
            | (have hq := HR6; clear hq; go_at_call 14; refine (hashSum_c _ (aaa (1000 * 1000)) HC2.out _ (by rw [aaa_length]; omega) HR6.out.2.1 HR6.out.2.2.1).mono ?_; rintro e1 w6 ⟨rfl, hb⟩; have HR7 := Lib.hid (relB_below HR6.out hb); clear hb HR6)
            | (have hq := HR2; clear hq; go_at_call 11; refine (hex_c (digest []) (digest_length _) HC0.out none_digits _).mono ?_; rintro e1 w3 ⟨rfl, hb⟩; have HR4 := Lib.hid (relB_below HR2.out hb); clear hb HR2)
            | (have hq := HR5; clear hq; go_at_call 11; refine (hex_c (digest text56) (digest_length _) HC1.out text56_digits _).mono ?_; rintro e1 w5 ⟨rfl, hb⟩; have HR6 := Lib.hid (relB_below HR5.out hb); clear hb HR5)
            | (have hq := HR7; clear hq; go_at_call 11; refine (hex_c (digest (aaa (1000 * 1000))) (digest_length _) HC2.out HM.out _).mono ?_; rintro e1 w7 ⟨rfl, hb⟩; have HR8 := Lib.hid (relB_below HR7.out hb); clear hb HR7)
            | (have hq := HR8; clear hq; go_at_call 8; refine (wakes_any _ HR8.out.2.2.1).mono ?_; rintro e1 w8 ⟨rfl, hb⟩; have HR9 := Lib.hid (relB_below HR8.out hb); clear hb HR8)
            | fail)
          go_ret
          exact ⟨rfl, HR9.out.2.2.2⟩

end Go.Proofs.YtoaaaonpmcebfaaDoor
