/- A pointer's tag, and its bytes behind some. -/
import Derived.Test.YtmgagalhpkieoaaGreatDoorM15
import Derived.Lib.AppendZerosOnto
import Derived.Lib.Walk
import Derived.Laws.OwnMore
import Derived.Test.YtmgagalhpkieoaaGreatDoorM13
import Derived.WalkKit
import Derived.Lib.Hide
import Derived.Deep.QuietTactic
import Derived.BigQuiet
import Derived.StillTailTactics
namespace Go.Proofs.YtmgagalhpkieoaaGreatDoor
open Go.RowKit

theorem u8_cell {n : Nat} (h : n < 256) : Value.int .u8 (n : Int) = V8 (lb n 0) := by
  unfold V8 N8
  rw [lb_nat]
  simp
  omega
theorem src_new (w : World) (l : Bs) (cs : Array Value) (h : cs = (l.map V8).toArray) : SrcA (w.alloc (.cells cs 5)) (some ⟨w.heap.size, 0, none⟩) l := fun _ => by
  refine ⟨w.heap.size, 0, rfl, by simp, fun j hj => ?_⟩
  rw [Nat.zero_add]
  exact (Blk.new' w cs (l.map V8) 5 _ rfl h).cell (get_map V8 l j hj 0)
theorem val_take_one {l : List Nat} {k x : Nat} (h : l[k]? = some x) : l.take (k + 1) = l.take k ++ [x] := by
  obtain ⟨h2, h3⟩ := List.getElem?_eq_some_iff.1 h
  rw [List.take_succ_eq_append_getElem h2, h3]
set_option maxRecDepth 100000 in
set_option maxHeartbeats 4000000 in
theorem tag_any (p : Pt) (hp : p.OK) (w : World) : Calls Tryz.prog 100 #[.agg (pcells p).toArray] w fun e w' => ∃ v, e = .returned v ∧ OwnB w' w.heap.size v (tagB p) ∧ Below w.heap.size w w' := by
  have HP := Lib.hid hp
  have HG0 : Hid (Blk (w.alloc (.cells (pcells p).toArray 58)) w.heap.size (pcells p) 58) := Lib.hid (Blk.new _ _ _)
  have HB0 : Hid (Below w.heap.size w (w.alloc (.cells (pcells p).toArray 58))) := Lib.hid ((Below.refl _ _).alloc (Nat.le_refl _) _)
  have cK := HG0.out.cell (j := 0) rfl
  have cL := HG0.out.cell (j := 1) rfl
  have cO := HG0.out.cell (j := 2) rfl
  clear hp
  go_enter Tryz.func100, Tryz.ntmps100
  go_upto_region 1 with fail
  generalize (w.alloc (.cells (pcells p).toArray 58)) = W0 at HG0 HB0 cK cL cO ⊢
  have cO2 : ∀ o, (W0.alloc o).cell? ⟨w.heap.size, 2, none⟩ = some (.int .u16 (p.obj : Int)) := fun o => (HG0.out.alloc o).cell rfl
  have hc := pu16_any (leb p.kind 1 ++ leb p.level 1) (some ⟨W0.heap.size, 0, none⟩) 2 p.obj (W0.alloc (.cells #[.int .u8 (p.kind : Int), .int .u8 (p.level : Int)] 5)) (by simp [leb_length]) HP.out.obj (src_new W0 _ _ (by rw [u8_cell HP.out.kind, u8_cell HP.out.level]; rfl))
  rw [show (leb p.kind 1 ++ leb p.level 1).length = 2 by simp [leb_length]] at hc
  have HC := Lib.hid hc
  clear hc
  go_upto_region 2 with (first | (go_at_call 114; refine HC.out.mono ?_; rintro e w1 ⟨rfl, ho1, hb1⟩; have HO1 := Lib.hid ho1; have HB1 := Lib.hid hb1; clear ho1 hb1) | fail)
  obtain ⟨g1, hg1⟩ : ∃ g, (W0.alloc (.cells #[.int .u8 (p.kind : Int), .int .u8 (p.level : Int)] 5)).heap.size = g := ⟨_, rfl⟩
  rw [hg1] at HO1 HB1
  have hg2 : W0.heap.size + 1 = g1 := by rw [← hg1]; simp
  try rw [hg2]
  try rw [hg1]
  have hw0 := HB0.out.size
  have hs1 : SrcA w1 (some ⟨g1, 0, none⟩) (leb p.kind 1 ++ leb p.level 1 ++ leb p.obj 2) := by
    obtain ⟨sp, cap, e, _, _, h, _⟩ := OwnB.form HO1.out
    cases e
    exact h
  have hgg := HG0.out.lt
  have hA1 : Blk w1 w.heap.size (pcells p) 58 := (HG0.out.alloc _).below HB1.out (by omega)
  have hBB : Below w.heap.size w w1 := (HB0.out.alloc hw0 _).trans (HB1.out.mono (by omega))
  have HA1 := Lib.hid hA1; have HS1 := Lib.hid hs1; have HBB := Lib.hid hBB
  clear hA1 hs1 hBB hg1 hg2 HO1 HB1 HC cO2 cK cL cO
  refine gS (.take 0 (.take 1 (.take 2 (.take 4 (.take 5 (.step 3 (.step 6 (.take 7 (.nil))))))))) (fun X => Blk X w.heap.size (pcells p) 58 ∧ Below w.heap.size w X) ⟨HA1.out.drew, HBB.out.drew⟩ ?_
  refine gT (.slice (some ⟨g1, 0, none⟩) (2 + 2) (2 + 2)) ?_; try simp only [pS]
  refine wpG_take _ (.pointer (some ⟨w.heap.size, 3, none⟩)) rfl (by rfl) (fun X hX => ex_faP 3 3 (by omega) rfl rfl) ?_; try simp only [pS]
  refine wpG_take _ (.int .u32 (p.off : Int)) rfl (by rfl) (fun X hX => ex_ld1 Tryz.underlying53 rfl rfl (hX.1.cell rfl)) ?_; try simp only [pS]
  refine wpG_take _ (.pointer (some ⟨w.heap.size, 4, none⟩)) rfl (by rfl) (fun X hX => ex_faP 4 4 (by omega) rfl rfl) ?_; try simp only [pS]
  refine wpG_take _ (.int .u64 (p.birth : Int)) rfl (by rfl) (fun X hX => ex_ld1 Tryz.underlying54 rfl rfl (hX.1.cell rfl)) ?_; try simp only [pS]
  have hc2 := pu32_any (leb p.kind 1 ++ leb p.level 1 ++ leb p.obj 2) (some ⟨g1, 0, none⟩) (2 + 2) p.off w1.drew (by simp [leb_length]) HP.out.off HS1.out
  rw [show (leb p.kind 1 ++ leb p.level 1 ++ leb p.obj 2).length = 2 + 2 by simp [leb_length]] at hc2
  refine wpG_call _ rfl (by rfl) 116 #[.slice (some ⟨g1, 0, none⟩) (2 + 2) (2 + 2), .int .u32 (p.off : Int)] (fun _ => by go_simp) (fun u w' => u = .slice (some ⟨w1.drew.heap.size, 0, none⟩) (2 + 2 + 4) (2 + 2 + 4) ∧ SrcA w' (some ⟨w1.drew.heap.size, 0, none⟩) (leb p.kind 1 ++ leb p.level 1 ++ leb p.obj 2 ++ leb p.off 4)) (hc2.mono fun e w' ⟨e1, e2, e3⟩ => ⟨_, e1, ⟨HA1.out.drew.below e3 HA1.out.lt, HBB.out.drew.trans (e3.mono HBB.out.size)⟩, rfl, by
    obtain ⟨sp, cap, e, _, _, h, _⟩ := OwnB.form e2
    cases e
    exact h⟩) ?_
  rintro u w2 hs2 ⟨rfl, hsrc2⟩
  refine ⟨_, fun _ h => h, hs2, ?_⟩; try simp only [pS]
  have hc3 := pu64_any (leb p.kind 1 ++ leb p.level 1 ++ leb p.obj 2 ++ leb p.off 4) (some ⟨w1.drew.heap.size, 0, none⟩) (2 + 2 + 4) p.birth w2 (by simp [leb_length]) HP.out.birth hsrc2
  rw [show (leb p.kind 1 ++ leb p.level 1 ++ leb p.obj 2 ++ leb p.off 4).length = 2 + 2 + 4 by simp [leb_length]] at hc3
  refine wpG_call _ rfl (by rfl) 115 #[.slice (some ⟨w1.drew.heap.size, 0, none⟩) (2 + 2 + 4) (2 + 2 + 4), .int .u64 (p.birth : Int)] (fun _ => by go_simp) (fun u w' => u = .slice (some ⟨w2.heap.size, 0, none⟩) (2 + 2 + 4 + 8) (2 + 2 + 4 + 8) ∧ OwnB w' w2.heap.size u (tagB p)) (hc3.mono fun e w' ⟨e1, e2, e3⟩ => ⟨_, e1, ⟨hs2.1.below e3 hs2.1.lt, hs2.2.trans (e3.mono hs2.2.size)⟩, rfl, by
    have e : (leb p.kind 1 ++ leb p.level 1 ++ leb p.obj 2 ++ leb p.off 4 ++ leb p.birth 8).length = 2 + 2 + 4 + 8 := by simp [leb_length]
    rw [e] at e2
    exact e2⟩) ?_
  rintro u w3 hs3 ⟨rfl, ho3⟩
  refine ⟨_, fun _ h => h, hs3, ?_⟩; try simp only [pS]
  refine gT (.slice (some ⟨w2.heap.size, 0, none⟩) (2 + 2 + 4 + 8) (2 + 2 + 4 + 8)) ?_; try simp only [pS]
  refine wpG_nil ?_
  have HO3 := Lib.hid (ho3.mono (B' := w.heap.size) hs2.2.size)
  have HB3 := Lib.hid hs3.2
  clear ho3 hs3 hs2 hsrc2 hc2 hc3
  go_wp2_with fail
  go_ret
  exact ⟨_, rfl, HO3.out, HB3.out⟩
end Go.Proofs.YtmgagalhpkieoaaGreatDoor
/- slices.Grow of nil; slices.Concat of two slices of bytes. -/
namespace Go.Proofs.YtmgagalhpkieoaaGreatDoor
open Go.RowKit

theorem ownB_src {w : World} {B : Nat} {v : Value} {l m : Bs} {sp : Option Addr} {cap : Nat} (h : OwnB w B v l) (hB : B ≤ w.heap.size) (hl : l.length + m.length ≤ 1000000) (hS : SrcA w sp m) (hz : sp = none → cap = 0) (ty : TypeId) :
    ∃ v' w', (Builtin.append_ #[59, 59] ty #[v, .slice sp m.length cap]).run Tryz.prog w = .ok v' w' ∧ OwnB w' B v' (l ++ m) ∧ Below B w w' := by
  obtain ⟨i0, hi, hz0, hz1, hz2⟩ := info_parts infoB
  cases sp with
  | none =>
    have hm : m = [] := by
      rcases Nat.eq_zero_or_pos m.length with h0 | h0
      · exact List.eq_nil_of_length_eq_zero h0
      · obtain ⟨_, _, he, _⟩ := hS h0; cases he
    subst hm
    obtain rfl := hz rfl
    exact ⟨v, w, run_append_owned_none (P := Tryz.prog) (w := w) B 59 ty 5 i0 1 Tryz.underlying59 hi v l.length (l.map V8) h, by rw [List.append_nil]; exact h, Below.refl _ _⟩
  | some ad =>
    obtain ⟨v', w', hr, h2, h3, _, h5⟩ := run_append_own_at (P := Tryz.prog) w B 59 ty 5 i0 (.int .u8 0) 1 1 Tryz.underlying59 hi hz0 hz1 hz2 rfl (by decide) v l.length (l.map V8) h ad m.length cap (m.map V8) (by simp) (fun j u hj => by
      have hj2 : 0 < m.length := by
        have := (List.getElem?_eq_some_iff.1 hj).1
        simp at this; omega
      obtain ⟨g, o, e, _, hc⟩ := hS hj2
      cases e
      exact src_cell hc j u hj) (one_v8 m) (by unfold maxLen; omega) (by omega) hB
    refine ⟨v', w', hr, ?_, (Below.refl _ _).grown h3 hB (fun k hk => (h.lt k hk).1)⟩
    unfold OwnB
    rw [List.map_append, List.length_append]
    exact h2
end Go.Proofs.YtmgagalhpkieoaaGreatDoor
/- Put: a pointer's bytes behind some. -/
namespace Go.Proofs.YtmgagalhpkieoaaGreatDoor
open Go.RowKit

theorem body_len {p : Pt} (hp : p.OK) {k : Nat} (hk : k ≤ 4) : (tagB p ++ p.hash ++ tailB (p.ats.take k)).length = 48 + 2 * k := by
  have := hp.len
  simp [tagB_length, hp.hash, tailB_length]
  omega
end Go.Proofs.YtmgagalhpkieoaaGreatDoor
/- The rotation of a 32-bit number, as the program and as the reference reckon it. -/
namespace Go.Proofs.YtmgagalhpkieoaaGreatDoor
open Go.RowKit

def N32 (x : BitVec 32) : Int := (x.toNat : Int)
abbrev V32 (x : BitVec 32) : Value := .int .u32 (N32 x)
def rot (x : BitVec 32) (n : Nat) : BitVec 32 := x >>> n ||| x <<< (32 - n)

theorem and31 (n : Nat) (h0 : 0 < n) (h1 : n < 32) : bits .and .u64 (IntKind.u64.wrap (-(n:Int))) 31 = ((32 - n : Nat) : Int) := by
  have : ∀ m : Fin 32, 0 < m.val → bits .and .u64 (IntKind.u64.wrap (-(m.val:Int))) 31 = ((32 - m.val : Nat) : Int) := by decide +kernel
  exact this ⟨n, h1⟩ h0
theorem n32_nonneg (x : BitVec 32) : 0 ≤ N32 x := by unfold N32; omega
theorem n32_lt (x : BitVec 32) : N32 x < 4294967296 := by unfold N32; have := x.isLt; omega
theorem shl32 (x : BitVec 32) (n : Nat) : IntKind.u32.wrap (N32 x * 2 ^ n) = N32 (x <<< n) := by
  unfold N32
  rw [IntKind.wrap_u32', BitVec.toNat_shiftLeft, Nat.shiftLeft_eq]
  simp
theorem shr32 (x : BitVec 32) (n : Nat) : N32 x / 2 ^ n = N32 (x >>> n) := by
  unfold N32
  rw [BitVec.toNat_ushiftRight, Nat.shiftRight_eq_div_pow]
  simp
theorem or32 (x y : BitVec 32) : bits .or .u32 (N32 x) (N32 y) = N32 (x ||| y) := by
  unfold N32; rw [u32_or_nat _ _ x.isLt y.isLt, BitVec.toNat_or]
theorem xor32 (x y : BitVec 32) : bits .xor .u32 (N32 x) (N32 y) = N32 (x ^^^ y) := by
  unfold N32; rw [u32_xor_nat _ _ x.isLt y.isLt, BitVec.toNat_xor]
theorem and32 (x y : BitVec 32) : bits .and .u32 (N32 x) (N32 y) = N32 (x &&& y) := by
  unfold N32; rw [u32_and_nat _ _ x.isLt y.isLt, BitVec.toNat_and]
theorem not32 (x : BitVec 32) : bits .xor .u32 4294967295 (N32 x) = N32 (~~~ x) := by
  have h := xor32 (BitVec.allOnes 32) x
  rw [show N32 (BitVec.allOnes 32) = 4294967295 from rfl] at h
  rw [h, BitVec.allOnes_xor]
theorem add32 (x y : BitVec 32) : IntKind.u32.wrap (N32 x + N32 y) = N32 (x + y) := by
  unfold N32
  rw [IntKind.wrap_u32', BitVec.toNat_add]
  simp

theorem rotl_any (x : BitVec 32) (n : Nat) (h0 : 0 < n) (h1 : n < 32) (w : World) :
    Calls Tryz.prog 132 #[V32 x, .int .i64 (-(n : Int))] w fun e w' => e = .returned (V32 (rot x n)) ∧ w = w' := by
  have h31 := and31 n h0 h1
  have hm1 : min (32 - n) 32 = 32 - n := by omega
  have hm2 : min n 32 = n := by omega
  have hs : IntKind.u64.wrap (32 - ((32 - n : Nat) : Int)) = (n : Int) := by simp only [IntKind.wrap_u64]; omega
  have hl := shl32 x (32 - n)
  have hr := shr32 x n
  have ho := or32 (x <<< (32 - n)) (x >>> n)
  go_enter Tryz.func132, Tryz.ntmps132
  go_wp2
  go_ret
  exact ⟨by unfold rot; rw [BitVec.or_comm]; rfl, rfl⟩

theorem turned_any (x : BitVec 32) (n : Nat) (h0 : 0 < n) (h1 : n < 32) (w : World) :
    Calls Tryz.prog 126 #[V32 x, .int .i64 (n : Int)] w fun e w' => e = .returned (V32 (rot x n)) ∧ w = w' := by
  go_enter Tryz.func126, Tryz.ntmps126
  go_wp2_with (go_at_call 132; refine (rotl_any _ _ h0 h1 _).mono ?_; rintro e w' ⟨rfl, rfl⟩)
  go_ret
  exact ⟨rfl, rfl⟩

theorem half32 (y : BitVec 32) : N32 y / (2 : Int) = N32 (y >>> 1) := by have := shr32 y 1; simpa using this
theorem half32' (y : BitVec 32) : (N32 y).tdiv (2 : Int) % (4294967296 : Int) = N32 (y >>> 1) := by
  have h0 := n32_nonneg y
  have h1 := n32_lt y
  rw [← half32, Int.tdiv_eq_ediv_of_nonneg h0]
  omega
theorem rot_nat (x : BitVec 32) (n : Nat) (h : n < 32) : (rot x n).toNat = (x.toNat % 2 ^ n) * 2 ^ (32 - n) + x.toNat / 2 ^ n := by
  unfold rot
  have hx := x.isLt
  have hp : (2 : Nat) ^ 32 = 2 ^ n * 2 ^ (32 - n) := by rw [← Nat.pow_add]; congr 1; omega
  rw [BitVec.toNat_or, BitVec.toNat_shiftLeft, BitVec.toNat_ushiftRight, Nat.shiftLeft_eq, Nat.shiftRight_eq_div_pow, Nat.or_comm, hp, Nat.mul_mod_mul_right]
  refine nat_join (32 - n) _ _ (Nat.mul_mod_left _ _) ?_
  rw [Nat.div_lt_iff_lt_mul (Nat.two_pow_pos _), Nat.mul_comm, ← hp]; exact hx
theorem rot_zero (x : BitVec 32) : rot x 0 = x := by
  unfold rot
  apply BitVec.eq_of_getLsbD_eq
  intro i hi
  simp
theorem rot_succ_nat (x : BitVec 32) (k : Nat) (hk : k < 25) : (rot x (k + 1)).toNat = (rot x k).toNat % 2 * 2147483648 + (rot x k).toNat / 2 := by
  rw [rot_nat _ _ (by omega), rot_nat _ _ (by omega)]
  have hx := x.isLt
  generalize x.toNat = m at *
  have : k = 0 ∨ k = 1 ∨ k = 2 ∨ k = 3 ∨ k = 4 ∨ k = 5 ∨ k = 6 ∨ k = 7 ∨ k = 8 ∨ k = 9 ∨ k = 10 ∨ k = 11 ∨ k = 12 ∨ k = 13 ∨ k = 14 ∨ k = 15 ∨ k = 16 ∨ k = 17 ∨ k = 18 ∨ k = 19 ∨ k = 20 ∨ k = 21 ∨ k = 22 ∨ k = 23 ∨ k = 24 := by omega
  rcases this with rfl | rfl | rfl | rfl | rfl | rfl | rfl | rfl | rfl | rfl | rfl | rfl | rfl | rfl | rfl | rfl | rfl | rfl | rfl | rfl | rfl | rfl | rfl | rfl | rfl <;> omega
theorem rot_even (x : BitVec 32) (k : Nat) (hk : k < 25) (h : ¬ N32 (rot x k) % 2 = 1) : N32 (rot x k >>> 1) = N32 (rot x (k + 1)) := by
  rw [← half32]
  have := rot_succ_nat x k hk
  unfold N32 at *
  omega
theorem rot_odd (x : BitVec 32) (k : Nat) (hk : k < 25) (h : N32 (rot x k) % 2 = 1) : (N32 (rot x k >>> 1) + (2147483648 : Int)) % (4294967296 : Int) = N32 (rot x (k + 1)) := by
  rw [← half32]
  have := rot_succ_nat x k hk
  have h1 := (rot x k).isLt
  unfold N32 at *
  omega

set_option maxHeartbeats 400000 in
theorem refTurned_any (x : BitVec 32) (n : Nat) (h1 : n < 26) (w : World) :
    Calls Tryz.prog 122 #[V32 x, .int .i64 (n : Int)] w fun e w' => e = .returned (V32 (rot x n)) ∧ w = w' := by
  go_enter Tryz.func122, Tryz.ntmps122
  go_wp2
  go_loop [0, 5] (fun v i => ∃ k : Nat, k ≤ n ∧ i = .int .i64 k ∧ v = V32 (rot x k)) (fun _ i => n - (intOf i).toNat)
  case atStart => exact ⟨0, Nat.zero_le _, rfl, by rw [rot_zero]⟩
  case round =>
    obtain ⟨k, hk, rfl, rfl⟩ := hrel
    have hy0 := n32_nonneg (rot x k)
    have hh := half32' (rot x k)
    by_cases hlt : k < n
    · by_cases ho : N32 (rot x k) % 2 = 1
      · have hw := rot_odd x k (by omega) ho
        have HW := Lib.hid hw; clear hw
        go_wp2
        go_round
        case rel => exact ⟨k + 1, by omega, by go_num, by first | rw [HW.out] | rw [hh, HW.out]⟩
        case measure => simp [intOf]; omega
      · have hw := rot_even x k (by omega) ho
        have HW := Lib.hid hw; clear hw
        have ho' : (N32 (rot x k) % 2 == 1) = false := by simpa using ho
        clear ho
        go_wp2
        go_round
        case rel => exact ⟨k + 1, by omega, by go_num, by first | rw [HW.out] | rw [hh, HW.out]⟩
        case measure => simp [intOf]; omega
    · obtain rfl : k = n := by omega
      go_wp2
      go_ret
      exact ⟨rfl, rfl⟩

def sh (x : BitVec 32) (k : Nat) : BitVec 32 := x >>> k
theorem sh_succ (x : BitVec 32) (k : Nat) : (N32 (sh x k)).tdiv (2 : Int) % (4294967296 : Int) = N32 (sh x (k + 1)) := by
  rw [half32']; unfold sh; rw [BitVec.shiftRight_add]
theorem refMoved_any (x : BitVec 32) (n : Nat) (h1 : n < 32) (w : World) :
    Calls Tryz.prog 131 #[V32 x, .int .i64 (n : Int)] w fun e w' => e = .returned (V32 (sh x n)) ∧ w = w' := by
  go_enter Tryz.func131, Tryz.ntmps131
  go_wp2
  go_loop [0, 5] (fun v i => ∃ k : Nat, k ≤ n ∧ i = .int .i64 k ∧ v = V32 (sh x k)) (fun _ i => n - (intOf i).toNat)
  case atStart => exact ⟨0, Nat.zero_le _, rfl, rfl⟩
  case round =>
    obtain ⟨k, hk, rfl, rfl⟩ := hrel
    have hy0 := n32_nonneg (sh x k)
    have hh := sh_succ x k
    by_cases hlt : k < n
    · go_wp2
      go_round
      case rel => exact ⟨k + 1, by omega, by go_num, by first | rfl | rw [hh]⟩
      case measure => simp [intOf]; omega
    · obtain rfl : k = n := by omega
      go_wp2
      go_ret
      exact ⟨rfl, rfl⟩

end Go.Proofs.YtmgagalhpkieoaaGreatDoor
/- The 64 numbers of a piece, as the program reckons them. -/
namespace Go.Proofs.YtmgagalhpkieoaaGreatDoor
open Go.RowKit

def up (x : BitVec 8) : BitVec 32 := BitVec.ofNat 32 x.toNat
theorem cv32 (x : BitVec 8) : IntKind.u32.wrap (N8 x) = N32 (up x) := by
  unfold N8 N32 up
  rw [IntKind.wrap_u32', BitVec.toNat_ofNat]
  simp
theorem sl24 (x : BitVec 32) : (N32 x * (16777216 : Int)) % (4294967296 : Int) = N32 (x <<< 24) := by rw [← shl32, IntKind.wrap_u32']; rfl
theorem sl16 (x : BitVec 32) : (N32 x * (65536 : Int)) % (4294967296 : Int) = N32 (x <<< 16) := by rw [← shl32, IntKind.wrap_u32']; rfl
theorem sl8 (x : BitVec 32) : (N32 x * (256 : Int)) % (4294967296 : Int) = N32 (x <<< 8) := by rw [← shl32, IntKind.wrap_u32']; rfl
def be (b0 b1 b2 b3 : BitVec 8) : BitVec 32 := up b0 <<< 24 ||| up b1 <<< 16 ||| up b2 <<< 8 ||| up b3
def word (pb : List (BitVec 8)) (i : Nat) : BitVec 32 := be (pb.getD (4 * i) 0) (pb.getD (4 * i + 1) 0) (pb.getD (4 * i + 2) 0) (pb.getD (4 * i + 3) 0)
def Wp (pb : List (BitVec 8)) (k : Nat) : List (BitVec 32) := (List.range k).map (word pb)
def s0 (x : BitVec 32) : BitVec 32 := rot x 7 ^^^ rot x 18 ^^^ sh x 3
def s1 (x : BitVec 32) : BitVec 32 := rot x 17 ^^^ rot x 19 ^^^ sh x 10
def nextW (l : List (BitVec 32)) (i : Nat) : BitVec 32 := l.getD (i - 16) 0 + s0 (l.getD (i - 15) 0) + l.getD (i - 7) 0 + s1 (l.getD (i - 2) 0)
def Wx (pb : List (BitVec 8)) : Nat → List (BitVec 32)
  | 0 => Wp pb 16
  | k + 1 => Wx pb k ++ [nextW (Wx pb k) (16 + k)]
theorem Wp_length (pb : List (BitVec 8)) (k : Nat) : (Wp pb k).length = k := by simp [Wp]
theorem Wp_succ (pb : List (BitVec 8)) (k : Nat) : Wp pb (k + 1) = Wp pb k ++ [word pb k] := by simp [Wp, List.range_succ]
theorem Wx_length (pb : List (BitVec 8)) (k : Nat) : (Wx pb k).length = 16 + k := by
  induction k with
  | zero => simp [Wx, Wp]
  | succ k ih => simp [Wx, ih]; omega
def Z32 : Value := .int .u32 0
def sched (pb : List (BitVec 8)) : List (BitVec 32) := Wx pb 48

def Rel1 (pb : List (BitVec 8)) (B : Nat) (w : World) (A : List (BitVec 32)) (n : Nat) (wr : World) : Prop :=
  Blk wr (B + 1 + 1) (A.map V32 ++ List.replicate n Z32) 208 ∧ Blk wr (B + 1) (List.replicate 64 Z32) 208 ∧ Blk wr B (pb.map V8) 195 ∧ Below B w wr

theorem rel1_step {pb : List (BitVec 8)} {B : Nat} {w wr : World} {A : List (BitVec 32)} {n m : Nat} (h : Rel1 pb B w A n wr) {x : BitVec 32} (hn : n = m + 1) {k : Nat} (hk : k = A.length) :
    Rel1 pb B w (A ++ [x]) m (wr.setCell ⟨B + 1 + 1, k, none⟩ (V32 x)).drew := by
  obtain ⟨h1, h2, h3, h4⟩ := h
  refine ⟨?_, (h2.other (by simp) _).drew, (h3.other (by simp; omega) _).drew, (h4.setCell (by simp; omega) _).drew⟩
  have := (h1.set k (V32 x)).drew
  rw [set_next' (A.map V32) n m Z32 (V32 x) k (by simpa using hk) hn] at this
  simpa using this

theorem word_be (pb : List (BitVec 8)) (k : Nat) (b0 b1 b2 b3 : BitVec 8) (h0 : pb.getD (4 * k) 0 = b0) (h1 : pb.getD (4 * k + 1) 0 = b1) (h2 : pb.getD (4 * k + 2) 0 = b2) (h3 : pb.getD (4 * k + 3) 0 = b3) :
    Value.int .u32 (bits .or .u32 (bits .or .u32 (bits .or .u32 ((N32 (up b0) * (16777216 : Int)) % (4294967296 : Int)) ((N32 (up b1) * (65536 : Int)) % (4294967296 : Int))) ((N32 (up b2) * (256 : Int)) % (4294967296 : Int))) (N32 (up b3))) = V32 (word pb k) := by
  rw [sl24, sl16, sl8, or32, or32, or32]
  subst h0 h1 h2 h3
  rfl

theorem turned_at (x : BitVec 32) (m : Int) (h0 : 0 < m) (h1 : m < 32) (w : World) :
    Calls Tryz.prog 126 #[V32 x, .int .i64 m] w fun e w' => e = .returned (V32 (rot x m.toNat)) ∧ w = w' := by
  have h := turned_any x m.toNat (by omega) (by omega) w
  rw [show ((m.toNat : Nat) : Int) = m by omega] at h
  exact h
theorem sr3 (x : BitVec 32) : N32 x / (8 : Int) = N32 (sh x 3) := shr32 x 3
theorem sr10 (x : BitVec 32) : N32 x / (1024 : Int) = N32 (sh x 10) := shr32 x 10

theorem s0_eq (a : BitVec 32) : bits .xor .u32 (bits .xor .u32 (N32 (rot a 7)) (N32 (rot a 18))) (N32 a / (8 : Int)) = N32 (s0 a) := by
  rw [sr3, xor32, xor32]; rfl
theorem s1_eq (a : BitVec 32) : bits .xor .u32 (bits .xor .u32 (N32 (rot a 17)) (N32 (rot a 19))) (N32 a / (1024 : Int)) = N32 (s1 a) := by
  rw [sr10, xor32, xor32]; rfl
theorem rel1_drewN {pb : List (BitVec 8)} {B : Nat} {w wr : World} {A : List (BitVec 32)} {n : Nat} (h : Rel1 pb B w A n wr) (m : Nat) : Rel1 pb B w A n (wr.drewN m) := by
  obtain ⟨h1, h2, h3, h4⟩ := h
  exact ⟨h1.drewN m, h2.drewN m, h3.drewN m, below_drewN h4 m⟩

theorem info52 : (Tryz.prog.info? 208).map (·.size) = some 64 := by kernel_rfl
theorem sched_length (pb : List (BitVec 8)) : (sched pb).length = 64 := Wx_length pb 48
theorem size52 (pb : List (BitVec 8)) : (Tryz.prog.info? 208).map (·.size) = some ((sched pb).map V32).toArray.size := by
  rw [info52]; simp [sched_length]

set_option maxRecDepth 100000 in
set_option maxHeartbeats 1000000 in
theorem numbersOf_any (pb : List (BitVec 8)) (hps : pb.length = 64) (w : World) :
    Calls Tryz.prog 125 #[.agg (pb.map V8).toArray] w fun e w' => e = .returned (.agg ((sched pb).map V32).toArray) ∧ Below w.heap.size w w' := by
  go_enter Tryz.func125, Tryz.ntmps125
  go_wp2
  go_loopw [8] (fun i wr => ∃ k : Nat, k ≤ 16 ∧ i = .int .i64 k ∧ Rel1 pb w.heap.size w (Wp pb k) (64 - k) wr) (fun i _ => 16 - (intOf i).toNat)
  case atStart =>
    refine ⟨0, Nat.zero_le _, rfl, ?_, ?_, ?_, ?_⟩
    · exact Blk.new' _ _ _ _ _ (by simp) rfl
    · exact (Blk.new' _ _ _ _ _ (by simp) rfl).alloc _
    · exact ((Blk.new _ _ _).alloc _).alloc _
    · exact (((Below.refl _ _).alloc (Nat.le_refl _) _).alloc (by simp) _).alloc (by simp; omega) _
  case round =>
    obtain ⟨k, hk, rfl, hrel⟩ := hrel
    by_cases hlt : k < 16
    · have hR := Lib.hid hrel
      obtain ⟨hcs, hz, hp, hbel⟩ := hrel
      have hsize : w.heap.size + 1 + 1 < wr.heap.size := hcs.lt
      have c0 := hp.cell (get_map V8 pb (4 * k) (by omega) 0)
      have c1 := hp.cell (get_map V8 pb (4 * k + 1) (by omega) 0)
      have c2 := hp.cell (get_map V8 pb (4 * k + 2) (by omega) 0)
      have c3 := hp.cell (get_map V8 pb (4 * k + 3) (by omega) 0)
      obtain ⟨v, cw⟩ := hcs.has k (by simp [Wp_length]; omega)
      have fw := hcs.free k
      obtain ⟨b0, hb0⟩ : ∃ b, pb.getD (4 * k) 0 = b := ⟨_, rfl⟩
      obtain ⟨b1, hb1⟩ : ∃ b, pb.getD (4 * k + 1) 0 = b := ⟨_, rfl⟩
      obtain ⟨b2, hb2⟩ : ∃ b, pb.getD (4 * k + 2) 0 = b := ⟨_, rfl⟩
      obtain ⟨b3, hb3⟩ : ∃ b, pb.getD (4 * k + 3) 0 = b := ⟨_, rfl⟩
      rw [hb0] at c0; rw [hb1] at c1; rw [hb2] at c2; rw [hb3] at c3
      have HB := Lib.hid (word_be pb k b0 b1 b2 b3 hb0 hb1 hb2 hb3)
      clear hb0 hb1 hb2 hb3 hcs hz hp hbel
      have cv := cv32
      have q : (k : Int) < 64 := by omega
      have e0 := IntWalk.i64_in (4 * (k : Int)) (by omega)
      have e1 := IntWalk.i64_in (4 * (k : Int) + 1) (by omega)
      have e2 := IntWalk.i64_in (4 * (k : Int) + 2) (by omega)
      have e3 := IntWalk.i64_in (4 * (k : Int) + 3) (by omega)
      have p0 : 0 ≤ 4 * (k : Int) := by omega
      have p1 : 0 ≤ 4 * (k : Int) + 1 := by omega
      have p2 : 0 ≤ 4 * (k : Int) + 2 := by omega
      have p3 : 0 ≤ 4 * (k : Int) + 3 := by omega
      have q0 : 4 * (k : Int) < 64 := by omega
      have q1 : 4 * (k : Int) + 1 < 64 := by omega
      have q2 : 4 * (k : Int) + 2 < 64 := by omega
      have q3 : 4 * (k : Int) + 3 < 64 := by omega
      have r0 : (4 * (k : Int)).toNat = 4 * k := by omega
      have r1 : (4 * (k : Int) + 1).toNat = 4 * k + 1 := by omega
      have r2 : (4 * (k : Int) + 2).toNat = 4 * k + 2 := by omega
      have r3 : (4 * (k : Int) + 3).toNat = 4 * k + 3 := by omega
      go_wp2
      go_still_tail 31, (by kernel_rfl)
      clear cv e0 e1 e2 e3 p0 p1 p2 p3 q0 q1 q2 q3 r0 r1 r2 r3 c0 c1 c2 c3
      go_wp2
      go_roundw
      case rel =>
        refine ⟨k + 1, by omega, by go_num, ?_⟩
        rw [HB.out, Wp_succ]
        exact rel1_step hR.out (by omega) (by rw [Wp_length])
      case measure => simp [intOf]; omega
    · obtain rfl : k = 16 := by omega
      clear hlt hk
      have hR := Lib.hid hrel
      clear hrel
      go_wp2
      rw [show ((16 : Nat) : Int) = (16 : Int) from rfl]
      go_loopw [5] (fun i wr => ∃ k : Nat, 16 ≤ k ∧ k ≤ 64 ∧ i = .int .i64 k ∧ Rel1 pb w.heap.size w (Wx pb (k - 16)) (64 - k) wr) (fun i _ => 64 - (intOf i).toNat)
      case atStart => exact ⟨16, by omega, by omega, rfl, hR.out⟩
      case round =>
        clear hR
        obtain ⟨k, hk16, hk, rfl, hrel⟩ := hrel
        by_cases hlt : k < 64
        · have hR := Lib.hid hrel
          obtain ⟨hcs, hz, hp, hbel⟩ := hrel
          have hsize : w.heap.size + 1 + 1 < wr.heap.size := hcs.lt
          have hl := Wx_length pb (k - 16)
          have c15 := hcs.cell (get_map_left V32 (Wx pb (k - 16)) _ (k - 15) (by omega) 0)
          have c2 := hcs.cell (get_map_left V32 (Wx pb (k - 16)) _ (k - 2) (by omega) 0)
          have c16 := hcs.cell (get_map_left V32 (Wx pb (k - 16)) _ (k - 16) (by omega) 0)
          have c7 := hcs.cell (get_map_left V32 (Wx pb (k - 16)) _ (k - 7) (by omega) 0)
          obtain ⟨v, cw⟩ := hcs.has k (by simp [hl]; omega)
          have fw := hcs.free k
          obtain ⟨a15, h15⟩ : ∃ b, (Wx pb (k - 16)).getD (k - 15) 0 = b := ⟨_, rfl⟩
          obtain ⟨a2, h2⟩ : ∃ b, (Wx pb (k - 16)).getD (k - 2) 0 = b := ⟨_, rfl⟩
          obtain ⟨a16, h16⟩ : ∃ b, (Wx pb (k - 16)).getD (k - 16) 0 = b := ⟨_, rfl⟩
          obtain ⟨a7, h7⟩ : ∃ b, (Wx pb (k - 16)).getD (k - 7) 0 = b := ⟨_, rfl⟩
          rw [h15] at c15; rw [h2] at c2; rw [h16] at c16; rw [h7] at c7
          have HN : Hid (nextW (Wx pb (k - 16)) k = a16 + s0 a15 + a7 + s1 a2) := by
            show nextW (Wx pb (k - 16)) k = a16 + s0 a15 + a7 + s1 a2
            rw [← h15, ← h2, ← h16, ← h7]; rfl
          have HL := Lib.hid hl
          clear h15 h2 h16 h7 hcs hz hp hbel hl
          have q : (k : Int) < 64 := by omega
          have e15 := IntWalk.i64_in ((k : Int) - 15) (by omega)
          have e2 := IntWalk.i64_in ((k : Int) - 2) (by omega)
          have p15 : 0 ≤ (k : Int) - 15 := by omega
          have p2 : 0 ≤ (k : Int) - 2 := by omega
          have q15 : (k : Int) - 15 < 64 := by omega
          have q2 : (k : Int) - 2 < 64 := by omega
          have r15 : ((k : Int) - 15).toNat = k - 15 := by omega
          have r2 : ((k : Int) - 2).toNat = k - 2 := by omega
          have e16 := IntWalk.i64_in ((k : Int) - 16) (by omega)
          have e7 := IntWalk.i64_in ((k : Int) - 7) (by omega)
          have p16 : 0 ≤ (k : Int) - 16 := by omega
          have p7 : 0 ≤ (k : Int) - 7 := by omega
          have q16 : (k : Int) - 16 < 64 := by omega
          have q7 : (k : Int) - 7 < 64 := by omega
          have t16 : (16 : Int) ≤ k := by omega
          have t7 : (7 : Int) ≤ k := by omega
          have v16 : (k : Int) < 80 := by omega
          have v7 : (k : Int) < 71 := by omega
          have r16 : ((k : Int) - 16).toNat = k - 16 := by omega
          have r7 : ((k : Int) - 7).toNat = k - 7 := by omega
          have x0 := s0_eq a15
          have x1 := s1_eq a2
          have y0 := add32 a16 (s0 a15)
          have y1 := add32 (a16 + s0 a15) a7
          have y2 := add32 (a16 + s0 a15 + a7) (s1 a2)
          go_wp2
          go_quiet (fail)
          go_wp2_with (go_at_call 126; refine (turned_at _ _ (by decide) (by decide) _).mono ?_; rintro e w' ⟨rfl, rfl⟩)
          have hR0 := rel1_drewN hR.out nq
          have c16' : (wr.drewN nq).cell? ⟨w.heap.size + 1 + 1, k - 16, none⟩ = some (V32 a16) := c16
          have c7' : (wr.drewN nq).cell? ⟨w.heap.size + 1 + 1, k - 7, none⟩ = some (V32 a7) := c7
          have cw' : (wr.drewN nq).cell? ⟨w.heap.size + 1 + 1, k, none⟩ = some v := cw
          have fw' : (wr.drewN nq).frozen? ⟨w.heap.size + 1 + 1, k, none⟩ = false := fw
          have hR2 := Lib.hid hR0
          clear hR0
          clear hR c16 c7 c15 c2 cw fw hsize e15 e2 p15 p2 q15 q2 r15 r2
          generalize wr.drewN nq = wq at hR2 c16' c7' cw' fw' ⊢
          go_still_tail 15, (by kernel_rfl)
          clear e16 e7 p16 p7 q16 q7 t16 t7 v16 v7 r16 r7 c16' c7' x0 x1 y0 y1 y2
          go_wp2
          go_roundw
          case rel =>
            refine ⟨k + 1, by omega, by omega, by go_num, ?_⟩
            rw [← HN.out, show k + 1 - 16 = k - 16 + 1 by omega, Wx, show 16 + (k - 16) = k by omega]
            exact rel1_step hR2.out (by omega) (by rw [HL.out]; omega)
          case measure => simp [intOf]; omega
        · obtain rfl : k = 64 := by omega
          clear hlt hk hk16
          obtain ⟨hcs, hz, hp, hbel⟩ := hrel
          have hcs' : Blk wr (w.heap.size + 1 + 1) ((sched pb).map V32) 208 := by
            have e : (Wx pb (64 - 16)).map V32 ++ List.replicate (64 - 64) Z32 = (sched pb).map V32 := by simp [sched]
            rw [e] at hcs; exact hcs
          have HB := Lib.hid hbel; have HZ := Lib.hid hz; have HC := Lib.hid hcs'
          clear hcs hz hp hbel hcs'
          go_wp2_with (first
            | (refine wpList_load_row rfl 208 (.tmp 3) rfl (w.heap.size + 1 + 1) rfl 208 _ _ _ HC.out Tryz.underlying208 rfl (size52 pb) ?_)
            | (refine wpList_store_row rfl 208 (.tmp 2) (.tmp 86) rfl (w.heap.size + 1) _ rfl rfl 208 _ HZ.out (size52 pb) (by simp [sched_length]) (one_ints V32 (fun _ => rfl) _) ?_))
          exact bodyPost_ret (results_cell_row Tryz.results125 _ _ (w.heap.size + 1) 208 _ _ _ rfl (HZ.out.row _) Tryz.underlying208 rfl (size52 pb)) rfl ⟨rfl, below_row HB.out (by omega) _⟩

end Go.Proofs.YtmgagalhpkieoaaGreatDoor
