/- The document's bytes of a pointer. -/
import Derived.Test.YtjgjohdeeeoeoaaGreatDoorM05
import Derived.Test.YtjgjohdeeeoeoaaGreatDoorM02
import Derived.WalkKit
import Derived.Lib.Hide
import Derived.Deep.QuietTactic
import Derived.BigQuiet
import Derived.StillTailTactics
import Derived.Deep.RegionWith
import Derived.Deep.RegionHeld3
import Derived.Deep.MidRow
import Derived.Stop.BytesEq
import Derived.Deep.Quiet
import Derived.Test.YtjgjohdeeeoeoaaGreatDoorM04
import Derived.Deep.RegionLaw
import Derived.WalkSpells
set_option linter.all false
namespace Go.Proofs.YtjgjohdeeeoeoaaGreatDoor
open Go.RowKit
variable {l : Bs} {k : Nat} {p : Pt} {v : Value} {w wr : World}
theorem Q6 {x : BitVec 8} (h : l[k]? = some x) : l.take (k + 1) = l.take k ++ [x] := by
 obtain ⟨h2, h3⟩ := List.getElem?_eq_some_iff.1 h;rw [List.take_succ_eq_append_getElem h2, h3]
def QbRel (p : Pt) (w : World) (v : Value) (l : Bs) (wr : World) : Prop := OwnB wr (w.heap.size + 1) v l ∧ Below w.heap.size w wr ∧ Blk wr w.heap.size (a8 p) 28
theorem QbRel.next {w' : World} {v' : Value} {l' : Bs} (h : QbRel p w v l wr) (ho : OwnB w' (w.heap.size + 1) v' l') (hb : Below (w.heap.size + 1) wr w') : QbRel p w v' l' w' :=
 have h1 := h.2.2.lt
 ⟨ho, h.2.1.trans (hb.mono (by omega)), h.2.2.below hb (by omega)⟩
theorem QbRel.num {w4 : World} {u : Value} {n : Nat} (h : QbRel p w v l wr) (hl : l.length ≤ 100) (hk : k ≤ 8) (ho4 : OwnB w4 wr.heap.size u (leb n k)) (hb4 : Below wr.heap.size wr w4) :
  ∃ sp n' c v5 w5, (∃ sp4 cap4, u = .slice sp4 k cap4) ∧ v5 = .slice sp n' c ∧ (∀ ty, (Builtin.append_ #[29, 29] ty #[v, u]).run Tryz.prog w4 = .ok v5 w5) ∧ QbRel p w v5 (l ++ leb n k) w5 := by
 obtain ⟨sp4, cap4, e4, q1, q2, q3, q4, q5⟩ := OwnB.form ho4;rw [aw] at e4;subst e4;have h1 := h.2.2.lt;obtain ⟨v5, w5, a0, ho5, a1⟩ := lq (m := leb n k) (h.1.below hb4 (Nat.le_refl _)) (by have := hb4.size; omega) (by rw [aw]; omega) q3 q4 29;rw [aw] at a0;obtain ⟨sp, c, e, _⟩ := OwnB.form ho5;exact ⟨sp, _, c, v5, w5, ⟨_, _, rfl⟩, e, fun _ => a0, h.next ho5 ((hb4.mono (by omega)).trans a1)⟩
theorem Ul (hp : p.OK) (w : World) : QbRel p w (.slice (some ⟨w.heap.size + 1, 0, none⟩) 2 2) (leb p.kind 1 ++ leb p.level 1) ((w.alloc (.cells (a8 p).toArray 28)).alloc (.cells #[.int .u8 (p.kind : Int), .int .u8 (p.level : Int)] 5)) := by
 have h : Blk ((w.alloc (.cells (a8 p).toArray 28)).alloc (.cells #[.int .u8 (p.kind : Int), .int .u8 (p.level : Int)] 5)) (w.heap.size + 1) [V8 (lb p.kind 0), V8 (lb p.level 0)] 5 := Blk.new' _ _ _ _ _ (by simp) (by rw [vp hp.kind, vp hp.level]);have ho := h.owns (base := w.heap.size + 1) (n := 2) (Nat.le_refl _) (Nat.le_refl _) (by unfold maxLen; simp);exact ⟨ho, ((Below.refl _ _).alloc (Nat.le_refl _) _).alloc (by simp) _, (Blk.new _ _ _).alloc _⟩
set_option maxRecDepth 100000 in
set_option maxHeartbeats 8000000 in
theorem Iq (p : Pt) (hp : p.OK) (w : World) : Calls Tryz.prog 9 #[.agg (a8 p).toArray] w fun e w' => ∃ v, e = .returned v ∧ OwnB w' w.heap.size v (g8 p) ∧ Below w.heap.size w w' := by
 have HP := zH hp;have af : Hid (Blk (w.alloc (.cells (a8 p).toArray 28)) w.heap.size (a8 p) 28) := zH (Blk.new _ _ _);have cK := af.out.cell (j := 0) rfl;have cL := af.out.cell (j := 1) rfl;have b1 := hp.obj; have b2 := hp.off; have b3 := hp.birth;have ap := zH b1; have aq := zH b2; have bb := zH b3;clear hp b1 b2 b3;go_enter Tryz.func9, Tryz.ntmps9
 go_upto_region 2 with fail
 refine (fun (k : ∀ W1, QbRel p w (.slice (some ⟨w.heap.size + 1, 0, none⟩) 2 2) (leb p.kind 1 ++ leb p.level 1) W1 → Code.wp _ _ _ _ W1) => k _ (Ul HP.out w)) ?_;intro W1 hR1;have ag := zH hR1;clear cK cL af hR1;have c1 : W1.cell? ⟨w.heap.size, 2, none⟩ = some (.int .u16 (p.obj : Int)) := ag.out.2.2.cell rfl;have e1 := u64_in p.obj (by have := ap.out; omega)
 go_wp2_with fail
 refine (vr p.obj 2 W1 (by omega) (by have := ap.out; omega)).mono ?_;rintro e w2 ⟨u2, rfl, b4, ax⟩;obtain ⟨bo, n2, k2, v3, w3, ⟨_, _, rfl⟩, rfl, aa, b7⟩ := ag.out.num (by simp [aw]) (by omega) b4 ax;have am := zH aa; have a2 := zH b7;clear b4 ax aa b7 ag c1 e1;have c2 : w3.cell? ⟨w.heap.size, 3, none⟩ = some (.int .u32 (p.off : Int)) := a2.out.2.2.cell rfl;have e2 := u64_in p.off (by have := aq.out; omega)
 go_wp2_with (first | (at_builtin; refine a9 rfl (ia rfl rfl rfl (am.out _)) ?_) | fail)
 refine (vr p.off 4 w3 (by omega) (by have := aq.out; omega)).mono ?_;rintro e w4 ⟨u4, rfl, a6, a4⟩;obtain ⟨bp, n4, k4, v5, w5, ⟨_, _, rfl⟩, rfl, ab, a7⟩ := a2.out.num (by simp [aw]) (by omega) a6 a4;have an := zH ab; have a3 := zH a7;clear a6 a4 ab a7 a2 am c2 e2;have c3 : w5.cell? ⟨w.heap.size, 4, none⟩ = some (.int .u64 (p.birth : Int)) := a3.out.2.2.cell rfl
 go_wp2_with (first | (at_builtin; refine a9 rfl (ia rfl rfl rfl (an.out _)) ?_) | fail)
 refine (vr p.birth 8 w5 (by omega) bb.out).mono ?_;rintro e w6 ⟨u6, rfl, b5, az⟩;obtain ⟨bm, n6, k6, v7, w7, ⟨_, _, rfl⟩, rfl, b9, b8⟩ := a3.out.num (by simp [aw]) (by omega) b5 az;have ao := zH b9;have au : Hid (QbRel p w (.slice bm n6 k6) (iy p ++ p.hash.take 0) w7) := zH (by simpa [iy] using b8);clear b5 az b9 b8 a3 an c3
 go_wp2_with (first | (at_builtin; refine a9 rfl (ia rfl rfl rfl (ao.out _)) ?_) | fail)
 go_loopw [3, 4] (fun v i wr => ∃ k : Nat, k ≤ 32 ∧ i = .int .i64 (k : Int) ∧ QbRel p w v (iy p ++ p.hash.take k) wr) (fun _ i _ => 32 - (intOf i).toNat)
 case atStart => exact ⟨0, by omega, rfl, au.out⟩
 case round =>
  clear au ao;obtain ⟨k, hk, rfl, hR⟩ := hrel;have HR := zH hR;obtain ⟨sp, ah, rfl, -⟩ := OwnB.form hR.1;have a0 := hR.2.2;have bi := a0.lt;have bn := IntWalk.i64_in ((k : Int) + 1) (by omega);clear hR;by_cases hlt : k < 32
  ·obtain ⟨x, hx⟩ : ∃ x, p.hash[k]? = some x := ⟨_, List.getElem?_eq_getElem (by have := HP.out.hash; omega)⟩
   have cx := Mi a0 hx;have hz : Below wr.heap.size wr (wr.alloc (.cells #[V8 x] 5)) := (Below.refl _ _).alloc (Nat.le_refl _) _;obtain ⟨v3, w3, aa, ak, ay⟩ := Fg (m := [x]) (HR.out.1.below hz (Nat.le_refl _)) (by have := hz.size; omega) (by simp [dd]; omega) (g := wr.heap.size) (off := 0) (c := 1) (d9 (Blk.new wr [V8 x] 5)) 29
   obtain ⟨bk, n3, ai, rfl⟩ : ∃ sp n c, v3 = .slice sp n c := by
    obtain ⟨sp, c, e, _⟩ := OwnB.form ak;exact ⟨sp, _, c, e⟩
   have a3 := zH aa;have HN := zH (show QbRel p w (.slice bk n3 ai) (iy p ++ p.hash.take (k + 1)) w3 from HR.out.next (by rw [Q6 hx, ← List.append_assoc]; exact ak) ((hz.mono (by omega)).trans ay));clear hx a0 aa ak ay hz HR
   go_wp2_with (first | (at_builtin; refine a9 rfl (ia rfl rfl rfl a3.out) ?_) | fail)
   go_roundw
   case rel => exact ⟨k + 1, by omega, by go_num, HN.out⟩
   case measure => simp [intOf]; omega
  ·have em : (k : Int) = 32 := by omega
   rw [em];obtain rfl : k = 32 := by omega
   clear em;have av : p.hash.take 32 = p.hash := List.take_of_length_le (by have := HP.out.hash; omega);have a2 : Hid (QbRel p w (.slice sp (iy p ++ p.hash.take 32).length ah) (iy p ++ p.hash ++ jl (p.ats.take 0)) wr) := zH (by have := HR.out; rw [av] at this ⊢; simpa [jl] using this);clear hlt hk a0 HR av
   go_wp2_with fail
   go_loopw [3, 5] (fun v i wr => ∃ k : Nat, k ≤ 4 ∧ i = .int .i64 (k : Int) ∧ QbRel p w v (iy p ++ p.hash ++ jl (p.ats.take k)) wr) (fun _ i _ => 4 - (intOf i).toNat)
   case atStart => exact ⟨0, by omega, rfl, a2.out⟩
   case round =>
    clear a2;obtain ⟨k, hk, rfl, hR⟩ := hrel;have HR := zH hR;obtain ⟨sp, ah, e, -⟩ := OwnB.form hR.1;have a1 := z9 HP.out hk;have ar := zH a1;rw [a1] at e;subst e;have a0 := hR.2.2;have bi := a0.lt;have bn := IntWalk.i64_in ((k : Int) + 1) (by omega);clear hR a1;by_cases hlt : k < 4
    ·obtain ⟨x, hx⟩ : ∃ x, p.ats[k]? = some x := ⟨_, List.getElem?_eq_getElem (by have := HP.out.len; omega)⟩
     have cx := im a0 HP.out.hash hx;have ba : x < 65536 := HP.out.ats x (List.mem_of_getElem? hx);have bj : IntKind.u64.wrap (x : Int) = (x : Int) := u64_in x (by omega);have HX := zH hx;have bg := zH ba;clear hx a0 ba
     go_wp2_with fail
     refine (vr x 2 wr (by omega) (by have := bg.out; omega)).mono ?_;rintro e w4 ⟨u, rfl, a6, a4⟩;obtain ⟨bl, n5, aj, v5, w5, ⟨_, _, rfl⟩, rfl, ab, a7⟩ := HR.out.num (by rw [ar.out]; omega) (by omega) a6 a4;have bf := zH ab;have HN := zH (show QbRel p w (.slice bl n5 aj) (iy p ++ p.hash ++ jl (p.ats.take (k + 1))) w5 by rw [pd HX.out, Ak, ← List.append_assoc]; exact a7);clear ab a7 a6 a4 HR
     go_wp2_with (first | (at_builtin; refine a9 rfl (ia rfl rfl rfl (bf.out _)) ?_) | fail)
     go_roundw
     case rel => exact ⟨k + 1, by omega, by go_num, HN.out⟩
     case measure => simp [intOf]; omega
    ·have em : (k : Int) = 4 := by omega
     rw [em];obtain rfl : k = 4 := by omega
     clear em;have e4 : p.ats.take 4 = p.ats := List.take_of_length_le (by have := HP.out.len; omega);have hb : iy p ++ p.hash ++ jl (p.ats.take 4) = my p := (by rw [e4]; rfl);have ad := HR.out;rw [hb] at ad;have a5 : (my p).length = 56 := oc HP.out;obtain ⟨bq, bh, e9, q1, q2, q3, q4, q5⟩ := OwnB.form ad.1;rw [a5] at e9;injection e9 with e91 e92 e93
     subst e91 e93;have hc := Jk (my p) sp ah 64 wr (by rw [a5]; omega) (by omega) q1 q4 q3;rw [a5] at hc
     have al : k8 (my p) 64 = g8 p := by
      unfold k8 g8;rw [a5];rfl
     rw [al] at hc;have HC := zH hc;have ae := zH ad.2.1;clear hlt hk a0 HR ar e4 hb a5 hc ad q1 q2 q3 q4 q5 e92;rw [show 48 + 2 * 4 = 56 from rfl]
     go_wp2_with (first | (go_at_call 7; refine HC.out.mono ?_; rintro e w9 ⟨v9, rfl, b6, b0⟩; have bd := zH (b6.mono (B' := w.heap.size) ae.out.size); have bc := zH (ae.out.trans (b0.mono ae.out.size)); clear b6 b0) | fail)
     go_ret;exact ⟨_, rfl, bd.out, bc.out⟩
def N32 (x : BitVec 32) : Int := (x.toNat : Int)
abbrev V32 (x : BitVec 32) : Value := .int .u32 (N32 x)
def rot (x : BitVec 32) (n : Nat) : BitVec 32 := x >>> n ||| x <<< (32 - n)
theorem lm (x : BitVec 32) : 0 ≤ N32 x := by unfold N32; omega
theorem Ts (x : BitVec 32) : N32 x < 4294967296 := by unfold N32; have := x.isLt; omega
theorem a00 (x : BitVec 32) (n : Nat) : N32 x / 2 ^ n = N32 (x >>> n) := by
 unfold N32;rw [BitVec.toNat_ushiftRight, Nat.shiftRight_eq_div_pow];simp
theorem a01 (x y : BitVec 32) : bits .xor .u32 (N32 x) (N32 y) = N32 (x ^^^ y) := by
 unfold N32; rw [u32_xor_nat _ _ x.isLt y.isLt, BitVec.toNat_xor]
theorem a1q (x y : BitVec 32) : bits .and .u32 (N32 x) (N32 y) = N32 (x &&& y) := by
 unfold N32; rw [u32_and_nat _ _ x.isLt y.isLt, BitVec.toNat_and]
theorem a25 (x : BitVec 32) : bits .xor .u32 4294967295 (N32 x) = N32 (~~~ x) := by
 have h := a01 (BitVec.allOnes 32) x;rw [show N32 (BitVec.allOnes 32) = 4294967295 from rfl] at h;rw [h, BitVec.allOnes_xor]
theorem Zs (x y : BitVec 32) : IntKind.u32.wrap (N32 x + N32 y) = N32 (x + y) := by
 unfold N32;rw [IntKind.wrap_u32', BitVec.toNat_add];simp
theorem Hu (y : BitVec 32) : N32 y / (2 : Int) = N32 (y >>> 1) := by have := a00 y 1; simpa using this
theorem Le (y : BitVec 32) : (N32 y).tdiv (2 : Int) % (4294967296 : Int) = N32 (y >>> 1) := by
 have h0 := lm y;have h1 := Ts y;rw [← Hu, Int.tdiv_eq_ediv_of_nonneg h0];omega
theorem Lu (x : BitVec 32) (n : Nat) (h : n < 32) : (rot x n).toNat = (x.toNat % 2 ^ n) * 2 ^ (32 - n) + x.toNat / 2 ^ n := by
 unfold rot;have hx := x.isLt;have hp : (2 : Nat) ^ 32 = 2 ^ n * 2 ^ (32 - n) := by rw [← Nat.pow_add]; congr 1; omega
 rw [BitVec.toNat_or, BitVec.toNat_shiftLeft, BitVec.toNat_ushiftRight, Nat.shiftLeft_eq, Nat.shiftRight_eq_div_pow, Nat.or_comm, hp, Nat.mul_mod_mul_right];refine nat_join (32 - n) _ _ (Nat.mul_mod_left _ _) ?_;rw [Nat.div_lt_iff_lt_mul (Nat.two_pow_pos _), Nat.mul_comm, ← hp]; exact hx
theorem Uo (x : BitVec 32) : rot x 0 = x := by
 unfold rot;apply BitVec.eq_of_getLsbD_eq;intro i hi;simp
theorem ux (x : BitVec 32) (k : Nat) (hk : k < 25) : (rot x (k + 1)).toNat = (rot x k).toNat % 2 * 2147483648 + (rot x k).toNat / 2 := by
 rw [Lu _ _ (by omega), Lu _ _ (by omega)];have hx := x.isLt;generalize x.toNat = m at *;have : k = 0 ∨ k = 1 ∨ k = 2 ∨ k = 3 ∨ k = 4 ∨ k = 5 ∨ k = 6 ∨ k = 7 ∨ k = 8 ∨ k = 9 ∨ k = 10 ∨ k = 11 ∨ k = 12 ∨ k = 13 ∨ k = 14 ∨ k = 15 ∨ k = 16 ∨ k = 17 ∨ k = 18 ∨ k = 19 ∨ k = 20 ∨ k = 21 ∨ k = 22 ∨ k = 23 ∨ k = 24 := by omega
 rcases this with rfl | rfl | rfl | rfl | rfl | rfl | rfl | rfl | rfl | rfl | rfl | rfl | rfl | rfl | rfl | rfl | rfl | rfl | rfl | rfl | rfl | rfl | rfl | rfl | rfl <;> omega
theorem Un (x : BitVec 32) (k : Nat) (hk : k < 25) (h : ¬ N32 (rot x k) % 2 = 1) : N32 (rot x k >>> 1) = N32 (rot x (k + 1)) := by
 rw [← Hu];have := ux x k hk;unfold N32 at *;omega
theorem Yy (x : BitVec 32) (k : Nat) (hk : k < 25) (h : N32 (rot x k) % 2 = 1) : (N32 (rot x k >>> 1) + (2147483648 : Int)) % (4294967296 : Int) = N32 (rot x (k + 1)) := by
 rw [← Hu];have := ux x k hk;have h1 := (rot x k).isLt;unfold N32 at *;omega
set_option maxHeartbeats 400000 in
theorem cv (x : BitVec 32) (n : Nat) (h1 : n < 26) (w : World) :
  Calls Tryz.prog 159 #[V32 x, .int .i64 (n : Int)] w fun e w' => e = .returned (V32 (rot x n)) ∧ w = w' := by
 go_enter Tryz.func159, Tryz.ntmps159
 go_wp2
 go_loop [0, 5] (fun v i => ∃ k : Nat, k ≤ n ∧ i = .int .i64 k ∧ v = V32 (rot x k)) (fun _ i => n - (intOf i).toNat)
 case atStart => exact ⟨0, Nat.zero_le _, rfl, by rw [Uo]⟩
 case round =>
  obtain ⟨k, hk, rfl, rfl⟩ := hrel;have a1 := lm (rot x k);have hh := Le (rot x k);by_cases hlt : k < n
  ·by_cases ho : N32 (rot x k) % 2 = 1
   ·have hw := Yy x k (by omega) ho
    have HW := zH hw; clear hw
    go_wp2
    go_round
    case rel => exact ⟨k + 1, by omega, by go_num, by first | rw [HW.out] | rw [hh, HW.out]⟩
    case measure => simp [intOf]; omega
   ·have hw := Un x k (by omega) ho
    have HW := zH hw; clear hw;have a0 : (N32 (rot x k) % 2 == 1) = false := (by simpa using ho);clear ho
    go_wp2
    go_round
    case rel => exact ⟨k + 1, by omega, by go_num, by first | rw [HW.out] | rw [hh, HW.out]⟩
    case measure => simp [intOf]; omega
  ·obtain rfl : k = n := by omega
   go_wp2
   go_ret;exact ⟨rfl, rfl⟩
def sh (x : BitVec 32) (k : Nat) : BitVec 32 := x >>> k
theorem Z3 (x : BitVec 32) (k : Nat) : (N32 (sh x k)).tdiv (2 : Int) % (4294967296 : Int) = N32 (sh x (k + 1)) := by
 rw [Le]; unfold sh; rw [BitVec.shiftRight_add]
theorem uu (x : BitVec 32) (n : Nat) (h1 : n < 32) (w : World) :
  Calls Tryz.prog 160 #[V32 x, .int .i64 (n : Int)] w fun e w' => e = .returned (V32 (sh x n)) ∧ w = w' := by
 go_enter Tryz.func160, Tryz.ntmps160
 go_wp2
 go_loop [0, 5] (fun v i => ∃ k : Nat, k ≤ n ∧ i = .int .i64 k ∧ v = V32 (sh x k)) (fun _ i => n - (intOf i).toNat)
 case atStart => exact ⟨0, Nat.zero_le _, rfl, rfl⟩
 case round =>
  obtain ⟨k, hk, rfl, rfl⟩ := hrel;have a0 := lm (sh x k);have hh := Z3 x k;by_cases hlt : k < n
  ·go_wp2
   go_round
   case rel => exact ⟨k + 1, by omega, by go_num, by first | rfl | rw [hh]⟩
   case measure => simp [intOf]; omega
  ·obtain rfl : k = n := by omega
   go_wp2
   go_ret;exact ⟨rfl, rfl⟩
def up (x : BitVec 8) : BitVec 32 := BitVec.ofNat 32 x.toNat
theorem a2j (x : BitVec 8) : IntKind.u32.wrap (N8 x) = N32 (up x) := by
 unfold N8 N32 up;rw [IntKind.wrap_u32', BitVec.toNat_ofNat];simp
def be (b0 b1 b2 b3 : BitVec 8) : BitVec 32 := up b0 <<< 24 ||| up b1 <<< 16 ||| up b2 <<< 8 ||| up b3
def Qh (pb : List (BitVec 8)) (i : Nat) : BitVec 32 := be (pb.getD (4 * i) 0) (pb.getD (4 * i + 1) 0) (pb.getD (4 * i + 2) 0) (pb.getD (4 * i + 3) 0)
def Wp (pb : List (BitVec 8)) (k : Nat) : List (BitVec 32) := (List.range k).map (Qh pb)
def s0 (x : BitVec 32) : BitVec 32 := rot x 7 ^^^ rot x 18 ^^^ sh x 3
def s1 (x : BitVec 32) : BitVec 32 := rot x 17 ^^^ rot x 19 ^^^ sh x 10
def Tt (l : List (BitVec 32)) (i : Nat) : BitVec 32 := l.getD (i - 16) 0 + s0 (l.getD (i - 15) 0) + l.getD (i - 7) 0 + s1 (l.getD (i - 2) 0)
def Wx (pb : List (BitVec 8)) : Nat → List (BitVec 32)
 | 0 => Wp pb 16
 | k + 1 => Wx pb k ++ [Tt (Wx pb k) (16 + k)]
theorem B7 (pb : List (BitVec 8)) (k : Nat) : (Wp pb k).length = k := by simp [Wp]
theorem We (pb : List (BitVec 8)) (k : Nat) : Wp pb (k + 1) = Wp pb k ++ [Qh pb k] := by simp [Wp, List.range_succ]
theorem B8 (pb : List (BitVec 8)) (k : Nat) : (Wx pb k).length = 16 + k := by
 induction k with
 | zero => simp [Wx, Wp]
 | succ k ih => simp [Wx, ih]; omega
def mf (pb : List (BitVec 8)) : List (BitVec 32) := Wx pb 48
theorem p0 (pb : List (BitVec 8)) : (mf pb).length = 64 := B8 pb 48
def KC : List (BitVec 32) := [1116352408#32, 1899447441#32, 3049323471#32, 3921009573#32, 961987163#32, 1508970993#32, 2453635748#32, 2870763221#32, 3624381080#32, 310598401#32, 607225278#32, 1426881987#32, 1925078388#32, 2162078206#32, 2614888103#32, 3248222580#32, 3835390401#32, 4022224774#32, 264347078#32, 604807628#32, 770255983#32, 1249150122#32, 1555081692#32, 1996064986#32, 2554220882#32, 2821834349#32, 2952996808#32, 3210313671#32, 3336571891#32, 3584528711#32, 113926993#32, 338241895#32, 666307205#32, 773529912#32, 1294757372#32, 1396182291#32, 1695183700#32, 1986661051#32, 2177026350#32, 2456956037#32, 2730485921#32, 2820302411#32, 3259730800#32, 3345764771#32, 3516065817#32, 3600352804#32, 4094571909#32, 275423344#32, 430227734#32, 506948616#32, 659060556#32, 883997877#32, 958139571#32, 1322822218#32, 1537002063#32, 1747873779#32, 1955562222#32, 2024104815#32, 2227730452#32, 2361852424#32, 2428436474#32, 2756734187#32, 3204031479#32, 3329325298#32]
structure St where
 a : BitVec 32
 b : BitVec 32
 c : BitVec 32
 d : BitVec 32
 e : BitVec 32
 f : BitVec 32
 g : BitVec 32
 h : BitVec 32
def St.list (s : St) : List (BitVec 32) := [s.a, s.b, s.c, s.d, s.e, s.f, s.g, s.h]
def S1 (x : BitVec 32) : BitVec 32 := rot x 6 ^^^ rot x 11 ^^^ rot x 25
def S0 (x : BitVec 32) : BitVec 32 := rot x 2 ^^^ rot x 13 ^^^ rot x 22
def ch (e f g : BitVec 32) : BitVec 32 := (e &&& f) ^^^ (~~~ e &&& g)
def maj (a b c : BitVec 32) : BitVec 32 := (a &&& b) ^^^ (a &&& c) ^^^ (b &&& c)
def rt (s : St) (k w : BitVec 32) : BitVec 32 := s.h + S1 s.e + ch s.e s.f s.g + k + w
def ru (s : St) : BitVec 32 := S0 s.a + maj s.a s.b s.c
def rnd (s : St) (k w : BitVec 32) : St := ⟨rt s k w + ru s, s.a, s.b, s.c, s.d + rt s k w, s.e, s.f, s.g⟩
def Fz (s : St) (ws : List (BitVec 32)) : Nat → St
 | 0 => s
 | i + 1 => rnd (Fz s ws i) (KC.getD i 0) (ws.getD i 0)
def a1b (s t : St) : St := ⟨s.a + t.a, s.b + t.b, s.c + t.c, s.d + t.d, s.e + t.e, s.f + t.f, s.g + t.g, s.h + t.h⟩
def take (s : St) (pb : List (BitVec 8)) : St := a1b s (Fz s (mf pb) 64)
def Z8 : Value := .int .u8 0
def lo8 (x : BitVec 32) : BitVec 8 := BitVec.ofNat 8 x.toNat
theorem a13 (x : BitVec 32) : IntKind.u8.wrap (N32 x) = N8 (lo8 x) := by
 unfold N32 N8 lo8;rw [IntKind.wrap_u8', BitVec.toNat_ofNat];simp
def wb (x : BitVec 32) (i : Nat) : BitVec 8 := lo8 (x >>> (24 - 8 * i))
def wbs (x : BitVec 32) (k : Nat) : List (BitVec 8) := (List.range k).map (wb x)
theorem Jl (x : BitVec 32) (k : Nat) : (wbs x k).length = k := by simp [wbs]
def bt (l : List (BitVec 32)) : List (BitVec 8) := l.flatMap (wbs · 4)
theorem Sz : (Tryz.prog.info? 25).map (·.size) = some 32 := by kernel_rfl
theorem cg (l : List (BitVec 32)) : (bt l).length = 4 * l.length := by
 induction l with
 | nil => rfl
 | cons x l ih => simp only [bt, List.flatMap_cons, List.length_append, Jl, List.length_cons] at ih ⊢; omega
theorem B0 (l : List (BitVec 32)) (j : Nat) (hj : j < l.length) : bt (l.take (j + 1)) = bt (l.take j) ++ wbs (l.getD j 0) 4 := by
 have e : l.getD j 0 = l[j] := by simp [List.getD_eq_getElem?_getD, hj]
 rw [List.take_succ_eq_append_getElem hj, e];unfold bt;rw [List.flatMap_append];simp
theorem Iy (l : List (BitVec 32)) (h : l.length = 8) : (Tryz.prog.info? 25).map (·.size) = some ((bt l).map V8).toArray.size := by
 rw [Sz]; simp [cg, h]
end Go.Proofs.YtjgjohdeeeoeoaaGreatDoor
namespace Go.Proofs.YtjgjohdeeeoeoaaGreatDoor
def H0 : St := ⟨0x6a09e667#32, 0xbb67ae85#32, 0x3c6ef372#32, 0xa54ff53a#32, 0x510e527f#32, 0x9b05688c#32, 0x1f83d9ab#32, 0x5be0cd19#32⟩
def Bb (m : List (BitVec 8)) (i : Nat) : List (BitVec 8) := (m.drop (64 * i)).take 64
def z5 : Nat → List (BitVec 8) → St
 | 0, _ => H0
 | i + 1, m => take (z5 i m) (Bb m i)
def a2l (rest : List (BitVec 8)) (k : Nat) (cs : List (BitVec 8)) : List (BitVec 8) := rest.take k ++ (cs ++ rest.drop (k + cs.length))
end Go.Proofs.YtjgjohdeeeoeoaaGreatDoor
namespace Go.Proofs.YtjgjohdeeeoeoaaGreatDoor
open Go.RowKit
variable {b x1 : BitVec 32} {l : List (BitVec 32)} {B c g i j n : Nat} {r : Tr} {k : TypeId} {v : Value} {W : World}
def si (n : Nat) : Nat := (64 - (n + 9) % 64) % 64
def P1 (n i : Nat) : BitVec 8 := BitVec.ofNat 8 (8 * n / 2 ^ (56 - 8 * i))
def zg (n : Nat) : List (BitVec 8) := 128#8 :: List.replicate (si n) 0#8
def Kv (n k : Nat) : List (BitVec 8) := zg n ++ (List.range k).map (P1 n)
def fill (n : Nat) : List (BitVec 8) := Kv n 8
theorem oi (n k : Nat) : (Kv n k).length = 1 + si n + k := by simp [Kv, zg]; omega
theorem zy (n : Nat) : si n < 64 := Nat.mod_lt _ (by omega)
def Zu : Value → Nat | .slice _ l _ => l | _ => 0
theorem a2a : (Tryz.prog.info? 5).map (·.size) = some 1 := by kernel_rfl
theorem Rf : Tryz.prog.underlying 29 = some (.slice (Tryz.prog.elem 29)) := by kernel_rfl
theorem Wt : Tryz.prog.elem 29 = 5 := by kernel_rfl
theorem Z5 (W : World) : (sizeOf 5).run Tryz.prog W = .ok 1 W := by
 obtain ⟨i, h1, h2⟩ := Option.map_eq_some_iff.1 a2a;simp [sizeOf, typeInfo, h1, h2]
def full (m : List (BitVec 8)) : List (BitVec 8) := m ++ fill m.length
def od (m : List (BitVec 8)) : List (BitVec 8) := bt (z5 ((full m).length / 64) (full m)).list
theorem jq (m : List (BitVec 8)) : (od m).length = 32 := cg _
theorem Z4 (m : List (BitVec 8)) : (Tryz.prog.info? 25).map (·.size) = some ((od m).map V8).toArray.size := by rw [Sz]; simp [jq]
section
variable {P : Program} {ops : Array Oper} {C : World → Prop} {Q : Act → Prop} {rest : List Oper} {a : Act} {o : Oper}
end
def a1p (w : World) (base : Nat) (v : Value) (l : List (BitVec 32)) : Prop := ∃ g cap, v = .slice (some ⟨g, 0, none⟩) l.length cap ∧ base ≤ g ∧ w.ownsRow base 24 1 v l.length (l.map V32)
set_option maxRecDepth 100000 in
theorem Aw (w : World) :
  Calls Tryz.prog 158 #[] w fun e w' => ∃ v, e = .returned v ∧ a1p w' w.heap.size v KC ∧ Below w.heap.size w w' := by
 go_enter Tryz.func158, Tryz.ntmps158
 go_wp2
 go_ret;refine ⟨_, rfl, ⟨w.heap.size, 64, rfl, Nat.le_refl _, ?_⟩, (Below.refl _ _).alloc (Nat.le_refl _) _⟩;have h : Blk (w.alloc (.cells (KC.map V32).toArray 24)) w.heap.size (KC.map V32) 24 := Blk.new _ _ _;exact h.owns (n := 64) (Nat.le_refl _) (Nat.le_refl _) (by unfold maxLen; decide)
theorem Hw : (Tryz.prog.info? 24).map (fun i => (i.zero, i.size, i.bytes)) = some (some (.int .u32 0), 1, 4) := by kernel_rfl
def part (pb : List (BitVec 8)) (i : Nat) : Nat → BitVec 32
 | 0 => 0#32
 | k + 1 => part pb i k * 256#32 + up (pb.getD (4 * i + k) 0)
theorem Pn (pb : List (BitVec 8)) (i : Nat) : part pb i 4 = Qh pb i := by
 simp only [part, Qh, be];generalize pb.getD (4 * i) 0 = b0;generalize pb.getD (4 * i + 1) 0 = b1;generalize pb.getD (4 * i + 2) 0 = b2;generalize pb.getD (4 * i + 3) 0 = b3;have u (b : BitVec 8) : (up b).toNat = b.toNat := by unfold up; rw [BitVec.toNat_ofNat]; exact Nat.mod_eq_of_lt (by have := b.isLt; omega)
 have h0 := b0.isLt; have h1 := b1.isLt; have h2 := b2.isLt; have h3 := b3.isLt;apply BitVec.eq_of_toNat_eq;simp only [BitVec.toNat_add, BitVec.toNat_mul, BitVec.toNat_or, BitVec.toNat_shiftLeft, BitVec.toNat_ofNat, u, Nat.shiftLeft_eq]
 have e1 : b0.toNat * 2 ^ 24 % 2 ^ 32 ||| b1.toNat * 2 ^ 16 % 2 ^ 32 = b0.toNat * 2 ^ 24 + b1.toNat * 2 ^ 16 := by
  rw [Nat.mod_eq_of_lt (by omega), Nat.mod_eq_of_lt (by omega)];exact nat_join 24 _ _ (Nat.mul_mod_left _ _) (by omega)
 have e2 : (b0.toNat * 2 ^ 24 + b1.toNat * 2 ^ 16) ||| b2.toNat * 2 ^ 8 % 2 ^ 32 = b0.toNat * 2 ^ 24 + b1.toNat * 2 ^ 16 + b2.toNat * 2 ^ 8 := by
  rw [Nat.mod_eq_of_lt (by omega)];exact nat_join 16 _ _ (by omega) (by omega)
 have e3 : (b0.toNat * 2 ^ 24 + b1.toNat * 2 ^ 16 + b2.toNat * 2 ^ 8) ||| b3.toNat = b0.toNat * 2 ^ 24 + b1.toNat * 2 ^ 16 + b2.toNat * 2 ^ 8 + b3.toNat :=
  nat_join 8 _ _ (by omega) (by omega)
 rw [e1, e2, e3];omega
theorem Pm (pb : List (BitVec 8)) (i k : Nat) (b : BitVec 8) (hb : pb.getD (4 * i + k) 0 = b) : IntKind.u32.wrap (N32 (part pb i k * 256#32) + N32 (up b)) = N32 (part pb i (k + 1)) := by
 rw [Zs, ← hb]; rfl
theorem a14 (x : BitVec 32) : IntKind.u32.wrap (N32 x * (256 : Int)) = N32 (x * 256#32) := by
 unfold N32;rw [IntKind.wrap_u32', BitVec.toNat_mul];simp
def C9 (B : Nat) (w : World) (l : List (BitVec 32)) (v : Value) (wr : World) : Prop := wr.ownsRow B 24 1 v l.length (l.map V32) ∧ Below B w wr
theorem Pv {w wr w1 : World} {v' : Value} {o : Obj} {x : BitVec 32} (h : C9 B w l v wr) (ho : w1.ownsRow B 24 1 v' (l.length + 1) (l.map V32 ++ [V32 x])) (hg : (wr.alloc o).grownBy w1 v.ownBlock) (hB : B ≤ wr.heap.size := by omega) : C9 B w (l ++ [x]) v' w1 := by
 refine ⟨by simpa using ho, (h.2.alloc hB o).grown hg (by simp; omega) (fun j hj => ?_)⟩;exact (h.1.lt j hj).1
theorem tn (x : BitVec 32) : ∀ u ∈ [V32 x], u.oneCell' = true := by
 intro u hu; simp at hu; subst hu; rfl
theorem Q2 (sp : Option Addr) (L cap a n : Nat) (h : a + n ≤ L) (hc : L ≤ cap) : ∃ sp2, (∀ W : World, (Instr.sliceAt 29 (.slice sp L cap) (some (.int .i64 (a : Int))) (some (.int .i64 ((a : Int) + (n : Int)))) none).run Tryz.prog W = .ok (.slice sp2 n (cap - a)) W) ∧ (a < cap → sp2 = sp.map (·.add a)) ∧ (sp2 = none → sp = none) := by
 refine ⟨if cap = a then sp else sp.map (·.add a), fun W => ?_, fun h => if_neg (by omega), fun h => ?_⟩
 ·rw [run_sliceAt_slice W 29 _ _ _ _ Rf, run_slice_lh W 29 sp L cap Rf .i64 .i64 (a : Int) ((a : Int) + (n : Int)) (by omega) (by omega) (by omega), Wt, Z5]
  have e1 : ((a : Int)).toNat = a := (by omega);have e2 : ((a : Int) + (n : Int)).toNat = a + n := (by omega);simp only [Result.andThen, sliced, e1, e2, Nat.mul_one];rw [show a + n - a = n by omega]
 ·split at h
  ·exact h
  ·cases sp <;> simp at h ⊢
section
variable {ρ : Operand → Value} {o : Oper} {x y : Operand} {w : World}
theorem gy {a : BitVec 32} (ho : o.op = .binOp .xor 24 x y k) (hx : ρ x = V32 a) (hy : ρ y = V32 b) : (execOp ρ o).run Tryz.prog w = .ok (.value (V32 (a ^^^ b))) w := by
 have e := a01 a b;unfold execOp;simp [go_sem, ho, hx, hy, e]
theorem qf {a : BitVec 32} (ho : o.op = .binOp .and 24 x y k) (hx : ρ x = V32 a) (hy : ρ y = V32 b) : (execOp ρ o).run Tryz.prog w = .ok (.value (V32 (a &&& b))) w := by
 have e := a1q a b;unfold execOp;simp [go_sem, ho, hx, hy, e]
theorem gu {a : BitVec 32} (ho : o.op = .binOp .add 24 x y k) (hx : ρ x = V32 a) (hy : ρ y = V32 b) : (execOp ρ o).run Tryz.prog w = .ok (.value (V32 (a + b))) w := by
 have e := Zs a b;unfold execOp;simp [go_sem, ho, hx, hy, e]
theorem S9 {a : BitVec 32} (ho : o.op = .unOp .xor 24 x) (hx : ρ x = V32 a) : (execOp ρ o).run Tryz.prog w = .ok (.value (V32 (~~~ a))) w := by
 have e := a25 a;unfold execOp;have e0 : (if IntKind.u32.signed = true then (-1 : Int) else IntKind.u32.max) = 4294967295 := by decide
 simp [go_sem, ho, hx, e0, e]
theorem ym {t : TypeId} {m : Nat} (ho : o.op = .binOp .sub 3 x y t) (hx : ρ x = .int .i64 (j : Int)) (hy : ρ y = .int .i64 (c : Int)) (hj : j ≤ 1000000) (hm : j = m + c) : (execOp ρ o).run Tryz.prog w = .ok (.value (.int .i64 (m : Int))) w := by
 have e := IntWalk.i64_in ((j : Int) - (c : Int)) (by omega);have e2 : (j : Int) - (c : Int) = (m : Int) := by omega
 rw [e2] at e;unfold execOp;simp [go_sem, ho, hx, hy, e2, e]
theorem c9 {sp : Addr} {o1 : Nat} (ho : o.op = .indexAddr 98 x y) (hx : ρ x = .slice (some sp) n c) (hs : sp = ⟨g, o1, none⟩) (hy : ρ y = .int .i64 (j : Int)) (hj : j < n) (_hn : n ≤ 1000000) : (execOp ρ o).run Tryz.prog w = .ok (.value (.pointer (some ⟨g, o1 + j, none⟩))) w := by
 subst hs;have h1 : (j : Int) < (n : Int) := by omega
 unfold execOp;simp only [ho];go_simp
theorem ba {ad : Addr} {z : BitVec 32} (ho : o.op = .load 24 x) (hx : ρ x = .pointer (some ad)) (hc : w.cell? ad = some (V32 z)) : (execOp ρ o).run Tryz.prog w = .ok (.value (V32 z)) w := by
 unfold execOp;simp only [ho];go_simp
theorem Mt {a b c d e f g h : Operand} {x2 x3 x4 x5 x6 x7 x8 : BitVec 32} (ho : o.op = .buildSlice 98 8 #[(0, a), (1, b), (2, c), (3, d), (4, e), (5, f), (6, g), (7, h)]) (h1 : ρ a = V32 x1) (h2 : ρ b = V32 x2) (h3 : ρ c = V32 x3) (h4 : ρ d = V32 x4) (h5 : ρ e = V32 x5) (h6 : ρ f = V32 x6) (h7 : ρ g = V32 x7) (h8 : ρ h = V32 x8) :
  (execOp ρ o).run Tryz.prog w = .ok (.value (.slice (some ⟨w.heap.size, 0, none⟩) 8 8)) (w.alloc (.cells #[V32 x1, V32 x2, V32 x3, V32 x4, V32 x5, V32 x6, V32 x7, V32 x8] 24)) := by
 unfold execOp;simp only [ho];go_simp
theorem Bd {a : Operand} (ho : o.op = .buildSlice 98 1 #[(0, a)]) (h1 : ρ a = V32 x1) :
  (execOp ρ o).run Tryz.prog w = .ok (.value (.slice (some ⟨w.heap.size, 0, none⟩) 1 1)) (w.alloc (.cells #[V32 x1] 24)) := by
 unfold execOp;simp only [ho];go_simp
end
section
variable {ops : Array Oper} {Q : Exit → Act → World → Prop} {S : World → Prop}
theorem fu {a : Act} {w : World} (o : Oper) (hi : ops.toList[i]? = some o) (hw : Region.wanted o (yielded ops a.tmps) = true) (f : FuncId) (args : Array Value) (hrun : ∀ w, (execOp a.eval o).run Tryz.prog w = .ok (.enter f args) w)
  (hS : S w) (v : Value) (hc : Calls Tryz.prog f args w fun e w' => e = .returned v ∧ w = w')
  (h : wpG Tryz.prog ops Q r S (a.put o.dst v) w) : wpG Tryz.prog ops Q (.step i r) S a w :=
 b8 o hi hw f args hrun (fun u w' => u = v ∧ w = w') (hc.mono fun _ w' ⟨e1, e2⟩ => ⟨v, e1, e2 ▸ hS, rfl, e2⟩) fun u w' hS' ⟨hu, hw⟩ => by
  subst hu; subst hw;exact ⟨S, fun _ h => h, hS', h⟩
end
def Words (g o : Nat) (l : List (BitVec 32)) (W : World) : Prop := ∀ j, j < l.length → W.cell? ⟨g, o + j, none⟩ = some (V32 (l.getD j 0))
theorem Words.block {o : Nat} {w : World} (h : Words g o l w) (hb : W.heap[g]? = w.heap[g]?) : Words g o l W := fun j hj => (World.cell?_of_block (a := ⟨g, o + j, none⟩) hb).trans (h j hj)
theorem Words.below {o : Nat} {w : World} (h : Words g o l w) (hb : Below B w W) (hg : g < B) : Words g o l W := h.block (hb.block g hg)
theorem Words.alloc {o : Nat} {w : World} (h : Words g o l w) (hg : g < w.heap.size) (b : Obj) : Words g o l (w.alloc b) := h.block (Below.heap_alloc w b g hg)
theorem da {w : World} {cap : Nat} (h : w.ownsRow B 24 1 (.slice (some ⟨g, 0, none⟩) n cap) l.length (l.map V32)) : Words g 0 l w := fun j hj => by
 have hn : n = l.length := by rcases h.2 with ⟨e, _⟩ | ⟨_, _, _, e, _⟩ <;> simp at e; omega
 subst hn;rw [Nat.zero_add, h.cellAt j (by omega)];exact sd V32 _ j hj 0
theorem uq {w : World} (h : w.ownsRow B 24 1 v l.length (l.map V32)) (h0 : 0 < l.length) : ∃ g cap, v = .slice (some ⟨g, 0, none⟩) l.length cap ∧ l.length ≤ cap ∧ B ≤ g ∧ g < w.heap.size := by
 rcases h.2 with ⟨rfl, hn⟩ | ⟨g, cap, cur, rfl, hb, hg, hc, hm, _, _⟩
 ·omega
 ·exact ⟨g, cap, rfl, hc, hb, (Array.getElem?_eq_some_iff.1 hg).1⟩
theorem yc {w : World} (B : Nat) (ty : TypeId) (v : Value) (l : List (BitVec 32)) (hown : w.ownsRow B 24 1 v l.length (l.map V32)) (ad : Addr) (c : Nat) (b : BitVec 32) (hcell : w.cell? (ad.add 0) = some (V32 b)) (hl : l.length ≤ 1000000) (hB : B ≤ w.heap.size) :
  ∃ v' w', (Builtin.append_ #[98, 98] ty #[v, .slice (some ad) 1 c]).run Tryz.prog w = .ok v' w' ∧ w'.ownsRow B 24 1 v' (l ++ [b]).length ((l ++ [b]).map V32) ∧ w.grownBy w' v.ownBlock ∧ (∀ g n cap, v = .slice (some ⟨g, 0, none⟩) n cap → Words g 0 l w') := by
 obtain ⟨i0, hi, a3, a2, a4⟩ := info_parts Hw
 have hn : ∀ j u, [V32 b][j]? = some u → w.cell? (ad.add j) = some u := fun j u hj => by
  match j, hj with
  | 0, hj => simp at hj; subst hj; exact hcell
 obtain ⟨v', w', hr, h2, h3, h4⟩ := run_append_own (P := Tryz.prog) w B 98 ty 24 i0 (.int .u32 0) 1 4 Tryz.underlying98 hi a3 a2 a4 rfl (by decide) v l.length (l.map V32) hown ad 1 c [V32 b] rfl hn (tn _) (by unfold maxLen; omega) (by omega) hB;refine ⟨v', w', hr, by rw [List.map_append, List.length_append]; exact h2, h3, ?_⟩;rintro g n cap rfl;have a6 : n = l.length := by rcases hown.2 with ⟨e, _⟩ | ⟨_, _, _, e, _⟩ <;> simp at e; omega
 subst a6;have hw := da hown;rcases hown.2 with ⟨e, _⟩ | ⟨g', cap', cur, e, hbg, hg, hnc, hcm, hcs, htake⟩
 ·simp at e
 ·simp at e
  obtain ⟨rfl, rfl⟩ := e;by_cases hroom : l.length + 1 ≤ cap
  ·have a1 := run_append_room (P := Tryz.prog) w 98 ty 24 i0 Tryz.underlying98 hi g l.length cap cur hg ad 1 c [V32 b] (by rw [a2]; rfl) hn (tn _) hroom (by rw [a2, hcs]; simp; omega)
   rw [hr] at a1;injection a1 with e1 e2
   subst e1;have a5 : w'.ownsRow B 24 1 (.slice (some ⟨g, 0, none⟩) (l.length + 1) cap) (l ++ [b]).length ((l ++ [b]).map V32) := (by rw [List.map_append, List.length_append]; exact h2);intro j hj;have := da a5 j (by simp; omega);rw [this];simp [List.getD_eq_getElem?_getD, List.getElem?_append_left hj]
  ·have a0 := hown.cells (g := g) rfl
   have a1 := run_append_grow (P := Tryz.prog) w 98 ty 24 i0 (.int .u32 0) Tryz.underlying98 hi a3 ⟨g, 0, none⟩ l.length cap (l.map V32) (by rw [a2]; simp) a0 ad 1 c [V32 b] (by rw [a2]; rfl) hn (by omega) (by omega) (growslice_fits (by omega) (by rw [a4]; omega));rw [hr] at a1;injection a1 with e1 e2
   subst e2;exact Words.alloc (w := w.drew) hw (Array.getElem?_eq_some_iff.1 hg).1 _
section
variable {ops : Array Oper} {Q : Exit → Act → World → Prop} {S : World → Prop}
theorem C1 {a : Act} {w : World} (o : Oper) (hi : ops.toList[i]? = some o) (hw : Region.wanted o (yielded ops a.tmps) = true) (s x : Operand)
  (ho : o.op = .call { callee := .builtin .append, args := #[s, x], argTypes := #[98, 98] }) (v : Value) (hs : a.eval s = v) (B : Nat) (l : List (BitVec 32)) (hown : w.ownsRow B 24 1 v l.length (l.map V32)) (b : BitVec 32) (ad : Addr) (c : Nat) (hx : a.eval x = .slice (some ad) 1 c) (hcell : w.cell? (ad.add 0) = some (V32 b))
  (hl : l.length ≤ 1000000) (hB : B ≤ w.heap.size)
  (h : ∀ v' w', w'.ownsRow B 24 1 v' (l ++ [b]).length ((l ++ [b]).map V32) → w.grownBy w' v.ownBlock → (∀ g n cap, v = .slice (some ⟨g, 0, none⟩) n cap → Words g 0 l w') → S w' ∧ wpG Tryz.prog ops Q r S (a.put o.dst v') w') : wpG Tryz.prog ops Q (.step i r) S a w := by
 obtain ⟨v', w', hr, h2, h3, h4⟩ := yc (w := w) B o.type v l hown ad c b hcell hl hB;obtain ⟨h5, h6⟩ := h v' w' h2 h3 h4;refine bm o hi hw v' w' ?_ S h5 (fun _ h => h) h6;unfold execOp;simp only [ho, resolve, invoke, builtin, Sem.run_bind, Sem.run_pure, Result.andThen_ok, List.map_toArray, List.map_cons, List.map_nil, hs, hx, hr]
end
end Go.Proofs.YtjgjohdeeeoeoaaGreatDoor
