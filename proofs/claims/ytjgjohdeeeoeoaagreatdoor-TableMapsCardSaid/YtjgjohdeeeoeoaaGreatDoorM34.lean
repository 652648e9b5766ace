/- breakPatterns at uint32. -/
import Derived.Test.YtjgjohdeeeoeoaaGreatDoorM33
set_option linter.all false
namespace Go.Proofs.YtjgjohdeeeoeoaaGreatDoor
open Go.RowKit
attribute [local go_sem] Oper.semAt_some
variable {d : Array Nat} {rest : List Value} {R a b g i k rb sb : Nat} {X Y w : World}
def bpR (a L M i0 : Nat) : Nat → Nat → UInt64 × Array Nat → Array Nat
 | 0, _, st => st.2
 | k + 1, t, st => bpR a L M i0 k (t + 1) (Sort.breakStep a L M st (i0 + t))
theorem R0 (d : Array Nat) (h8 : 8 ≤ b - a) : Sort.breakPatterns d a b = bpR a (b - a) (1 <<< Sort.bitsLen (b - a)) (a + (b - a) / 4 * 2 - 1) 3 0 (UInt64.ofNat (b - a), d) := by
 unfold Sort.breakPatterns;simp only;rw [if_pos h8];rfl
theorem R1 {L M i0 t O : Nat} {r : UInt64} (ht : t < 3) (hO : (if (Sort.xorNext r).toNat &&& (M - 1) ≥ L then ((Sort.xorNext r).toNat &&& (M - 1)) - L else (Sort.xorNext r).toNat &&& (M - 1)) = O) :
  bpR a L M i0 (3 - t) t (r, d) = bpR a L M i0 (3 - (t + 1)) (t + 1) (Sort.xorNext r, Sort.swp d (i0 + t) (a + O)) := by
 rw [show 3 - t = (3 - (t + 1)) + 1 by omega, bpR];unfold Sort.breakStep;simp only [hO]
structure BrS (g rb : Nat) (w : World) (d : Array Nat) (rest : List Value) (R : Nat) (X : World) : Prop where
 so : SoW g w d rest X
 rn : Blk X rb [.int .u64 (R : Int)] 198
 ne : rb ≠ g ∧ w.heap.size ≤ rb
theorem BrS.drew (h : BrS g rb w d rest R X) : BrS g rb w d rest R X.drew := ⟨h.so.drew, h.rn, h.ne⟩
theorem BrS.drewN (h : BrS g rb w d rest R X) (n : Nat) : BrS g rb w d rest R (X.drewN n) := by
 induction n with
 | zero => exact h
 | succ n ih => exact ih.drew
theorem BrS.swap (h : BrS g rb w d rest R X) {j : Nat} (hi : i < d.size) (hj : j < d.size) :
  BrS g rb w (Sort.swp d i j) rest R ((X.setCell ⟨g, i, none⟩ (UV d[j]!)).setCell ⟨g, j, none⟩ (UV d[i]!)) :=
 ⟨h.so.swap hi hj, (h.rn.other (a := ⟨g, i, none⟩) h.ne.1 _).other (a := ⟨g, j, none⟩) h.ne.1 _, h.ne⟩
theorem BrS.next {R' : Nat} (h : BrS g rb w d rest R X) (hB : Blk Y rb [.int .u64 (R' : Int)] 198) (hc : Chg (fun k => k = rb) X Y) : BrS g rb w d rest R' Y :=
 ⟨⟨Blk.chg h.so.at_ hc (fun e => h.ne.1 e.symm), h.so.chg.trans hc (fun i hi => .inr (by rw [hi]; exact h.ne.2))⟩, hB, h.ne⟩
set_option maxRecDepth 100000 in
set_option maxHeartbeats 8000000 in
theorem Wm (g cap a b n : Nat) (d : Array Nat) (rest : List Value) (w : World) (hU : UAt w g d rest) (hn : d.size = n) (hc : n ≤ cap) (h8 : 8 ≤ b - a) (hb : b ≤ n) (h64 : n ≤ 64) :
  Calls Tryz.prog 109 #[.slice (some ⟨g, 0, none⟩) n cap, .int .i64 (a : Int), .int .i64 (b : Int)] w (pw g (Sort.breakPatterns d a b) rest w) := by
 obtain ⟨D, hD⟩ : ∃ D, Sort.breakPatterns d a b = D := ⟨_, rfl⟩;rw [hD];rw [R0 d h8] at hD;obtain ⟨L, hL⟩ : ∃ L, b - a = L := ⟨_, rfl⟩;obtain ⟨q, hq⟩ : ∃ q, L / 4 = q := ⟨_, rfl⟩;obtain ⟨q2, au⟩ : ∃ q2, q * 2 = q2 := ⟨_, rfl⟩;obtain ⟨s, hs⟩ : ∃ s, a + q2 = s := ⟨_, rfl⟩;obtain ⟨i0, ar⟩ : ∃ i0, s - 1 = i0 := ⟨_, rfl⟩;have ad := a27 L (by omega);have a8 : (1 <<< Sort.bitsLen L : Nat) ≤ 2 * L := by rw [Nat.one_shiftLeft]; exact Sort.two_pow_bitsLen_le (by omega)
 have a3 : 1 ≤ (1 <<< Sort.bitsLen L : Nat) := by rw [Nat.one_shiftLeft]; exact Nat.two_pow_pos _
 obtain ⟨M, hM⟩ : ∃ M, (1 <<< Sort.bitsLen L : Nat) = M := ⟨_, rfl⟩;rw [hL, hM, hq, au, hs, ar] at hD;rw [hM] at ad a8 a3;have HD := zH hD;generalize hPost : pw g D rest w = Post;have aw : Hid (∀ W, SoW g w D rest W → Post (.returned (.tuple #[])) W) := zH fun W h => by rw [← hPost]; exact ⟨rfl, h⟩
 have HN := zH hn; have HC : Hid (n ≤ cap) := zH hc;have HB : Hid (8 ≤ L ∧ L ≤ 64 ∧ a + L ≤ n ∧ n ≤ 64 ∧ 2 * q2 ≤ L ∧ 2 ≤ q2 ∧ s = a + q2 ∧ i0 + 1 = s) := zH ⟨by omega, by omega, by omega, h64, by omega, by omega, hs.symm, by omega⟩;have HM : Hid (M ≤ 2 * L ∧ 1 ≤ M) := zH ⟨a8, a3⟩;have ax := zH ad;have HQ := zH hq;have b2 := Blk.lt hU
 have al : Hid (BrS g w.heap.size w d rest L (w.alloc (.cells #[.int .u64 (L : Int)] 198))) := zH
  ⟨⟨Blk.alloc hU _, (Chg.refl _ w).alloc _⟩, Blk.new w [.int .u64 (L : Int)] 198, by omega, Nat.le_refl _⟩
 have b4 : (b : Int) - (a : Int) = (L : Int) := by omega
 have bc := IntWalk.i64_in ((L : Int)) (by omega);have af : IntKind.u64.wrap (L : Int) = (L : Int) := by rw [IntKind.wrap_u64]; omega
 have j8 : (8 : Int) ≤ (L : Int) := by omega
 have bh : (q : Int) * 2 = (q2 : Int) := by omega
 have b8 := IntWalk.i64_in ((q2 : Int)) (by omega);have bg : (a : Int) + (q2 : Int) = (s : Int) := by omega
 have b7 := IntWalk.i64_in ((s : Int)) (by omega);have ba : (s : Int) - 1 = (i0 : Int) := by omega
 have ah := IntWalk.i64_in ((i0 : Int)) (by omega);have bj := IntWalk.i64_in ((s : Int) + 1) (by omega);clear hD hPost hU hn hc hb h64 h8 hL hq au hs ar ad a8 a3 hM;go_enter Tryz.func109, Tryz.ntmps109
 go_upto_region 3 with fail
 refine (fun (k : ∀ W, BrS g w.heap.size w d rest L W → Code.wp _ _ _ _ W) => k _ al.out) ?_;intro W1 hW1;obtain ⟨rb, ae⟩ : ∃ r, w.heap.size = r := ⟨_, rfl⟩;rw [ae] at hW1 ⊢;have bb := zH ae;have am := zH hW1;clear hW1 al ae b2
 go_wp2_with fail
 refine (ax.out W1).mono ?_;rintro e W2 ⟨rfl, rfl⟩;have ay : Hid ((UInt64.ofNat L).toNat = L) := zH (by have := HB.out; simp; omega)
 go_wp2_with (first | (refine a9 rfl (oh (b := 4) HQ.out (by omega) (by have := HB.out; omega) rfl rfl rfl) ?_) | fail)
 go_loopw [9] (fun i wr => ∃ (t : Nat) (r : UInt64) (dj : Array Nat), i = .int .i64 (((i0 + t : Nat)) : Int) ∧ t ≤ 3 ∧ dj.size = n ∧ bpR a L M i0 (3 - t) t (r, dj) = D ∧ BrS g rb w dj rest r.toNat wr) (fun i _ => i0 + 4 - (intOf i).toNat)
 case atStart => exact ⟨0, UInt64.ofNat L, d, by first | rfl | go_num, by omega, HN.out, HD.out, by rw [ay.out]; exact am.out⟩
 case round =>
  clear am b4 j8 ba ah af;obtain ⟨t, r, dj, rfl, ht, ap, aq, hs⟩ := hrel;have a1 := zH ap; have a6 := zH aq; have HS := zH hs;clear ap aq hs;by_cases h3 : t < 3
  ·have j1 : ((i0 + t : Nat) : Int) ≤ (s : Int) + 1 := by have := HB.out; omega
   have b3 : (i0 : Int) + (t : Int) ≤ (s : Int) + 1 := (by have := HB.out; omega);obtain ⟨R, hR⟩ : ∃ R, r.toNat = R := ⟨_, rfl⟩;have lR : R < 18446744073709551616 := (by rw [← hR]; exact r.toNat_lt);obtain ⟨R', a4⟩ : ∃ R', Sort.xorNextN R = R' := ⟨_, rfl⟩;have av : R' < 18446744073709551616 := (by rw [← a4]; exact Sort.xorNextN_lt R lR);have aa : (Sort.xorNext r).toNat = R' := (by rw [← a4, ← hR]; exact Sort.xorNext_toNat r);obtain ⟨O, hO⟩ : ∃ O, R' &&& (M - 1) = O := ⟨_, rfl⟩;have lO : O ≤ M - 1 := (by rw [← hO]; exact Nat.and_le_right);obtain ⟨M1, a3⟩ : ∃ M1, M - 1 = M1 := ⟨_, rfl⟩
   have az : bits .and .u64 (R' : Int) (M1 : Int) = (O : Int) := by
    rw [bits_and_u64_nat _ _ av (by have := HM.out; have := HB.out; omega), ← a3, hO]
   have bd : (M : Int) - 1 = (M1 : Int) := (by have := HM.out; omega);have b6 : IntKind.u64.wrap (M1 : Int) = (M1 : Int) := (by have := HM.out; have := HB.out; rw [IntKind.wrap_u64]; omega);have bf := IntWalk.i64_in ((O : Int)) (by have := HM.out; have := HB.out; omega);rw [hR] at HS;have ab := P9 rb R lR 198 wr HS.out.rn;rw [a4] at ab;have ai := zH ab;have aj : Hid (Sort.xorNextN r.toNat = R' ∧ (Sort.xorNext r).toNat &&& (M - 1) = O) := zH ⟨by rw [hR]; exact a4, by rw [aa]; exact hO⟩;have ak : Hid ((Sort.xorNext r).toNat = R') := zH aa;have HO : Hid (O ≤ M - 1) := zH lO;clear hR lR a4 av aa hO lO a3 ab
   go_wp2_with (first | (refine a9 rfl (oh (b := 4) HQ.out (by omega) (by have := HB.out; omega) rfl rfl rfl) ?_) | fail)
   refine ai.out.mono ?_;rintro e X2 ⟨rfl, hb2, ao⟩;have a0 := zH (HS.out.next hb2 ao);clear hb2 ao ai HS;by_cases hge : L ≤ O
   ·have j2 : (L : Int) ≤ (O : Int) := by omega
    obtain ⟨o2, a5⟩ : ∃ o2, O - L = o2 := ⟨_, rfl⟩;have bi : (O : Int) - (L : Int) = (o2 : Int) := (by omega);have b9 := IntWalk.i64_in ((o2 : Int)) (by have := HM.out; have := HB.out; have := HO.out; omega);have a7 : Hid (o2 < L) := zH (by have := HM.out; have := HB.out; have := HO.out; omega);have a2 : Hid (bpR a L M i0 (3 - (t + 1)) (t + 1) (Sort.xorNext r, Sort.swp dj (i0 + t) (a + o2)) = D) := zH (by rw [← a6.out]; exact (R1 h3 (by rw [aj.out.2, if_pos hge, a5])).symm);clear a5
    go_upto_region 10 with fail
    have b1 := HC.out;have b0 := HB.out;have a5 := a7.out;have b5 := IntWalk.i64_in (((i0 + t : Nat) : Int) + 1) (by omega);have ag := IntWalk.i64_in ((i0 : Int) + (t : Int) + 1) (by omega);have HU : Hid (UAt X2.drew g dj rest) := zH a0.out.drew.so.at_;have q1 := a0.out.so.at_.cell (k := i0 + t) (by rw [a1.out]; omega); have q2 := a0.out.so.at_.cell (k := a + o2) (by rw [a1.out]; omega); have q3 := Blk.free a0.out.so.at_ (i0 + t); have q4 := Blk.free a0.out.so.at_ (a + o2);obtain ⟨v5, q5⟩ := cell?_setCell_some (p := ⟨g, i0 + t, none⟩) (x := .int .u32 ((dj[a + o2]! : Nat) : Int)) q2
    go_region
    refine fl (S := fun W => BrS g rb w (Sort.swp dj (i0 + t) (a + o2)) rest _ W) ((a0.out.drewN _).swap (i := i0 + t) (j := a + o2) (by rw [a1.out]; omega) (by rw [a1.out]; omega)) fun W9 hs2 => ?_
    have a0 := zH hs2;clear hs2 q1 q2 q3 q4 q5 v5;clear HU
    go_wp2_with fail
    go_roundw
    case rel => exact ⟨t + 1, Sort.xorNext r, _, by go_num, by omega, by rw [c8]; exact a1.out, a2.out, by rw [ak.out]; exact a0.out⟩
    case measure => first | (simp [intOf]; done) | (simp [intOf]; omega)
   ·have j2 : ¬ (L : Int) ≤ (O : Int) := by omega
    have a7 : Hid (O < L) := zH (by omega);have a2 : Hid (bpR a L M i0 (3 - (t + 1)) (t + 1) (Sort.xorNext r, Sort.swp dj (i0 + t) (a + O)) = D) := zH (by rw [← a6.out]; exact (R1 h3 (by rw [aj.out.2, if_neg hge])).symm)
    go_upto_region 10 with fail
    have b1 := HC.out;have b0 := HB.out;have a5 := a7.out;have b5 := IntWalk.i64_in (((i0 + t : Nat) : Int) + 1) (by omega);have ag := IntWalk.i64_in ((i0 : Int) + (t : Int) + 1) (by omega);have HU : Hid (UAt X2.drew g dj rest) := zH a0.out.drew.so.at_;have q1 := a0.out.so.at_.cell (k := i0 + t) (by rw [a1.out]; omega); have q2 := a0.out.so.at_.cell (k := a + O) (by rw [a1.out]; omega); have q3 := Blk.free a0.out.so.at_ (i0 + t); have q4 := Blk.free a0.out.so.at_ (a + O);obtain ⟨v5, q5⟩ := cell?_setCell_some (p := ⟨g, i0 + t, none⟩) (x := .int .u32 ((dj[a + O]! : Nat) : Int)) q2
    go_region
    refine fl (S := fun W => BrS g rb w (Sort.swp dj (i0 + t) (a + O)) rest _ W) ((a0.out.drewN _).swap (i := i0 + t) (j := a + O) (by rw [a1.out]; omega) (by rw [a1.out]; omega)) fun W9 hs2 => ?_
    have a0 := zH hs2;clear hs2 q1 q2 q3 q4 q5 v5;clear HU
    go_wp2_with fail
    go_roundw
    case rel => exact ⟨t + 1, Sort.xorNext r, _, by go_num, by omega, by rw [c8]; exact a1.out, a2.out, by rw [ak.out]; exact a0.out⟩
    case measure => first | (simp [intOf]; done) | (simp [intOf]; omega)
  ·obtain rfl : t = 3 := by omega
   have j1 : ¬ ((i0 + 3 : Nat) : Int) ≤ (s : Int) + 1 := (by have := HB.out; omega);have b3 : ¬ (i0 : Int) + (3 : Int) ≤ (s : Int) + 1 := (by have := HB.out; omega);have an : dj = D := a6.out;have HE := zH (aw.out _ (by rw [← an]; exact HS.out.so));clear an
   go_wp2_with (first | (refine a9 rfl (oh (b := 4) HQ.out (by omega) (by have := HB.out; omega) rfl rfl rfl) ?_) | fail)
   first | exact HE.out | (go_end0; exact HE.out) | (go_ret; exact HE.out)
structure CpS (g sb : Nat) (w : World) (d : Array Nat) (rest : List Value) (k : Nat) (X : World) : Prop where
 at_ : UAt X g d rest
 ct : Blk X sb [.int .i64 (k : Int)] 3
 ne : sb ≠ g
 chg : Chg (fun x => x = sb) w X
theorem CpS.drew (h : CpS g sb w d rest k X) : CpS g sb w d rest k X.drew := ⟨h.at_, h.ct, h.ne, h.chg.drew⟩
theorem CpS.inc (h : CpS g sb w d rest k X) (k' : Nat) : CpS g sb w d rest k' (X.setCell ⟨sb, 0, none⟩ (.int .i64 (k' : Int))) :=
 ⟨h.at_.other (a := ⟨sb, 0, none⟩) (fun e => h.ne e.symm) _, h.ct.set 0 _, h.ne, h.chg.setCell (.inl rfl) 0 _⟩
theorem CpS.trans {k' : Nat} (h : CpS g sb w d rest k X) (j : CpS g sb X d rest k' Y) : CpS g sb w d rest k' Y := ⟨j.at_, j.ct, j.ne, h.chg.trans' j.chg⟩
theorem CpS.start (h : CpS g sb w d rest k X) : CpS g sb X d rest k X := ⟨h.at_, h.ct, h.ne, Chg.refl _ _⟩
set_option maxRecDepth 100000 in
theorem A3 (g cap sb a b k n : Nat) (d : Array Nat) (rest : List Value) (w : World) (h : CpS g sb w d rest k w) (hn : d.size = n) (hc : n ≤ cap) (ha : a < n) (hb : b < n) (hk : k < 100) :
  Calls Tryz.prog 132 #[.slice (some ⟨g, 0, none⟩) n cap, .int .i64 (a : Int), .int .i64 (b : Int), .pointer (some ⟨sb, 0, none⟩)] w fun e w' => e = .returned (.tuple #[.int .i64 (((Sort.order2 ao d a b k).1 : Nat) : Int), .int .i64 (((Sort.order2 ao d a b k).2.1 : Nat) : Int)]) ∧ CpS g sb w d rest (Sort.order2 ao d a b k).2.2 w' := by
 obtain ⟨mm, a0⟩ : ∃ mm, ao d[b]! d[a]! = mm := ⟨_, rfl⟩;have a3 := zH a0;have a2 := zH hn;have HS := zH h;have HU : Hid (UAt w.drew g d rest) := zH h.drew.at_;have wk := IntWalk.i64_in ((k : Int) + 1) (by omega);have c0 := h.ct.cell (j := 0) rfl;have f0 := h.ct.free 0;cases mm
 case true =>
  have e1 : Sort.order2 ao d a b k = (b, a, k + 1) := (by unfold Sort.order2; rw [a0]; rfl);rw [e1];generalize hPost : (fun (e : Ending) (w' : World) => e = .returned (.tuple #[.int .i64 (b : Int), .int .i64 (a : Int)]) ∧ CpS g sb w d rest (k + 1) w') = Post;have HE := zH (show Post (.returned (.tuple #[.int .i64 (b : Int), .int .i64 (a : Int)])) (w.drew.setCell ⟨sb, 0, none⟩ (.int .i64 ((k : Int) + 1))) by rw [← hPost]; exact ⟨rfl, by have := HS.out.drew.inc (k + 1); rw [show ((k + 1 : Nat) : Int) = (k : Int) + 1 by omega] at this; exact ⟨this.at_, this.ct, this.ne, this.chg⟩⟩);clear hPost e1 a0 h;go_enter Tryz.func132, Tryz.ntmps132
  go_upto_region 1 with fail
  refine gS (.take 0 (.take 1 (.take 2 (.take 3 (.take 4 (.take 5 (.take 6 (.take 7 (.step 8 (.nil)))))))))) (fun X => UAt X g d rest) (HU.out) ?_;refine gT (.slice (some ⟨g, 0, none⟩) n cap) ?_;refine gT (.int .i64 ((b : Nat) : Int)) ?_;refine gU (.pointer (some ⟨g, b, none⟩)) rfl (fun X hX => oe (by omega) rfl rfl rfl) ?_;refine gU (.int .u32 ((d[b]! : Nat) : Int)) rfl (fun X hX => qk hX (by rw [a2.out]; omega) rfl rfl) ?_;refine gT (.slice (some ⟨g, 0, none⟩) n cap) ?_;refine gT (.int .i64 ((a : Nat) : Int)) ?_;refine gU (.pointer (some ⟨g, a, none⟩)) rfl (fun X hX => oe (by omega) rfl rfl rfl) ?_;refine gU (.int .u32 ((d[a]! : Nat) : Int)) rfl (fun X hX => qk hX (by rw [a2.out]; omega) rfl rfl) ?_;refine b8 _ rfl (by rfl) 113 #[.int .u32 ((d[b]! : Nat) : Int), .int .u32 ((d[a]! : Nat) : Int)] (fun X => by go_simp) (fun u X => u = .bool true ∧ X = w.drew) ((fo _ _ _).mono fun e X ⟨e1, e2⟩ => ⟨_, e1, by rw [e2]; exact HU.out, by rw [a3.out], e2⟩) ?_;rintro u X8 a1 ⟨rfl, rfl⟩;refine ⟨_, fun _ h => h, a1, ?_⟩;clear a1; try simp only [pS]
  refine au ?_
  go_wp2_with fail
  first | exact HE.out | (go_ret2; exact HE.out) | (go_ret; exact HE.out)
 case false =>
  have e1 : Sort.order2 ao d a b k = (a, b, k) := (by unfold Sort.order2; rw [a0]; rfl);rw [e1];generalize hPost : (fun (e : Ending) (w' : World) => e = .returned (.tuple #[.int .i64 (a : Int), .int .i64 (b : Int)]) ∧ CpS g sb w d rest k w') = Post;have HE := zH (show Post (.returned (.tuple #[.int .i64 (a : Int), .int .i64 (b : Int)])) w.drew by rw [← hPost]; exact ⟨rfl, HS.out.drew⟩);clear hPost e1 a0 h;go_enter Tryz.func132, Tryz.ntmps132
  go_upto_region 1 with fail
  refine gS (.take 0 (.take 1 (.take 2 (.take 3 (.take 4 (.take 5 (.take 6 (.take 7 (.step 8 (.nil)))))))))) (fun X => UAt X g d rest) (HU.out) ?_;refine gT (.slice (some ⟨g, 0, none⟩) n cap) ?_;refine gT (.int .i64 ((b : Nat) : Int)) ?_;refine gU (.pointer (some ⟨g, b, none⟩)) rfl (fun X hX => oe (by omega) rfl rfl rfl) ?_;refine gU (.int .u32 ((d[b]! : Nat) : Int)) rfl (fun X hX => qk hX (by rw [a2.out]; omega) rfl rfl) ?_;refine gT (.slice (some ⟨g, 0, none⟩) n cap) ?_;refine gT (.int .i64 ((a : Nat) : Int)) ?_;refine gU (.pointer (some ⟨g, a, none⟩)) rfl (fun X hX => oe (by omega) rfl rfl rfl) ?_;refine gU (.int .u32 ((d[a]! : Nat) : Int)) rfl (fun X hX => qk hX (by rw [a2.out]; omega) rfl rfl) ?_;refine b8 _ rfl (by rfl) 113 #[.int .u32 ((d[b]! : Nat) : Int), .int .u32 ((d[a]! : Nat) : Int)] (fun X => by go_simp) (fun u X => u = .bool false ∧ X = w.drew) ((fo _ _ _).mono fun e X ⟨e1, e2⟩ => ⟨_, e1, by rw [e2]; exact HU.out, by rw [a3.out], e2⟩) ?_;rintro u X8 a1 ⟨rfl, rfl⟩;refine ⟨_, fun _ h => h, a1, ?_⟩;clear a1; try simp only [pS]
  refine au ?_
  go_wp2_with fail
  first | exact HE.out | (go_ret2; exact HE.out) | (go_ret; exact HE.out)
theorem Lq {n : Nat} (ha : a < n) (hb : b < n) : (Sort.order2 ao d a b k).1 < n ∧ (Sort.order2 ao d a b k).2.1 < n ∧ (Sort.order2 ao d a b k).2.2 ≤ k + 1 := by
 unfold Sort.order2;split <;> exact ⟨by assumption, by assumption, by simp⟩
set_option maxRecDepth 100000 in
theorem Yc (g cap sb a b c k n : Nat) (d : Array Nat) (rest : List Value) (w : World) (h : CpS g sb w d rest k w) (hn : d.size = n) (hc : n ≤ cap) (ha : a < n) (hb : b < n) (hcn : c < n) (hk : k < 90) :
  Calls Tryz.prog 126 #[.slice (some ⟨g, 0, none⟩) n cap, .int .i64 (a : Int), .int .i64 (b : Int), .int .i64 (c : Int), .pointer (some ⟨sb, 0, none⟩)] w fun e w' => e = .returned (.int .i64 (((Sort.median ao d a b c k).1 : Nat) : Int)) ∧ CpS g sb w d rest (Sort.median ao d a b c k).2 w' := by
 have e0 : Sort.median ao d a b c k = ((Sort.order2 ao d (Sort.order2 ao d a b k).1 (Sort.order2 ao d (Sort.order2 ao d a b k).2.1 c (Sort.order2 ao d a b k).2.2).1 (Sort.order2 ao d (Sort.order2 ao d a b k).2.1 c (Sort.order2 ao d a b k).2.2).2.2).2.1, (Sort.order2 ao d (Sort.order2 ao d a b k).1 (Sort.order2 ao d (Sort.order2 ao d a b k).2.1 c (Sort.order2 ao d a b k).2.2).1 (Sort.order2 ao d (Sort.order2 ao d a b k).2.1 c (Sort.order2 ao d a b k).2.2).2.2).2.2) := rfl;rw [e0];have i1 := Lq (d := d) (k := k) ha hb;have c1 := A3 g cap sb a b k n d rest w h hn hc ha hb (by omega);obtain ⟨⟨x1, y1, k1⟩, a0⟩ : ∃ r, Sort.order2 ao d a b k = r := ⟨_, rfl⟩;rw [a0] at i1 c1 ⊢;simp only at i1 c1 ⊢;have i2 := Lq (d := d) (k := k1) i1.2.1 hcn;have c2 := fun W (hW : CpS g sb W d rest k1 W) => A3 g cap sb y1 c k1 n d rest W hW hn hc i1.2.1 hcn (by omega)
 obtain ⟨⟨x2, y2, k2⟩, a1⟩ : ∃ r, Sort.order2 ao d y1 c k1 = r := ⟨_, rfl⟩;rw [a1] at i2 c2 ⊢;simp only at i2 c2 ⊢;have c3 := fun W (hW : CpS g sb W d rest k2 W) => A3 g cap sb x1 x2 k2 n d rest W hW hn hc i1.1 i2.1 (by omega)
 obtain ⟨⟨x3, y3, k3⟩, a2⟩ : ∃ r, Sort.order2 ao d x1 x2 k2 = r := ⟨_, rfl⟩;rw [a2] at c3 ⊢;simp only at c3 ⊢;generalize hPost : (fun (e : Ending) (w' : World) => e = .returned (.int .i64 (y3 : Int)) ∧ CpS g sb w d rest k3 w') = Post;have a6 : Hid (∀ W, CpS g sb w d rest k3 W → Post (.returned (.int .i64 (y3 : Int))) W) := zH fun W h => by rw [← hPost]; exact ⟨rfl, h⟩
 have a3 := zH c1; have a4 := zH c2; have a5 := zH c3;clear hPost c1 c2 c3 a0 a1 a2 i1 i2 e0 h hn hc ha hb hcn hk;go_enter Tryz.func126, Tryz.ntmps126
 go_wp2_with fail
 refine a3.out.mono ?_;rintro e W1 ⟨rfl, h1⟩;have H1 := zH h1;clear h1
 go_wp2_with fail
 refine (a4.out W1 H1.out.start).mono ?_;rintro e W2 ⟨rfl, h2⟩;have H2 := zH (H1.out.trans h2);clear h2
 go_wp2_with fail
 refine (a5.out W2 H2.out.start).mono ?_;rintro e W3 ⟨rfl, h3⟩;have HE := zH (a6.out _ (H2.out.trans h3));clear h3
 go_wp2_with fail
 first | exact HE.out | (go_ret; exact HE.out)
theorem Db (a b k : Nat) : (Sort.order2 ao d a b k).2.2 ≤ k + 1 := by
 unfold Sort.order2;split <;> simp
theorem Tq (a b c : Nat) : (Sort.median ao d a b c 0).2 ≤ 3 := by
 unfold Sort.median;have h1 := Db (d := d) a b 0;have h2 := Db (d := d) (Sort.order2 ao d a b 0).2.1 c (Sort.order2 ao d a b 0).2.2;have h3 := Db (d := d) (Sort.order2 ao d a b 0).1 (Sort.order2 ao d (Sort.order2 ao d a b 0).2.1 c (Sort.order2 ao d a b 0).2.2).1 (Sort.order2 ao d (Sort.order2 ao d a b 0).2.1 c (Sort.order2 ao d a b 0).2.2).2.2;show (Sort.order2 ao d (Sort.order2 ao d a b 0).1 (Sort.order2 ao d (Sort.order2 ao d a b 0).2.1 c (Sort.order2 ao d a b 0).2.2).1 (Sort.order2 ao d (Sort.order2 ao d a b 0).2.1 c (Sort.order2 ao d a b 0).2.2).2.2).2.2 ≤ 3;omega
def zl : Sort.Hint → Nat
 | .unknown => 0
 | .increasing => 1
 | .decreasing => 2
theorem Ub (h8 : 8 ≤ b - a) (h50 : b - a < 50) : Sort.choosePivot ao d a b = ((Sort.median ao d (a + (b - a) / 4 * 1) (a + (b - a) / 4 * 2) (a + (b - a) / 4 * 3) 0).1, if (Sort.median ao d (a + (b - a) / 4 * 1) (a + (b - a) / 4 * 2) (a + (b - a) / 4 * 3) 0).2 = 0 then .increasing else .unknown) := by
 have hk : (Sort.median ao d (a + (b - a) / 4 * 1) (a + (b - a) / 4 * 2) (a + (b - a) / 4 * 3) 0).2 ≠ 12 := by
  have := Tq (d := d) (a + (b - a) / 4 * 1) (a + (b - a) / 4 * 2) (a + (b - a) / 4 * 3);omega
 unfold Sort.choosePivot;simp only;rw [if_pos h8, if_neg (by omega)];rw [if_neg hk]
set_option maxRecDepth 100000 in
set_option maxHeartbeats 4000000 in
theorem Yt (g cap a b n : Nat) (d : Array Nat) (rest : List Value) (w : World) (hU : UAt w g d rest) (hn : d.size = n) (hc : n ≤ cap) (h8 : 8 ≤ b - a) (h50 : b - a < 50) (hb : b ≤ n) (h64 : n ≤ 64) :
  Calls Tryz.prog 110 #[.slice (some ⟨g, 0, none⟩) n cap, .int .i64 (a : Int), .int .i64 (b : Int)] w fun e w' => e = .returned (.tuple #[.int .i64 (((Sort.choosePivot ao d a b).1 : Nat) : Int), .int .i64 ((zl (Sort.choosePivot ao d a b).2 : Nat) : Int)]) ∧ SoW g w d rest w' := by
 rw [Ub h8 h50];obtain ⟨L, hL⟩ : ∃ L, b - a = L := ⟨_, rfl⟩;obtain ⟨q, hq⟩ : ∃ q, L / 4 = q := ⟨_, rfl⟩;obtain ⟨q2, ab⟩ : ∃ x, q * 2 = x := ⟨_, rfl⟩;obtain ⟨q3, ad⟩ : ∃ x, q * 3 = x := ⟨_, rfl⟩;obtain ⟨s1, ae⟩ : ∃ x, a + q = x := ⟨_, rfl⟩;obtain ⟨s2, af⟩ : ∃ x, a + q2 = x := ⟨_, rfl⟩;obtain ⟨s3, ag⟩ : ∃ x, a + q3 = x := ⟨_, rfl⟩;rw [hL, hq, Nat.mul_one, ab, ad, ae, af, ag];have a4 := Blk.lt hU;have a1 : CpS g w.heap.size w d rest 0 (w.alloc (.cells #[.int .i64 0] 3)) := ⟨Blk.alloc hU _, Blk.new w [.int .i64 0] 3, by omega, (Chg.refl _ w).alloc _⟩;have a0 := fun W (hW : CpS g w.heap.size W d rest 0 W) => Yc g cap w.heap.size s1 s2 s3 0 n d rest W hW hn hc (by omega) (by omega) (by omega) (by omega)
 obtain ⟨⟨m, k⟩, hm⟩ : ∃ r, Sort.median ao d s1 s2 s3 0 = r := ⟨_, rfl⟩;rw [hm] at a0 ⊢;simp only at a0 ⊢;obtain ⟨sb, a5⟩ : ∃ r, w.heap.size = r := ⟨_, rfl⟩;rw [a5] at a1 a0 a4;have a8 := zH a5;have a6 := zH a1; have a3 := zH a0; have HQ := zH hq;have HB : Hid (8 ≤ L ∧ L < 50 ∧ a + L ≤ n ∧ n ≤ 64) := zH ⟨by omega, by omega, by omega, h64⟩;have ap : (b : Int) - (a : Int) = (L : Int) := by omega
 have aq := IntWalk.i64_in ((L : Int)) (by omega);have wq := IntWalk.i64_in ((q : Int)) (by omega);have aw : (q : Int) * 2 = (q2 : Int) := by omega
 have ak := IntWalk.i64_in ((q2 : Int)) (by omega);have ax : (q : Int) * 3 = (q3 : Int) := by omega
 have al := IntWalk.i64_in ((q3 : Int)) (by omega);have ar : (a : Int) + (q : Int) = (s1 : Int) := by omega
 have ah := IntWalk.i64_in ((s1 : Int)) (by omega);have au : (a : Int) + (q2 : Int) = (s2 : Int) := by omega
 have ai := IntWalk.i64_in ((s2 : Int)) (by omega);have av : (a : Int) + (q3 : Int) = (s3 : Int) := by omega
 have aj := IntWalk.i64_in ((s3 : Int)) (by omega);have j8 : (8 : Int) ≤ (L : Int) := by omega
 have an : ¬ (50 : Int) ≤ (L : Int) := by omega
 have a2 : Hid (k < 12) := zH (by
  have := Tq (d := d) s1 s2 s3;rw [hm] at this;simp only at this
  omega)
 generalize hPost : (fun (e : Ending) (w' : World) => e = .returned (.tuple #[.int .i64 (m : Int), .int .i64 ((zl (if k = 0 then .increasing else .unknown) : Nat) : Int)]) ∧ SoW g w d rest w') = Post;have a7 : Hid (∀ W v, v = zl (if k = 0 then .increasing else .unknown) → SoW g w d rest W → Post (.returned (.tuple #[.int .i64 (m : Int), .int .i64 ((v : Nat) : Int)])) W) := zH fun W v e h => by rw [← hPost, e]; exact ⟨rfl, h⟩
 have am : Hid (sb ≠ g ∧ g < sb) := zH ⟨by omega, a4⟩;clear hPost hU hn hc hb h64 h8 h50 hL hq ab ad ae af ag a1 a0 hm a5 a4;go_enter Tryz.func110, Tryz.ntmps110
 go_upto_region 3 with fail
 refine (fun (k' : ∀ W, CpS g sb w d rest 0 W → Code.wp _ _ _ _ W) => k' _ a6.out) ?_;intro W1 hW1
 (try rw [a8.out])
 have H1 := zH hW1;clear hW1 a6
 go_wp2_with (first | (refine a9 rfl (oh (b := 4) HQ.out (by omega) (by have := HB.out; omega) rfl rfl rfl) ?_) | fail)
 refine (a3.out W1 H1.out.start).mono ?_;rintro e W2 ⟨rfl, h2⟩;have H2 := zH (H1.out.trans h2);have c0 := H2.out.ct.cell (j := 0) rfl;have aa : Hid (SoW g w d rest W2) := zH ⟨H2.out.at_, (Chg.refl (fun x => x = g) w).trans H2.out.chg (fun i hi => .inr (by rw [hi, a8.out]; exact Nat.le_refl _))⟩;clear h2 a3;by_cases hk : k = 0
 ·have HE := zH (a7.out W2 1 (by rw [if_pos hk]; rfl) aa.out)
  subst hk
  go_wp2_with fail
  first | exact HE.out | (go_ret2; exact HE.out) | (go_ret; exact HE.out)
 ·have HE := zH (a7.out W2 0 (by rw [if_neg hk]; rfl) aa.out)
  have j1 : ((k : Int) == 0) = false := (by simp; omega);have j2 : ((k : Int) == 12) = false := (by have := a2.out; simp; omega);have j3 : ¬ (k : Int) = 0 := (by omega);have j4 : ¬ (k : Int) = 12 := (by have := a2.out; omega)
  go_wp2_with fail
  first | exact HE.out | (go_ret2; exact HE.out) | (go_ret; exact HE.out)
theorem a2b (h : i + 1 < b) (hl : ao d[i + 1]! d[i]! = false) : Sort.scanSorted ao d b (i + 1) = Sort.scanSorted ao d b (i + 1 + 1) := by
 rw [Sort.scanSorted, Nat.add_sub_cancel, hl];simp [h]
theorem Zb (hl : ao d[i + 1]! d[i]! = true) : Sort.scanSorted ao d b (i + 1) = i + 1 := by
 rw [Sort.scanSorted, Nat.add_sub_cancel, hl];simp
theorem a1k (h : ¬ i < b) : Sort.scanSorted ao d b i = i := by
 rw [Sort.scanSorted];simp [h]
theorem ut (h50 : b - a < 50) : Sort.partialInsertionSort ao d a b = (d, decide (Sort.scanSorted ao d b (a + 1) = b)) := by
 unfold Sort.partialInsertionSort;rw [Sort.partialIns];simp only;by_cases h : Sort.scanSorted ao d b (a + 1) = b
 ·rw [if_pos h, decide_eq_true h]
 ·rw [if_neg h, if_pos h50, decide_eq_false h]
set_option maxRecDepth 100000 in
set_option maxHeartbeats 4000000 in
theorem Ua (g cap a b n : Nat) (d : Array Nat) (rest : List Value) (w : World) (hU : UAt w g d rest) (hn : d.size = n) (hc : n ≤ cap) (hab : a < b) (h50 : b - a < 50) (hb : b ≤ n) (h64 : n ≤ 64) :
  Calls Tryz.prog 112 #[.slice (some ⟨g, 0, none⟩) n cap, .int .i64 (a : Int), .int .i64 (b : Int)] w fun e w' => e = .returned (.bool (Sort.partialInsertionSort ao d a b).2) ∧ SoW g w d rest w' := by
 rw [ut h50];obtain ⟨I, hI⟩ : ∃ I, Sort.scanSorted ao d b (a + 1) = I := ⟨_, rfl⟩;rw [hI];have HI := zH hI;generalize hPost : (fun (e : Ending) (w' : World) => e = .returned (.bool (decide (I = b))) ∧ SoW g w d rest w') = Post;have a7 : Hid (∀ W v, decide (I = b) = v → SoW g w d rest W → Post (.returned (.bool v)) W) := zH fun W v e h => by rw [← hPost, ← e]; exact ⟨rfl, h⟩
 have a3 := zH hn; have HC : Hid (n ≤ cap) := zH hc; have HB : Hid (a < b ∧ b - a < 50 ∧ b ≤ n ∧ n ≤ 64) := zH ⟨hab, h50, hb, h64⟩;have a0 := zH (SoW.start hU);have ak := IntWalk.i64_in ((a : Int) + 1) (by omega);obtain ⟨L, hL⟩ : ∃ L, b - a = L := ⟨_, rfl⟩;have am : (b : Int) - (a : Int) = (L : Int) := by omega
 have ae := IntWalk.i64_in ((L : Int)) (by omega);have aj : (L : Int) < 50 := by omega
 clear hPost hU hn hc hab hb h64 h50 hL hI;go_enter Tryz.func112, Tryz.ntmps112
 go_wp2_with fail
 go_loopw [7, 8] (fun i j wr => i = .int .i64 (((a + 1 : Nat)) : Int) ∧ j = .int .i64 0 ∧ SoW g w d rest wr) (fun _ _ _ => 0)
 case atStart => exact ⟨by first | rfl | go_num, rfl, a0.out⟩
 case round =>
  clear a0;obtain ⟨rfl, rfl, hs⟩ := hrel;have a0 := zH hs;clear hs
  go_wp2_with fail
  go_loopw [7] (fun i wr => ∃ m : Nat, i = .int .i64 ((m + 1 : Nat) : Int) ∧ a ≤ m ∧ m + 1 ≤ b ∧ Sort.scanSorted ao d b (m + 1) = I ∧ SoW g w d rest wr) (fun i _ => b + 1 - (intOf i).toNat)
  case atStart => exact ⟨a, by first | rfl | go_num, by omega, by have := HB.out; omega, HI.out, a0.out⟩
  case round =>
   clear a0 HI;obtain ⟨m, rfl, ah, ai, a9, hs⟩ := hrel;have a4 := zH a9; have HS := zH hs;have HU : Hid (UAt wr.drew g d rest) := zH hs.drew.at_;clear a9 hs;have af := HB.out;have ag := HC.out;by_cases hlt : m + 1 < b
   ·obtain ⟨mm, a1⟩ : ∃ mm, ao d[m + 1]! d[m]! = mm := ⟨_, rfl⟩
    have a6 := zH a1;cases mm
    case false =>
     have a5 : Hid (Sort.scanSorted ao d b (m + 1 + 1) = I) := zH (by rw [← a4.out]; exact (a2b hlt a1).symm);have al := IntWalk.i64_in (((m + 1 : Nat) : Int) + 1) (by omega);have ad := IntWalk.i64_in ((m : Int) + 1 + 1) (by omega);clear a1
     go_upto_region 5 with fail
     refine gS (.take 0 (.take 1 (.take 2 (.take 3 (.take 4 (.take 5 (.take 6 (.take 7 (.take 8 (.take 9 (.take 10 (.take 11 (.take 12 (.step 13 (.take 14 (.take 15 (.nil))))))))))))))))) (fun X => UAt X g d rest) (HU.out) ?_;refine gT (.int .i64 ((m + 1 : Nat) : Int)) ?_;refine gT (.int .i64 ((b : Nat) : Int)) ?_;refine gU (.bool true) rfl (fun X hX => Cl (by first | (simp; done) | (simp; omega)) rfl rfl rfl) ?_;refine gT (.bool true) ?_;refine gT (.slice (some ⟨g, 0, none⟩) n cap) ?_;refine gT (.int .i64 ((m + 1 : Nat) : Int)) ?_;refine gU (.pointer (some ⟨g, (m + 1), none⟩)) rfl (fun X hX => oe (by omega) rfl rfl rfl) ?_;refine gU (.int .u32 ((d[(m + 1)]! : Nat) : Int)) rfl (fun X hX => qk hX (by rw [a3.out]; omega) rfl rfl) ?_;refine gT (.slice (some ⟨g, 0, none⟩) n cap) ?_;refine gT (.int .i64 ((m + 1 : Nat) : Int)) ?_;refine gU (.int .i64 ((m : Nat) : Int)) rfl (fun X hX => Ek (by omega) (by omega) rfl rfl rfl) ?_;refine gU (.pointer (some ⟨g, m, none⟩)) rfl (fun X hX => oe (by omega) rfl rfl rfl) ?_;refine gU (.int .u32 ((d[m]! : Nat) : Int)) rfl (fun X hX => qk hX (by rw [a3.out]; omega) rfl rfl) ?_;refine b8 _ rfl (by rfl) 113 #[.int .u32 ((d[m + 1]! : Nat) : Int), .int .u32 ((d[m]! : Nat) : Int)] (fun X => by go_simp) (fun u X => u = .bool false ∧ X = wr.drew) ((fo _ _ _).mono fun e X ⟨e1, e2⟩ => ⟨_, e1, by rw [e2]; exact HU.out, by rw [a6.out], e2⟩) ?_;rintro u X8 a2 ⟨rfl, rfl⟩;refine ⟨_, fun _ h => h, a2, ?_⟩;clear a2; try simp only [pS]
     refine gT (.bool true) ?_;refine gT (.bool true) ?_;refine au ?_;clear HU
     go_wp2_with fail
     go_roundw
     case rel => exact ⟨m + 1, by go_num, by omega, by omega, a5.out, HS.out.drew⟩
     case measure => first | (simp [intOf]; done) | (simp [intOf]; omega)
    case true =>
     have hI : I = m + 1 := (by rw [← a4.out]; exact Zb a1);have HE := zH (a7.out wr.drew false (by rw [decide_eq_false]; omega) HS.out.drew);have j1 : ((m : Int) + 1 == (b : Int)) = false := (by simp; omega);have aa : ¬ (m : Int) + 1 = (b : Int) := (by omega);have ab : decide ((m : Int) + 1 = (b : Int)) = false := (by simp; omega);clear a1 hI
     go_upto_region 5 with fail
     refine gS (.take 0 (.take 1 (.take 2 (.take 3 (.take 4 (.take 5 (.take 6 (.take 7 (.take 8 (.take 9 (.take 10 (.take 11 (.take 12 (.step 13 (.take 14 (.take 15 (.nil))))))))))))))))) (fun X => UAt X g d rest) (HU.out) ?_;refine gT (.int .i64 ((m + 1 : Nat) : Int)) ?_;refine gT (.int .i64 ((b : Nat) : Int)) ?_;refine gU (.bool true) rfl (fun X hX => Cl (by first | (simp; done) | (simp; omega)) rfl rfl rfl) ?_;refine gT (.bool true) ?_;refine gT (.slice (some ⟨g, 0, none⟩) n cap) ?_;refine gT (.int .i64 ((m + 1 : Nat) : Int)) ?_;refine gU (.pointer (some ⟨g, (m + 1), none⟩)) rfl (fun X hX => oe (by omega) rfl rfl rfl) ?_;refine gU (.int .u32 ((d[(m + 1)]! : Nat) : Int)) rfl (fun X hX => qk hX (by rw [a3.out]; omega) rfl rfl) ?_;refine gT (.slice (some ⟨g, 0, none⟩) n cap) ?_;refine gT (.int .i64 ((m + 1 : Nat) : Int)) ?_;refine gU (.int .i64 ((m : Nat) : Int)) rfl (fun X hX => Ek (by omega) (by omega) rfl rfl rfl) ?_;refine gU (.pointer (some ⟨g, m, none⟩)) rfl (fun X hX => oe (by omega) rfl rfl rfl) ?_;refine gU (.int .u32 ((d[m]! : Nat) : Int)) rfl (fun X hX => qk hX (by rw [a3.out]; omega) rfl rfl) ?_;refine b8 _ rfl (by rfl) 113 #[.int .u32 ((d[m + 1]! : Nat) : Int), .int .u32 ((d[m]! : Nat) : Int)] (fun X => by go_simp) (fun u X => u = .bool true ∧ X = wr.drew) ((fo _ _ _).mono fun e X ⟨e1, e2⟩ => ⟨_, e1, by rw [e2]; exact HU.out, by rw [a6.out], e2⟩) ?_;rintro u X8 a2 ⟨rfl, rfl⟩;refine ⟨_, fun _ h => h, a2, ?_⟩;clear a2; try simp only [pS]
     refine gT (.bool false) ?_;refine gT (.bool false) ?_;refine au ?_
     go_wp2_with fail
     first | exact HE.out | (go_end0; exact HE.out) | (go_ret; exact HE.out)
   ·have a8 : m + 1 = b := by omega
    have hI : I = b := (by rw [← a4.out, a1k hlt, a8]);have HE := zH (a7.out wr.drew true (by rw [decide_eq_true hI]) HS.out.drew);have j1 : ((m : Int) + 1 == (b : Int)) = true := (by simp; omega);have aa : (m : Int) + 1 = (b : Int) := (by omega);clear hI a8
    go_upto_region 5 with fail
    refine gS (.take 0 (.take 1 (.take 2 (.take 3 (.take 4 (.take 5 (.take 6 (.take 7 (.take 8 (.take 9 (.take 10 (.take 11 (.take 12 (.step 13 (.take 14 (.take 15 (.nil))))))))))))))))) (fun X => UAt X g d rest) (HU.out) ?_;refine gT (.int .i64 ((m + 1 : Nat) : Int)) ?_;refine gT (.int .i64 ((b : Nat) : Int)) ?_;refine gU (.bool false) rfl (fun X hX => Cl (by first | (simp; done) | (simp; omega)) rfl rfl rfl) ?_;refine gT (.bool false) ?_;refine gP ?_;refine gP ?_;refine gP ?_;refine gP ?_;refine gP ?_;refine gP ?_;refine gP ?_;refine gP ?_;refine gP ?_;refine jz _ rfl (by rfl) (HU.out) ?_; try simp only [pS]
    refine gP ?_;refine gT (.bool false) ?_;refine au ?_
    go_wp2_with fail
    first | exact HE.out | (go_end0; exact HE.out) | (go_ret; exact HE.out)
end Go.Proofs.YtjgjohdeeeoeoaaGreatDoor
