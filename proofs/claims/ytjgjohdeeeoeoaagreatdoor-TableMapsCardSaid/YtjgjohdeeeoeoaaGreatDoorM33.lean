/- partitionEqual at uint32. -/
import Derived.Test.YtjgjohdeeeoeoaaGreatDoorM32
import Derived.Sort.LotD5
import Derived.Laws.Bits64
import Derived.Laws.Bits64b
import Derived.Sort.Row
namespace Go.Proofs.YtjgjohdeeeoeoaaGreatDoor
open Go.RowKit
attribute [local go_sem] Oper.semAt_some
set_option maxRecDepth 100000 in
set_option maxHeartbeats 16000000 in
theorem Ws (g cap a b p n : Nat) (d : Array Nat) (rest : List Value) (w : World) (hU : UAt w g d rest) (hn : d.size = n) (hc : n ≤ cap) (hap : a ≤ p) (hpb : p < b) (hb : b ≤ n) (h64 : n ≤ 64) :
  Calls Tryz.prog 114 #[.slice (some ⟨g, 0, none⟩) n cap, .int .i64 (a : Int), .int .i64 (b : Int), .int .i64 (p : Int)] w (Ut g (Sort.partitionEqual ao d a b p).1 (Sort.partitionEqual ao d a b p).2 rest w) := by
 obtain ⟨R, hR⟩ : ∃ R, Sort.partitionEqual ao d a b p = R := ⟨_, rfl⟩;rw [hR];obtain ⟨b1, rfl⟩ : ∃ b1, b = b1 + 1 := ⟨b - 1, by omega⟩;have HR : Hid (Sort.partEqLoop ao a (a + 1) b1 (Sort.swp d a p) = R) := zH hR;generalize hPost : Ut g R.1 R.2 rest w = Post;have ak : Hid (∀ (m : Nat) (e : Array Nat) (W : World), R = (m, e) → SoW g w e rest W → Post (.returned (.int .i64 (m : Int))) W) := zH fun m e W hr h => by rw [← hPost, hr]; exact ⟨rfl, h⟩
 have HN := zH hn; have HC : Hid (n ≤ cap) := zH hc; have HB : Hid (a ≤ p ∧ p < b1 + 1 ∧ b1 + 1 ≤ n ∧ n ≤ 64) := zH ⟨hap, hpb, hb, h64⟩;have HS := zH (SoW.start hU);have ay : ((b1 + 1 : Nat) : Int) - 1 = (b1 : Int) := by omega
 have aw : (b1 : Int) + 1 - 1 = (b1 : Int) := by omega
 have b4 := IntWalk.i64_in ((b1 : Int)) (by omega);have av := IntWalk.i64_in ((a : Int) + 1) (by omega);have b7 := HC.out;have HU : Hid (UAt w.drew g d rest) := zH HS.out.drew.at_;have b9 := HB.out;clear hR hPost hU hn hc hap hpb hb h64;go_enter Tryz.func114, Tryz.ntmps114
 go_upto_region 1 with fail
 have q1 := HS.out.at_.cell (k := a) (by rw [HN.out]; omega); have q2 := HS.out.at_.cell (k := p) (by rw [HN.out]; omega); have q3 := Blk.free HS.out.at_ (a); have q4 := Blk.free HS.out.at_ (p);obtain ⟨v5, q5⟩ := cell?_setCell_some (p := ⟨g, a, none⟩) (x := .int .u32 ((d[p]! : Nat) : Int)) q2
 go_region
 refine fl (S := fun W => SoW g w (Sort.swp d (a) (p)) rest W) ((HS.out.drewN _).swap (i := a) (j := p) (by rw [HN.out]; omega) (by rw [HN.out]; omega)) fun W9 hs2 => ?_
 have af := zH hs2;clear hs2 q1 q2 q3 q4 q5 v5;obtain ⟨d1, ae⟩ : ∃ x, Sort.swp d a p = x := ⟨_, rfl⟩;rw [ae] at af;have b6 := zH ae;have a9 : Hid (Sort.partEqLoop ao a (a + 1) b1 d1 = R) := zH (by rw [← ae]; exact HR.out);have ab : Hid (d1.size = n) := zH (by rw [← ae, c8]; exact HN.out);clear ae HU HS HR
 go_wp2_with fail
 go_loopw [9, 10] (fun i j wr => ∃ (ki kj : Nat) (dk : Array Nat), i = .int .i64 (ki : Int) ∧ j = .int .i64 (kj : Int) ∧ a < ki ∧ ki ≤ kj + 2 ∧ kj ≤ b1 ∧ dk.size = n ∧ Sort.partEqLoop ao a ki kj dk = R ∧ SoW g w dk rest wr) (fun _ j _ => (intOf j).toNat)
 case atStart => exact ⟨a + 1, b1, d1, by go_num, by go_num, by omega, by omega, by omega, ab.out, a9.out, af.out⟩
 case round =>
  clear af a9 ab;obtain ⟨k0, l0, dk, rfl, rfl, h1, h2, h3, an, ap, hs⟩ := hrel;have a2 := zH an; have a9 := zH ap; have ar := zH hs;obtain ⟨i3, aj⟩ : ∃ x, Sort.scanUp (qU dk a) dk l0 k0 = x := ⟨_, rfl⟩;have am := zH aj;have a7 := zH aj;have aq : Hid (k0 ≤ l0 + 2 ∧ l0 + 1 ≤ n ∧ n ≤ cap ∧ n ≤ 64) := zH ⟨h2, by omega, by omega, by omega⟩;clear an ap hs aj
  go_wp2_with fail
  go_loopw [9] (fun i wr => ∃ (ki : Nat), i = .int .i64 (ki : Int) ∧ k0 ≤ ki ∧ ki ≤ l0 + 2 ∧ Sort.scanUp (qU dk a) dk l0 ki = i3 ∧ SoW g w dk rest wr) (fun i _ => l0 + 3 - (intOf i).toNat)
  case atStart => exact ⟨k0, by first | rfl | go_num, by omega, by have := aq.out; omega, am.out, ar.out⟩
  case round =>
   clear ar am;obtain ⟨ki, rfl, b3, b8, ad, hs⟩ := hrel;have a5 := zH ad; have HS := zH hs;have HU : Hid (UAt wr.drew g dk rest) := zH hs.drew.at_;clear ad hs;have az := aq.out;by_cases hij : ki ≤ l0
   ·obtain ⟨mm, a3⟩ : ∃ mm, ao dk[a]! dk[ki]! = mm := ⟨_, rfl⟩
    have ag := zH a3;cases mm
    case false =>
     have a8 : Hid (Sort.scanUp (qU dk a) dk l0 (ki + 1) = i3) := zH (by rw [← a5.out, Js hij (by unfold qU; rw [a3] <;> rfl)]);have ax := IntWalk.i64_in ((ki : Int) + 1) (by omega);clear a3
     go_upto_region 3 with fail
     have q1 := HS.out.at_.cell (k := a) (by rw [a2.out]; omega); have q2 := HS.out.at_.cell (k := ki) (by rw [a2.out]; omega)
     go_big_quiet (first | (go_at_call 113; refine Calls.quiet_of_same (cy ag.out _)))
     have a0 := HS.out.drewN nq;generalize wr.drewN nq = W8 at a0 ⊢;have a1 := zH a0;clear a0 HU q1 q2
     go_wp2_with fail
     go_roundw
     case rel => exact ⟨ki + 1, by go_num, by omega, by omega, a8.out, a1.out⟩
     case measure => first | (simp [intOf]; done) | (simp [intOf]; omega)
    case true =>
     obtain rfl : i3 = ki := a5.out.symm.trans (yi (by unfold qU; rw [a3] <;> rfl));clear a3
     go_upto_region 3 with fail
     have q1 := HS.out.at_.cell (k := a) (by rw [a2.out]; omega); have q2 := HS.out.at_.cell (k := i3) (by rw [a2.out]; omega)
     go_big_quiet (first | (go_at_call 113; refine Calls.quiet_of_same (cy ag.out _)))
     have a0 := HS.out.drewN nq;generalize wr.drewN nq = W8 at a0 ⊢;have a1 := zH a0;clear a0 HU q1 q2;have HS := zH a1.out;obtain ⟨j3, ai⟩ : ∃ x, Sort.scanDown (qD dk a) dk i3 l0 = x := ⟨_, rfl⟩;have al := zH ai;have a6 := zH ai;clear ai a5
     go_wp2_with fail
     go_loopw [10] (fun j wr => ∃ (kj : Nat), j = .int .i64 (kj : Int) ∧ kj ≤ l0 ∧ Sort.scanDown (qD dk a) dk i3 kj = j3 ∧ SoW g w dk rest wr) (fun j _ => (intOf j).toNat)
     case atStart => exact ⟨l0, by first | rfl | go_num, by omega, al.out, HS.out⟩
     case round =>
      clear HS al;obtain ⟨kj, rfl, b0, ad, hs⟩ := hrel;have a5 := zH ad; have HS := zH hs;have HU : Hid (UAt wr.drew g dk rest) := zH hs.drew.at_;clear ad hs;by_cases hij2 : i3 ≤ kj
      ·obtain ⟨mm, a3⟩ : ∃ mm, ao dk[a]! dk[kj]! = mm := ⟨_, rfl⟩
       have ag := zH a3;cases mm
       case true =>
        obtain ⟨ah, aa⟩ : ∃ ah, kj = ah + 1 := ⟨kj - 1, by omega⟩;have a8 : Hid (Sort.scanDown (qD dk a) dk i3 ah = j3) := zH (by rw [← a5.out, aa, Cj (by omega) (by rw [← aa]; unfold qD; rw [a3] <;> rfl)]);have ax := IntWalk.i64_in ((kj : Int) - 1) (by omega);clear a3
        go_upto_region 5 with fail
        have q1 := HS.out.at_.cell (k := a) (by rw [a2.out]; omega); have q2 := HS.out.at_.cell (k := kj) (by rw [a2.out]; omega);have au := zH aa; clear aa
        go_big_quiet (first | (go_at_call 113; refine Calls.quiet_of_same (cy ag.out _)))
        have a0 := HS.out.drewN nq;generalize wr.drewN nq = W8 at a0 ⊢;have a1 := zH a0;clear a0 HU q1 q2
        go_wp2_with fail
        go_roundw
        case rel => have aa := au.out; exact ⟨ah, by go_num, by omega, a8.out, a1.out⟩
        case measure => have aa := au.out; first | (simp [intOf]; done) | (simp [intOf]; omega)
       case false =>
        obtain rfl : j3 = kj := a5.out.symm.trans (uv (by unfold qD; rw [a3] <;> rfl));clear a3
        go_upto_region 5 with fail
        have q1 := HS.out.at_.cell (k := a) (by rw [a2.out]; omega); have q2 := HS.out.at_.cell (k := j3) (by rw [a2.out]; omega)
        go_big_quiet (first | (go_at_call 113; refine Calls.quiet_of_same (cy ag.out _)))
        have a0 := HS.out.drewN nq;generalize wr.drewN nq = W8 at a0 ⊢;have a1 := zH a0;clear a0 HU q1 q2;have HS := zH a1.out;have HU : Hid (UAt W8.drew g dk rest) := zH HS.out.drew.at_;have a4 : Hid (Sort.partEqLoop ao a (i3 + 1) (j3 - 1) (Sort.swp dk i3 j3) = R) := zH (by rw [← a9.out]; exact (Zy a7.out a6.out (by omega) (by omega) (by omega) (by omega)).symm);have b5 := IntWalk.i64_in ((i3 : Int) + 1) (by omega);have b2 := IntWalk.i64_in ((j3 : Int) - 1) (by omega)
        go_upto_region 8 with fail
        have q1 := HS.out.at_.cell (k := i3) (by rw [a2.out]; omega); have q2 := HS.out.at_.cell (k := j3) (by rw [a2.out]; omega); have q3 := Blk.free HS.out.at_ (i3); have q4 := Blk.free HS.out.at_ (j3);obtain ⟨v5, q5⟩ := cell?_setCell_some (p := ⟨g, i3, none⟩) (x := .int .u32 ((dk[j3]! : Nat) : Int)) q2
        go_region
        refine fl (S := fun W => SoW g w (Sort.swp dk (i3) (j3)) rest W) ((HS.out.drewN _).swap (i := i3) (j := j3) (by rw [a2.out]; omega) (by rw [a2.out]; omega)) fun W9 hs2 => ?_
        have af := zH hs2;clear hs2 q1 q2 q3 q4 q5 v5;clear HU
        go_wp2_with fail
        go_roundw
        case rel => exact ⟨i3 + 1, j3 - 1, _, by go_num, by go_num, by omega, by omega, by omega, by rw [c8]; exact a2.out, a4.out, af.out⟩
        case measure => first | (simp [intOf]; done) | (simp [intOf]; omega)
      ·obtain rfl : j3 = kj := a5.out.symm.trans (ot hij2)
       go_upto_region 5 with fail
       go_big_quiet (first | (go_at_call 113; refine Calls.quiet_of_same (cy (by assumption) _)))
       have a0 := HS.out.drewN nq;generalize wr.drewN nq = W8 at a0 ⊢;have a1 := zH a0;clear a0 HU;have HS := zH a1.out;have a4 : Hid (R = (i3, dk)) := zH (by rw [← a9.out]; exact Cr a7.out a6.out (by omega));have HE := zH (ak.out _ _ _ a4.out HS.out)
       go_wp2_with fail
       first | exact HE.out | (go_end0; exact HE.out) | (go_ret; exact HE.out)
   ·obtain rfl : i3 = ki := a5.out.symm.trans (Cv hij)
    go_upto_region 3 with fail
    go_big_quiet (first | (go_at_call 113; refine Calls.quiet_of_same (cy (by assumption) _)))
    have a0 := HS.out.drewN nq;generalize wr.drewN nq = W8 at a0 ⊢;have a1 := zH a0;clear a0 HU;have HS := zH a1.out;have a6 : Hid (Sort.scanDown (qD dk a) dk i3 l0 = l0) := zH (ot hij);clear a5
    go_wp2_with fail
    go_loopw [10] (fun j wr => j = .int .i64 (l0 : Int) ∧ SoW g w dk rest wr) (fun _ _ => 0)
    case atStart => exact ⟨by first | rfl | go_num, HS.out⟩
    case round =>
     clear HS;obtain ⟨rfl, hs⟩ := hrel;have HS := zH hs;have HU : Hid (UAt wr.drew g dk rest) := zH hs.drew.at_;clear hs
     go_upto_region 5 with fail
     go_big_quiet (first | (go_at_call 113; refine Calls.quiet_of_same (cy (by assumption) _)))
     have a0 := HS.out.drewN nq;generalize wr.drewN nq = W8 at a0 ⊢;have a1 := zH a0;clear a0 HU;have HS := zH a1.out;have a4 : Hid (R = (i3, dk)) := zH (by rw [← a9.out]; exact Cr a7.out a6.out (by omega));have HE := zH (ak.out _ _ _ a4.out HS.out)
     go_wp2_with fail
     first | exact HE.out | (go_end0; exact HE.out) | (go_ret; exact HE.out)
set_option maxRecDepth 100000 in
theorem U6 (w : World) : Calls Tryz.prog 103 #[.int .u64 0] w fun e w' => e = .returned (.int .i64 0) ∧ w = w' := by
 go_enter Tryz.func103, Tryz.ntmps103
 go_wp2
 first | (go_ret; exact ⟨by kernel_rfl, rfl⟩) | exact ⟨by kernel_rfl, rfl⟩
set_option maxRecDepth 100000 in
theorem Vs (w : World) : Calls Tryz.prog 103 #[.int .u64 1] w fun e w' => e = .returned (.int .i64 1) ∧ w = w' := by
 go_enter Tryz.func103, Tryz.ntmps103
 go_wp2
 first | (go_ret; exact ⟨by kernel_rfl, rfl⟩) | exact ⟨by kernel_rfl, rfl⟩
set_option maxRecDepth 100000 in
theorem So (w : World) : Calls Tryz.prog 103 #[.int .u64 2] w fun e w' => e = .returned (.int .i64 2) ∧ w = w' := by
 go_enter Tryz.func103, Tryz.ntmps103
 go_wp2
 first | (go_ret; exact ⟨by kernel_rfl, rfl⟩) | exact ⟨by kernel_rfl, rfl⟩
set_option maxRecDepth 100000 in
theorem Tl (w : World) : Calls Tryz.prog 103 #[.int .u64 3] w fun e w' => e = .returned (.int .i64 2) ∧ w = w' := by
 go_enter Tryz.func103, Tryz.ntmps103
 go_wp2
 first | (go_ret; exact ⟨by kernel_rfl, rfl⟩) | exact ⟨by kernel_rfl, rfl⟩
set_option maxRecDepth 100000 in
theorem Ua (w : World) : Calls Tryz.prog 103 #[.int .u64 4] w fun e w' => e = .returned (.int .i64 3) ∧ w = w' := by
 go_enter Tryz.func103, Tryz.ntmps103
 go_wp2
 first | (go_ret; exact ⟨by kernel_rfl, rfl⟩) | exact ⟨by kernel_rfl, rfl⟩
set_option maxRecDepth 100000 in
theorem T4 (w : World) : Calls Tryz.prog 103 #[.int .u64 5] w fun e w' => e = .returned (.int .i64 3) ∧ w = w' := by
 go_enter Tryz.func103, Tryz.ntmps103
 go_wp2
 first | (go_ret; exact ⟨by kernel_rfl, rfl⟩) | exact ⟨by kernel_rfl, rfl⟩
set_option maxRecDepth 100000 in
theorem Rn (w : World) : Calls Tryz.prog 103 #[.int .u64 6] w fun e w' => e = .returned (.int .i64 3) ∧ w = w' := by
 go_enter Tryz.func103, Tryz.ntmps103
 go_wp2
 first | (go_ret; exact ⟨by kernel_rfl, rfl⟩) | exact ⟨by kernel_rfl, rfl⟩
set_option maxRecDepth 100000 in
theorem Rk (w : World) : Calls Tryz.prog 103 #[.int .u64 7] w fun e w' => e = .returned (.int .i64 3) ∧ w = w' := by
 go_enter Tryz.func103, Tryz.ntmps103
 go_wp2
 first | (go_ret; exact ⟨by kernel_rfl, rfl⟩) | exact ⟨by kernel_rfl, rfl⟩
set_option maxRecDepth 100000 in
theorem Qt (w : World) : Calls Tryz.prog 103 #[.int .u64 8] w fun e w' => e = .returned (.int .i64 4) ∧ w = w' := by
 go_enter Tryz.func103, Tryz.ntmps103
 go_wp2
 first | (go_ret; exact ⟨by kernel_rfl, rfl⟩) | exact ⟨by kernel_rfl, rfl⟩
set_option maxRecDepth 100000 in
theorem Sn (w : World) : Calls Tryz.prog 103 #[.int .u64 9] w fun e w' => e = .returned (.int .i64 4) ∧ w = w' := by
 go_enter Tryz.func103, Tryz.ntmps103
 go_wp2
 first | (go_ret; exact ⟨by kernel_rfl, rfl⟩) | exact ⟨by kernel_rfl, rfl⟩
set_option maxRecDepth 100000 in
theorem Oe (w : World) : Calls Tryz.prog 103 #[.int .u64 10] w fun e w' => e = .returned (.int .i64 4) ∧ w = w' := by
 go_enter Tryz.func103, Tryz.ntmps103
 go_wp2
 first | (go_ret; exact ⟨by kernel_rfl, rfl⟩) | exact ⟨by kernel_rfl, rfl⟩
set_option maxRecDepth 100000 in
theorem Ot (w : World) : Calls Tryz.prog 103 #[.int .u64 11] w fun e w' => e = .returned (.int .i64 4) ∧ w = w' := by
 go_enter Tryz.func103, Tryz.ntmps103
 go_wp2
 first | (go_ret; exact ⟨by kernel_rfl, rfl⟩) | exact ⟨by kernel_rfl, rfl⟩
set_option maxRecDepth 100000 in
theorem O5 (w : World) : Calls Tryz.prog 103 #[.int .u64 12] w fun e w' => e = .returned (.int .i64 4) ∧ w = w' := by
 go_enter Tryz.func103, Tryz.ntmps103
 go_wp2
 first | (go_ret; exact ⟨by kernel_rfl, rfl⟩) | exact ⟨by kernel_rfl, rfl⟩
set_option maxRecDepth 100000 in
theorem Nh (w : World) : Calls Tryz.prog 103 #[.int .u64 13] w fun e w' => e = .returned (.int .i64 4) ∧ w = w' := by
 go_enter Tryz.func103, Tryz.ntmps103
 go_wp2
 first | (go_ret; exact ⟨by kernel_rfl, rfl⟩) | exact ⟨by kernel_rfl, rfl⟩
set_option maxRecDepth 100000 in
theorem Nl (w : World) : Calls Tryz.prog 103 #[.int .u64 14] w fun e w' => e = .returned (.int .i64 4) ∧ w = w' := by
 go_enter Tryz.func103, Tryz.ntmps103
 go_wp2
 first | (go_ret; exact ⟨by kernel_rfl, rfl⟩) | exact ⟨by kernel_rfl, rfl⟩
set_option maxRecDepth 100000 in
theorem Q2 (w : World) : Calls Tryz.prog 103 #[.int .u64 15] w fun e w' => e = .returned (.int .i64 4) ∧ w = w' := by
 go_enter Tryz.func103, Tryz.ntmps103
 go_wp2
 first | (go_ret; exact ⟨by kernel_rfl, rfl⟩) | exact ⟨by kernel_rfl, rfl⟩
set_option maxRecDepth 100000 in
theorem Pe (w : World) : Calls Tryz.prog 103 #[.int .u64 16] w fun e w' => e = .returned (.int .i64 5) ∧ w = w' := by
 go_enter Tryz.func103, Tryz.ntmps103
 go_wp2
 first | (go_ret; exact ⟨by kernel_rfl, rfl⟩) | exact ⟨by kernel_rfl, rfl⟩
set_option maxRecDepth 100000 in
theorem N3 (w : World) : Calls Tryz.prog 103 #[.int .u64 17] w fun e w' => e = .returned (.int .i64 5) ∧ w = w' := by
 go_enter Tryz.func103, Tryz.ntmps103
 go_wp2
 first | (go_ret; exact ⟨by kernel_rfl, rfl⟩) | exact ⟨by kernel_rfl, rfl⟩
set_option maxRecDepth 100000 in
theorem P3 (w : World) : Calls Tryz.prog 103 #[.int .u64 18] w fun e w' => e = .returned (.int .i64 5) ∧ w = w' := by
 go_enter Tryz.func103, Tryz.ntmps103
 go_wp2
 first | (go_ret; exact ⟨by kernel_rfl, rfl⟩) | exact ⟨by kernel_rfl, rfl⟩
set_option maxRecDepth 100000 in
theorem Mf (w : World) : Calls Tryz.prog 103 #[.int .u64 19] w fun e w' => e = .returned (.int .i64 5) ∧ w = w' := by
 go_enter Tryz.func103, Tryz.ntmps103
 go_wp2
 first | (go_ret; exact ⟨by kernel_rfl, rfl⟩) | exact ⟨by kernel_rfl, rfl⟩
set_option maxRecDepth 100000 in
theorem N0 (w : World) : Calls Tryz.prog 103 #[.int .u64 20] w fun e w' => e = .returned (.int .i64 5) ∧ w = w' := by
 go_enter Tryz.func103, Tryz.ntmps103
 go_wp2
 first | (go_ret; exact ⟨by kernel_rfl, rfl⟩) | exact ⟨by kernel_rfl, rfl⟩
set_option maxRecDepth 100000 in
theorem Na (w : World) : Calls Tryz.prog 103 #[.int .u64 21] w fun e w' => e = .returned (.int .i64 5) ∧ w = w' := by
 go_enter Tryz.func103, Tryz.ntmps103
 go_wp2
 first | (go_ret; exact ⟨by kernel_rfl, rfl⟩) | exact ⟨by kernel_rfl, rfl⟩
set_option maxRecDepth 100000 in
theorem Oy (w : World) : Calls Tryz.prog 103 #[.int .u64 22] w fun e w' => e = .returned (.int .i64 5) ∧ w = w' := by
 go_enter Tryz.func103, Tryz.ntmps103
 go_wp2
 first | (go_ret; exact ⟨by kernel_rfl, rfl⟩) | exact ⟨by kernel_rfl, rfl⟩
set_option maxRecDepth 100000 in
theorem Mt (w : World) : Calls Tryz.prog 103 #[.int .u64 23] w fun e w' => e = .returned (.int .i64 5) ∧ w = w' := by
 go_enter Tryz.func103, Tryz.ntmps103
 go_wp2
 first | (go_ret; exact ⟨by kernel_rfl, rfl⟩) | exact ⟨by kernel_rfl, rfl⟩
set_option maxRecDepth 100000 in
theorem On (w : World) : Calls Tryz.prog 103 #[.int .u64 24] w fun e w' => e = .returned (.int .i64 5) ∧ w = w' := by
 go_enter Tryz.func103, Tryz.ntmps103
 go_wp2
 first | (go_ret; exact ⟨by kernel_rfl, rfl⟩) | exact ⟨by kernel_rfl, rfl⟩
set_option maxRecDepth 100000 in
theorem Ou (w : World) : Calls Tryz.prog 103 #[.int .u64 25] w fun e w' => e = .returned (.int .i64 5) ∧ w = w' := by
 go_enter Tryz.func103, Tryz.ntmps103
 go_wp2
 first | (go_ret; exact ⟨by kernel_rfl, rfl⟩) | exact ⟨by kernel_rfl, rfl⟩
set_option maxRecDepth 100000 in
theorem Mj (w : World) : Calls Tryz.prog 103 #[.int .u64 26] w fun e w' => e = .returned (.int .i64 5) ∧ w = w' := by
 go_enter Tryz.func103, Tryz.ntmps103
 go_wp2
 first | (go_ret; exact ⟨by kernel_rfl, rfl⟩) | exact ⟨by kernel_rfl, rfl⟩
set_option maxRecDepth 100000 in
theorem Mi (w : World) : Calls Tryz.prog 103 #[.int .u64 27] w fun e w' => e = .returned (.int .i64 5) ∧ w = w' := by
 go_enter Tryz.func103, Tryz.ntmps103
 go_wp2
 first | (go_ret; exact ⟨by kernel_rfl, rfl⟩) | exact ⟨by kernel_rfl, rfl⟩
set_option maxRecDepth 100000 in
theorem Pb (w : World) : Calls Tryz.prog 103 #[.int .u64 28] w fun e w' => e = .returned (.int .i64 5) ∧ w = w' := by
 go_enter Tryz.func103, Tryz.ntmps103
 go_wp2
 first | (go_ret; exact ⟨by kernel_rfl, rfl⟩) | exact ⟨by kernel_rfl, rfl⟩
set_option maxRecDepth 100000 in
theorem Q0 (w : World) : Calls Tryz.prog 103 #[.int .u64 29] w fun e w' => e = .returned (.int .i64 5) ∧ w = w' := by
 go_enter Tryz.func103, Tryz.ntmps103
 go_wp2
 first | (go_ret; exact ⟨by kernel_rfl, rfl⟩) | exact ⟨by kernel_rfl, rfl⟩
set_option maxRecDepth 100000 in
theorem P6 (w : World) : Calls Tryz.prog 103 #[.int .u64 30] w fun e w' => e = .returned (.int .i64 5) ∧ w = w' := by
 go_enter Tryz.func103, Tryz.ntmps103
 go_wp2
 first | (go_ret; exact ⟨by kernel_rfl, rfl⟩) | exact ⟨by kernel_rfl, rfl⟩
set_option maxRecDepth 100000 in
theorem Q9 (w : World) : Calls Tryz.prog 103 #[.int .u64 31] w fun e w' => e = .returned (.int .i64 5) ∧ w = w' := by
 go_enter Tryz.func103, Tryz.ntmps103
 go_wp2
 first | (go_ret; exact ⟨by kernel_rfl, rfl⟩) | exact ⟨by kernel_rfl, rfl⟩
set_option maxRecDepth 100000 in
theorem Mn (w : World) : Calls Tryz.prog 103 #[.int .u64 32] w fun e w' => e = .returned (.int .i64 6) ∧ w = w' := by
 go_enter Tryz.func103, Tryz.ntmps103
 go_wp2
 first | (go_ret; exact ⟨by kernel_rfl, rfl⟩) | exact ⟨by kernel_rfl, rfl⟩
set_option maxRecDepth 100000 in
theorem Pc (w : World) : Calls Tryz.prog 103 #[.int .u64 33] w fun e w' => e = .returned (.int .i64 6) ∧ w = w' := by
 go_enter Tryz.func103, Tryz.ntmps103
 go_wp2
 first | (go_ret; exact ⟨by kernel_rfl, rfl⟩) | exact ⟨by kernel_rfl, rfl⟩
set_option maxRecDepth 100000 in
theorem Od (w : World) : Calls Tryz.prog 103 #[.int .u64 34] w fun e w' => e = .returned (.int .i64 6) ∧ w = w' := by
 go_enter Tryz.func103, Tryz.ntmps103
 go_wp2
 first | (go_ret; exact ⟨by kernel_rfl, rfl⟩) | exact ⟨by kernel_rfl, rfl⟩
set_option maxRecDepth 100000 in
theorem Nx (w : World) : Calls Tryz.prog 103 #[.int .u64 35] w fun e w' => e = .returned (.int .i64 6) ∧ w = w' := by
 go_enter Tryz.func103, Tryz.ntmps103
 go_wp2
 first | (go_ret; exact ⟨by kernel_rfl, rfl⟩) | exact ⟨by kernel_rfl, rfl⟩
set_option maxRecDepth 100000 in
theorem Ma (w : World) : Calls Tryz.prog 103 #[.int .u64 36] w fun e w' => e = .returned (.int .i64 6) ∧ w = w' := by
 go_enter Tryz.func103, Tryz.ntmps103
 go_wp2
 first | (go_ret; exact ⟨by kernel_rfl, rfl⟩) | exact ⟨by kernel_rfl, rfl⟩
set_option maxRecDepth 100000 in
theorem Pa (w : World) : Calls Tryz.prog 103 #[.int .u64 37] w fun e w' => e = .returned (.int .i64 6) ∧ w = w' := by
 go_enter Tryz.func103, Tryz.ntmps103
 go_wp2
 first | (go_ret; exact ⟨by kernel_rfl, rfl⟩) | exact ⟨by kernel_rfl, rfl⟩
set_option maxRecDepth 100000 in
theorem Q5 (w : World) : Calls Tryz.prog 103 #[.int .u64 38] w fun e w' => e = .returned (.int .i64 6) ∧ w = w' := by
 go_enter Tryz.func103, Tryz.ntmps103
 go_wp2
 first | (go_ret; exact ⟨by kernel_rfl, rfl⟩) | exact ⟨by kernel_rfl, rfl⟩
set_option maxRecDepth 100000 in
theorem N5 (w : World) : Calls Tryz.prog 103 #[.int .u64 39] w fun e w' => e = .returned (.int .i64 6) ∧ w = w' := by
 go_enter Tryz.func103, Tryz.ntmps103
 go_wp2
 first | (go_ret; exact ⟨by kernel_rfl, rfl⟩) | exact ⟨by kernel_rfl, rfl⟩
set_option maxRecDepth 100000 in
theorem Qf (w : World) : Calls Tryz.prog 103 #[.int .u64 40] w fun e w' => e = .returned (.int .i64 6) ∧ w = w' := by
 go_enter Tryz.func103, Tryz.ntmps103
 go_wp2
 first | (go_ret; exact ⟨by kernel_rfl, rfl⟩) | exact ⟨by kernel_rfl, rfl⟩
set_option maxRecDepth 100000 in
theorem Mq (w : World) : Calls Tryz.prog 103 #[.int .u64 41] w fun e w' => e = .returned (.int .i64 6) ∧ w = w' := by
 go_enter Tryz.func103, Tryz.ntmps103
 go_wp2
 first | (go_ret; exact ⟨by kernel_rfl, rfl⟩) | exact ⟨by kernel_rfl, rfl⟩
set_option maxRecDepth 100000 in
theorem Mp (w : World) : Calls Tryz.prog 103 #[.int .u64 42] w fun e w' => e = .returned (.int .i64 6) ∧ w = w' := by
 go_enter Tryz.func103, Tryz.ntmps103
 go_wp2
 first | (go_ret; exact ⟨by kernel_rfl, rfl⟩) | exact ⟨by kernel_rfl, rfl⟩
set_option maxRecDepth 100000 in
theorem Q1 (w : World) : Calls Tryz.prog 103 #[.int .u64 43] w fun e w' => e = .returned (.int .i64 6) ∧ w = w' := by
 go_enter Tryz.func103, Tryz.ntmps103
 go_wp2
 first | (go_ret; exact ⟨by kernel_rfl, rfl⟩) | exact ⟨by kernel_rfl, rfl⟩
set_option maxRecDepth 100000 in
theorem Q3 (w : World) : Calls Tryz.prog 103 #[.int .u64 44] w fun e w' => e = .returned (.int .i64 6) ∧ w = w' := by
 go_enter Tryz.func103, Tryz.ntmps103
 go_wp2
 first | (go_ret; exact ⟨by kernel_rfl, rfl⟩) | exact ⟨by kernel_rfl, rfl⟩
set_option maxRecDepth 100000 in
theorem P5 (w : World) : Calls Tryz.prog 103 #[.int .u64 45] w fun e w' => e = .returned (.int .i64 6) ∧ w = w' := by
 go_enter Tryz.func103, Tryz.ntmps103
 go_wp2
 first | (go_ret; exact ⟨by kernel_rfl, rfl⟩) | exact ⟨by kernel_rfl, rfl⟩
set_option maxRecDepth 100000 in
theorem Of (w : World) : Calls Tryz.prog 103 #[.int .u64 46] w fun e w' => e = .returned (.int .i64 6) ∧ w = w' := by
 go_enter Tryz.func103, Tryz.ntmps103
 go_wp2
 first | (go_ret; exact ⟨by kernel_rfl, rfl⟩) | exact ⟨by kernel_rfl, rfl⟩
set_option maxRecDepth 100000 in
theorem Py (w : World) : Calls Tryz.prog 103 #[.int .u64 47] w fun e w' => e = .returned (.int .i64 6) ∧ w = w' := by
 go_enter Tryz.func103, Tryz.ntmps103
 go_wp2
 first | (go_ret; exact ⟨by kernel_rfl, rfl⟩) | exact ⟨by kernel_rfl, rfl⟩
set_option maxRecDepth 100000 in
theorem Oq (w : World) : Calls Tryz.prog 103 #[.int .u64 48] w fun e w' => e = .returned (.int .i64 6) ∧ w = w' := by
 go_enter Tryz.func103, Tryz.ntmps103
 go_wp2
 first | (go_ret; exact ⟨by kernel_rfl, rfl⟩) | exact ⟨by kernel_rfl, rfl⟩
set_option maxRecDepth 100000 in
theorem Mz (w : World) : Calls Tryz.prog 103 #[.int .u64 49] w fun e w' => e = .returned (.int .i64 6) ∧ w = w' := by
 go_enter Tryz.func103, Tryz.ntmps103
 go_wp2
 first | (go_ret; exact ⟨by kernel_rfl, rfl⟩) | exact ⟨by kernel_rfl, rfl⟩
set_option maxRecDepth 100000 in
theorem Mu (w : World) : Calls Tryz.prog 103 #[.int .u64 50] w fun e w' => e = .returned (.int .i64 6) ∧ w = w' := by
 go_enter Tryz.func103, Tryz.ntmps103
 go_wp2
 first | (go_ret; exact ⟨by kernel_rfl, rfl⟩) | exact ⟨by kernel_rfl, rfl⟩
set_option maxRecDepth 100000 in
theorem Md (w : World) : Calls Tryz.prog 103 #[.int .u64 51] w fun e w' => e = .returned (.int .i64 6) ∧ w = w' := by
 go_enter Tryz.func103, Tryz.ntmps103
 go_wp2
 first | (go_ret; exact ⟨by kernel_rfl, rfl⟩) | exact ⟨by kernel_rfl, rfl⟩
set_option maxRecDepth 100000 in
theorem Ml (w : World) : Calls Tryz.prog 103 #[.int .u64 52] w fun e w' => e = .returned (.int .i64 6) ∧ w = w' := by
 go_enter Tryz.func103, Tryz.ntmps103
 go_wp2
 first | (go_ret; exact ⟨by kernel_rfl, rfl⟩) | exact ⟨by kernel_rfl, rfl⟩
set_option maxRecDepth 100000 in
theorem Ow (w : World) : Calls Tryz.prog 103 #[.int .u64 53] w fun e w' => e = .returned (.int .i64 6) ∧ w = w' := by
 go_enter Tryz.func103, Tryz.ntmps103
 go_wp2
 first | (go_ret; exact ⟨by kernel_rfl, rfl⟩) | exact ⟨by kernel_rfl, rfl⟩
set_option maxRecDepth 100000 in
theorem N4 (w : World) : Calls Tryz.prog 103 #[.int .u64 54] w fun e w' => e = .returned (.int .i64 6) ∧ w = w' := by
 go_enter Tryz.func103, Tryz.ntmps103
 go_wp2
 first | (go_ret; exact ⟨by kernel_rfl, rfl⟩) | exact ⟨by kernel_rfl, rfl⟩
set_option maxRecDepth 100000 in
theorem Nv (w : World) : Calls Tryz.prog 103 #[.int .u64 55] w fun e w' => e = .returned (.int .i64 6) ∧ w = w' := by
 go_enter Tryz.func103, Tryz.ntmps103
 go_wp2
 first | (go_ret; exact ⟨by kernel_rfl, rfl⟩) | exact ⟨by kernel_rfl, rfl⟩
set_option maxRecDepth 100000 in
theorem Qe (w : World) : Calls Tryz.prog 103 #[.int .u64 56] w fun e w' => e = .returned (.int .i64 6) ∧ w = w' := by
 go_enter Tryz.func103, Tryz.ntmps103
 go_wp2
 first | (go_ret; exact ⟨by kernel_rfl, rfl⟩) | exact ⟨by kernel_rfl, rfl⟩
set_option maxRecDepth 100000 in
theorem O0 (w : World) : Calls Tryz.prog 103 #[.int .u64 57] w fun e w' => e = .returned (.int .i64 6) ∧ w = w' := by
 go_enter Tryz.func103, Tryz.ntmps103
 go_wp2
 first | (go_ret; exact ⟨by kernel_rfl, rfl⟩) | exact ⟨by kernel_rfl, rfl⟩
set_option maxRecDepth 100000 in
theorem Qb (w : World) : Calls Tryz.prog 103 #[.int .u64 58] w fun e w' => e = .returned (.int .i64 6) ∧ w = w' := by
 go_enter Tryz.func103, Tryz.ntmps103
 go_wp2
 first | (go_ret; exact ⟨by kernel_rfl, rfl⟩) | exact ⟨by kernel_rfl, rfl⟩
set_option maxRecDepth 100000 in
theorem Pd (w : World) : Calls Tryz.prog 103 #[.int .u64 59] w fun e w' => e = .returned (.int .i64 6) ∧ w = w' := by
 go_enter Tryz.func103, Tryz.ntmps103
 go_wp2
 first | (go_ret; exact ⟨by kernel_rfl, rfl⟩) | exact ⟨by kernel_rfl, rfl⟩
set_option maxRecDepth 100000 in
theorem Qc (w : World) : Calls Tryz.prog 103 #[.int .u64 60] w fun e w' => e = .returned (.int .i64 6) ∧ w = w' := by
 go_enter Tryz.func103, Tryz.ntmps103
 go_wp2
 first | (go_ret; exact ⟨by kernel_rfl, rfl⟩) | exact ⟨by kernel_rfl, rfl⟩
set_option maxRecDepth 100000 in
theorem Pn (w : World) : Calls Tryz.prog 103 #[.int .u64 61] w fun e w' => e = .returned (.int .i64 6) ∧ w = w' := by
 go_enter Tryz.func103, Tryz.ntmps103
 go_wp2
 first | (go_ret; exact ⟨by kernel_rfl, rfl⟩) | exact ⟨by kernel_rfl, rfl⟩
set_option maxRecDepth 100000 in
theorem No (w : World) : Calls Tryz.prog 103 #[.int .u64 62] w fun e w' => e = .returned (.int .i64 6) ∧ w = w' := by
 go_enter Tryz.func103, Tryz.ntmps103
 go_wp2
 first | (go_ret; exact ⟨by kernel_rfl, rfl⟩) | exact ⟨by kernel_rfl, rfl⟩
set_option maxRecDepth 100000 in
theorem P4 (w : World) : Calls Tryz.prog 103 #[.int .u64 63] w fun e w' => e = .returned (.int .i64 6) ∧ w = w' := by
 go_enter Tryz.func103, Tryz.ntmps103
 go_wp2
 first | (go_ret; exact ⟨by kernel_rfl, rfl⟩) | exact ⟨by kernel_rfl, rfl⟩
set_option maxRecDepth 100000 in
theorem Mg (w : World) : Calls Tryz.prog 103 #[.int .u64 64] w fun e w' => e = .returned (.int .i64 7) ∧ w = w' := by
 go_enter Tryz.func103, Tryz.ntmps103
 go_wp2
 first | (go_ret; exact ⟨by kernel_rfl, rfl⟩) | exact ⟨by kernel_rfl, rfl⟩
theorem Xy : ∀ (n : Nat), n ≤ 64 → ∀ w : World, Calls Tryz.prog 103 #[.int .u64 (n : Int)] w fun e w' => e = .returned (.int .i64 ((Sort.bitsLen n : Nat) : Int)) ∧ w = w'
 | 0, _, w => by rw [show Sort.bitsLen 0 = 0 by decide]; exact U6 w
 | 1, _, w => by rw [show Sort.bitsLen 1 = 1 by decide]; exact Vs w
 | 2, _, w => by rw [show Sort.bitsLen 2 = 2 by decide]; exact So w
 | 3, _, w => by rw [show Sort.bitsLen 3 = 2 by decide]; exact Tl w
 | 4, _, w => by rw [show Sort.bitsLen 4 = 3 by decide]; exact Ua w
 | 5, _, w => by rw [show Sort.bitsLen 5 = 3 by decide]; exact T4 w
 | 6, _, w => by rw [show Sort.bitsLen 6 = 3 by decide]; exact Rn w
 | 7, _, w => by rw [show Sort.bitsLen 7 = 3 by decide]; exact Rk w
 | 8, _, w => by rw [show Sort.bitsLen 8 = 4 by decide]; exact Qt w
 | 9, _, w => by rw [show Sort.bitsLen 9 = 4 by decide]; exact Sn w
 | 10, _, w => by rw [show Sort.bitsLen 10 = 4 by decide]; exact Oe w
 | 11, _, w => by rw [show Sort.bitsLen 11 = 4 by decide]; exact Ot w
 | 12, _, w => by rw [show Sort.bitsLen 12 = 4 by decide]; exact O5 w
 | 13, _, w => by rw [show Sort.bitsLen 13 = 4 by decide]; exact Nh w
 | 14, _, w => by rw [show Sort.bitsLen 14 = 4 by decide]; exact Nl w
 | 15, _, w => by rw [show Sort.bitsLen 15 = 4 by decide]; exact Q2 w
 | 16, _, w => by rw [show Sort.bitsLen 16 = 5 by decide]; exact Pe w
 | 17, _, w => by rw [show Sort.bitsLen 17 = 5 by decide]; exact N3 w
 | 18, _, w => by rw [show Sort.bitsLen 18 = 5 by decide]; exact P3 w
 | 19, _, w => by rw [show Sort.bitsLen 19 = 5 by decide]; exact Mf w
 | 20, _, w => by rw [show Sort.bitsLen 20 = 5 by decide]; exact N0 w
 | 21, _, w => by rw [show Sort.bitsLen 21 = 5 by decide]; exact Na w
 | 22, _, w => by rw [show Sort.bitsLen 22 = 5 by decide]; exact Oy w
 | 23, _, w => by rw [show Sort.bitsLen 23 = 5 by decide]; exact Mt w
 | 24, _, w => by rw [show Sort.bitsLen 24 = 5 by decide]; exact On w
 | 25, _, w => by rw [show Sort.bitsLen 25 = 5 by decide]; exact Ou w
 | 26, _, w => by rw [show Sort.bitsLen 26 = 5 by decide]; exact Mj w
 | 27, _, w => by rw [show Sort.bitsLen 27 = 5 by decide]; exact Mi w
 | 28, _, w => by rw [show Sort.bitsLen 28 = 5 by decide]; exact Pb w
 | 29, _, w => by rw [show Sort.bitsLen 29 = 5 by decide]; exact Q0 w
 | 30, _, w => by rw [show Sort.bitsLen 30 = 5 by decide]; exact P6 w
 | 31, _, w => by rw [show Sort.bitsLen 31 = 5 by decide]; exact Q9 w
 | 32, _, w => by rw [show Sort.bitsLen 32 = 6 by decide]; exact Mn w
 | 33, _, w => by rw [show Sort.bitsLen 33 = 6 by decide]; exact Pc w
 | 34, _, w => by rw [show Sort.bitsLen 34 = 6 by decide]; exact Od w
 | 35, _, w => by rw [show Sort.bitsLen 35 = 6 by decide]; exact Nx w
 | 36, _, w => by rw [show Sort.bitsLen 36 = 6 by decide]; exact Ma w
 | 37, _, w => by rw [show Sort.bitsLen 37 = 6 by decide]; exact Pa w
 | 38, _, w => by rw [show Sort.bitsLen 38 = 6 by decide]; exact Q5 w
 | 39, _, w => by rw [show Sort.bitsLen 39 = 6 by decide]; exact N5 w
 | 40, _, w => by rw [show Sort.bitsLen 40 = 6 by decide]; exact Qf w
 | 41, _, w => by rw [show Sort.bitsLen 41 = 6 by decide]; exact Mq w
 | 42, _, w => by rw [show Sort.bitsLen 42 = 6 by decide]; exact Mp w
 | 43, _, w => by rw [show Sort.bitsLen 43 = 6 by decide]; exact Q1 w
 | 44, _, w => by rw [show Sort.bitsLen 44 = 6 by decide]; exact Q3 w
 | 45, _, w => by rw [show Sort.bitsLen 45 = 6 by decide]; exact P5 w
 | 46, _, w => by rw [show Sort.bitsLen 46 = 6 by decide]; exact Of w
 | 47, _, w => by rw [show Sort.bitsLen 47 = 6 by decide]; exact Py w
 | 48, _, w => by rw [show Sort.bitsLen 48 = 6 by decide]; exact Oq w
 | 49, _, w => by rw [show Sort.bitsLen 49 = 6 by decide]; exact Mz w
 | 50, _, w => by rw [show Sort.bitsLen 50 = 6 by decide]; exact Mu w
 | 51, _, w => by rw [show Sort.bitsLen 51 = 6 by decide]; exact Md w
 | 52, _, w => by rw [show Sort.bitsLen 52 = 6 by decide]; exact Ml w
 | 53, _, w => by rw [show Sort.bitsLen 53 = 6 by decide]; exact Ow w
 | 54, _, w => by rw [show Sort.bitsLen 54 = 6 by decide]; exact N4 w
 | 55, _, w => by rw [show Sort.bitsLen 55 = 6 by decide]; exact Nv w
 | 56, _, w => by rw [show Sort.bitsLen 56 = 6 by decide]; exact Qe w
 | 57, _, w => by rw [show Sort.bitsLen 57 = 6 by decide]; exact O0 w
 | 58, _, w => by rw [show Sort.bitsLen 58 = 6 by decide]; exact Qb w
 | 59, _, w => by rw [show Sort.bitsLen 59 = 6 by decide]; exact Pd w
 | 60, _, w => by rw [show Sort.bitsLen 60 = 6 by decide]; exact Qc w
 | 61, _, w => by rw [show Sort.bitsLen 61 = 6 by decide]; exact Pn w
 | 62, _, w => by rw [show Sort.bitsLen 62 = 6 by decide]; exact No w
 | 63, _, w => by rw [show Sort.bitsLen 63 = 6 by decide]; exact P4 w
 | 64, _, w => by rw [show Sort.bitsLen 64 = 7 by decide]; exact Mg w
 | n + 65, h, _ => by omega
theorem Vz (n : Nat) (h : n ≤ 64) (w : World) : Calls Tryz.prog 90 #[.int .u64 (n : Int)] w fun e w' => e = .returned (.int .i64 ((Sort.bitsLen n : Nat) : Int)) ∧ w = w' := by
 have hl := Xy n h w;obtain ⟨L, hL⟩ : ∃ L, Sort.bitsLen n = L := ⟨_, rfl⟩;rw [hL] at hl ⊢;have HL := zH hl;generalize hPost : (fun (e : Ending) (w' : World) => e = .returned (.int .i64 (L : Int)) ∧ w = w') = Post;have HE := zH (show Post (.returned (.int .i64 (L : Int))) w by rw [← hPost]; exact ⟨rfl, rfl⟩);clear hPost hl hL;go_enter Tryz.func90, Tryz.ntmps90
 go_wp2_with fail
 refine HL.out.mono ?_;rintro e w' ⟨rfl, rfl⟩
 go_wp2_with fail
 first | exact HE.out | (go_ret; exact HE.out)
theorem a2a (n : Nat) (h : n ≤ 64) (w : World) : Calls Tryz.prog 123 #[.int .i64 (n : Int)] w fun e w' => e = .returned (.int .u64 ((1 <<< Sort.bitsLen n : Nat) : Int)) ∧ w = w' := by
 have hl := Vz n h w;have hk : Sort.bitsLen n ≤ 7 := (Sort.bitsLen_le_iff n 7).2 (by omega);obtain ⟨M, hM⟩ : ∃ M, (1 <<< Sort.bitsLen n : Nat) = M := ⟨_, rfl⟩;obtain ⟨L, hL⟩ : ∃ L, Sort.bitsLen n = L := ⟨_, rfl⟩;rw [hM];rw [hL] at hl hk hM;have HM : Hid ((2 : Int) ^ L = (M : Int)) := zH (by rw [← hM, Nat.one_shiftLeft]; push_cast; rfl)
 have hp : IntKind.u64.wrap ((2 : Int) ^ L) = (M : Int) := by
  have h7 : (2 : Nat) ^ L ≤ 2 ^ 7 := Nat.pow_le_pow_right (by decide) hk;rw [HM.out, IntKind.wrap_u64];rw [Nat.one_shiftLeft] at hM;omega
 have HL := zH hl;generalize hPost : (fun (e : Ending) (w' : World) => e = .returned (.int .u64 (M : Int)) ∧ w = w') = Post;have HE := zH (show Post (.returned (.int .u64 (M : Int))) w by rw [← hPost]; exact ⟨rfl, rfl⟩);have wk := IntKind.wrap_u64 (n : Int);have a0 : IntKind.u64.wrap (n : Int) = (n : Int) := by rw [IntKind.wrap_u64]; omega
 clear hPost hl hL hM wk;go_enter Tryz.func123, Tryz.ntmps123
 go_wp2_with fail
 refine HL.out.mono ?_;rintro e w' ⟨rfl, rfl⟩
 go_wp2_with fail
 first | exact HE.out | (go_ret; exact HE.out)
theorem Ax (w : World) (blk off : Nat) (v v' : Value) : (w.setCell ⟨blk, off, none⟩ v).setCell ⟨blk, off, none⟩ v' = w.setCell ⟨blk, off, none⟩ v' := by
 rw [Sort.setCell_eq, Sort.setCell_eq, Sort.mapBlock_mapBlock, Sort.setCell_eq];congr 1
 funext c
 simp
theorem M9 (rb X : Nat) (hX : X < 18446744073709551616) (t : TypeId) (w : World) (hB : Blk w rb [.int .u64 (X : Int)] t) :
  Calls Tryz.prog 124 #[.pointer (some ⟨rb, 0, none⟩)] w fun e w' => e = .returned (.int .u64 ((Sort.xorNextN X : Nat) : Int)) ∧ Blk w' rb [.int .u64 ((Sort.xorNextN X : Nat) : Int)] t ∧ Chg (fun k => k = rb) w w' := by
 obtain ⟨A, hA⟩ : ∃ A : Nat, A = X ^^^ (X * 8192 % 18446744073709551616) := ⟨_, rfl⟩;obtain ⟨B, a0⟩ : ∃ B : Nat, B = A ^^^ (A / 128) := ⟨_, rfl⟩;obtain ⟨C, hC⟩ : ∃ C : Nat, C = B ^^^ (B * 131072 % 18446744073709551616) := ⟨_, rfl⟩;have lA : A < 18446744073709551616 := by rw [hA]; exact Nat.xor_lt_two_pow (n := 64) (by omega) (by omega)
 have lB : B < 18446744073709551616 := by rw [a0]; exact Nat.xor_lt_two_pow (n := 64) (by omega) (by omega)
 have e1 : bits .xor .u64 (X : Int) (IntKind.u64.wrap ((X : Int) * 8192)) = (A : Int) := by
  rw [IntKind.wrap_u64, show ((X : Int) * 8192 % 18446744073709551616) = ((X * 8192 % 18446744073709551616 : Nat) : Int) by omega, bits_xor_u64_nat _ _ hX (by omega), hA]
 have e2 : bits .xor .u64 (A : Int) ((A : Int) / 128) = (B : Int) := by
  rw [show ((A : Int) / 128) = ((A / 128 : Nat) : Int) by omega, bits_xor_u64_nat _ _ lA (by omega), a0]
 have e3 : bits .xor .u64 (B : Int) (IntKind.u64.wrap ((B : Int) * 131072)) = (C : Int) := by
  rw [IntKind.wrap_u64, show ((B : Int) * 131072 % 18446744073709551616) = ((B * 131072 % 18446744073709551616 : Nat) : Int) by omega, bits_xor_u64_nat _ _ lB (by omega), hC]
 have hv : Sort.xorNextN X = C := by unfold Sort.xorNextN; simp only []; rw [← hA, ← a0, ← hC]
 rw [hv];generalize hPost : (fun (e : Ending) (w' : World) => e = .returned (.int .u64 (C : Int)) ∧ Blk w' rb [.int .u64 (C : Int)] t ∧ Chg (fun k => k = rb) w w') = Post;have a1 : Hid (∀ W, Blk W rb [.int .u64 (C : Int)] t → Chg (fun k => k = rb) w W → Post (.returned (.int .u64 (C : Int))) W) := zH fun W h1 h2 => by rw [← hPost]; exact ⟨rfl, h1, h2⟩
 have a2 := zH hB;have a3 := hB.cell (j := 0) rfl;have a5 := hB.free 0;clear hA a0 hC hv hPost lA lB;go_enter Tryz.func124, Tryz.ntmps124;have a4 : ∀ v v', (w.setCell ⟨rb, 0, none⟩ v).setCell ⟨rb, 0, none⟩ v' = w.setCell ⟨rb, 0, none⟩ v' := fun v v' => Ax w rb 0 v v'
 have HE := zH (a1.out ((w.setCell ⟨rb, 0, none⟩ (.int .u64 (C : Int))).drewN 3) ((a2.out.set 0 (.int .u64 (C : Int))).drewN 3) (((Chg.refl (fun k => k = rb) w).setCell (.inl rfl) 0 _).drewN 3))
 go_wp2
 go_region
 all_goals go_wp2
 all_goals go_region
 all_goals go_wp2
 all_goals go_region
 all_goals go_wp2
 first | exact HE.out | (go_ret; exact HE.out)
end Go.Proofs.YtjgjohdeeeoeoaaGreatDoor
