/- partitionEqual at uint32. -/
import Derived.Test.YtjgjohdeeeoeoaaGreatDoorM32
import Derived.Sort.LotD5
import Derived.Laws.Bits64
import Derived.Laws.Bits64b
import Derived.Sort.Row
set_option linter.all false
namespace Go.Proofs.YtjgjohdeeeoeoaaGreatDoor
open Go.RowKit
attribute [local go_sem] Oper.semAt_some
set_option maxRecDepth 100000 in
set_option maxHeartbeats 16000000 in
theorem Ys (g cap a b p n : Nat) (d : Array Nat) (rest : List Value) (w : World) (hU : UAt w g d rest) (hn : d.size = n) (hc : n ≤ cap) (hap : a ≤ p) (hpb : p < b) (hb : b ≤ n) (h64 : n ≤ 64) :
  Calls Tryz.prog 114 #[.slice (some ⟨g, 0, none⟩) n cap, .int .i64 (a : Int), .int .i64 (b : Int), .int .i64 (p : Int)] w (Qp g (Sort.partitionEqual ao d a b p).1 (Sort.partitionEqual ao d a b p).2 rest w) := by
 obtain ⟨R, hR⟩ : ∃ R, Sort.partitionEqual ao d a b p = R := ⟨_, rfl⟩;rw [hR];obtain ⟨b1, rfl⟩ : ∃ b1, b = b1 + 1 := ⟨b - 1, by omega⟩;have HR : Hid (Sort.partEqLoop ao a (a + 1) b1 (Sort.swp d a p) = R) := zH hR;generalize hPost : Qp g R.1 R.2 rest w = Post;have ap : Hid (∀ (m : Nat) (e : Array Nat) (W : World), R = (m, e) → SoW g w e rest W → Post (.returned (.int .i64 (m : Int))) W) := zH fun m e W hr h => by rw [← hPost, hr]; exact ⟨rfl, h⟩
 have HN := zH hn; have HC : Hid (n ≤ cap) := zH hc; have HB : Hid (a ≤ p ∧ p < b1 + 1 ∧ b1 + 1 ≤ n ∧ n ≤ 64) := zH ⟨hap, hpb, hb, h64⟩;have HS := zH (SoW.start hU);have b6 : ((b1 + 1 : Nat) : Int) - 1 = (b1 : Int) := by omega
 have av : (b1 : Int) + 1 - 1 = (b1 : Int) := by omega
 have b7 := IntWalk.i64_in ((b1 : Int)) (by omega);have aw := IntWalk.i64_in ((a : Int) + 1) (by omega);have b2 := HC.out;have HU : Hid (UAt w.drew g d rest) := zH HS.out.drew.at_;have az := HB.out;clear hR hPost hU hn hc hap hpb hb h64;go_enter Tryz.func114, Tryz.ntmps114
 go_upto_region 1 with fail
 have q1 := HS.out.at_.cell (k := a) (by rw [HN.out]; omega); have q2 := HS.out.at_.cell (k := p) (by rw [HN.out]; omega); have q3 := Blk.free HS.out.at_ (a); have q4 := Blk.free HS.out.at_ (p);obtain ⟨v5, q5⟩ := cell?_setCell_some (p := ⟨g, a, none⟩) (x := .int .u32 ((d[p]! : Nat) : Int)) q2
 go_region
 refine fl (S := fun W => SoW g w (Sort.swp d (a) (p)) rest W) ((HS.out.drewN _).swap (i := a) (j := p) (by rw [HN.out]; omega) (by rw [HN.out]; omega)) fun W9 hs2 => ?_
 have ae := zH hs2;clear hs2 q1 q2 q3 q4 q5 v5;obtain ⟨d1, af⟩ : ∃ x, Sort.swp d a p = x := ⟨_, rfl⟩;rw [af] at ae;have ay := zH af;have a9 : Hid (Sort.partEqLoop ao a (a + 1) b1 d1 = R) := zH (by rw [← af]; exact HR.out);have ab : Hid (d1.size = n) := zH (by rw [← af, c8]; exact HN.out);clear af HU HS HR
 go_wp2_with fail
 go_loopw [9, 10] (fun i j wr => ∃ (ki kj : Nat) (dk : Array Nat), i = .int .i64 (ki : Int) ∧ j = .int .i64 (kj : Int) ∧ a < ki ∧ ki ≤ kj + 2 ∧ kj ≤ b1 ∧ dk.size = n ∧ Sort.partEqLoop ao a ki kj dk = R ∧ SoW g w dk rest wr) (fun _ j _ => (intOf j).toNat)
 case atStart => exact ⟨a + 1, b1, d1, by go_num, by go_num, by omega, by omega, by omega, ab.out, a9.out, ae.out⟩
 case round =>
  clear ae a9 ab;obtain ⟨k0, l0, dk, rfl, rfl, h1, h2, h3, ar, au, hs⟩ := hrel;have a1 := zH ar; have a9 := zH au; have aq := zH hs;obtain ⟨i3, ai⟩ : ∃ x, Sort.scanUp (qU dk a) dk l0 k0 = x := ⟨_, rfl⟩;have al := zH ai;have a7 := zH ai;have ak : Hid (k0 ≤ l0 + 2 ∧ l0 + 1 ≤ n ∧ n ≤ cap ∧ n ≤ 64) := zH ⟨h2, by omega, by omega, by omega⟩;clear ar au hs ai
  go_wp2_with fail
  go_loopw [9] (fun i wr => ∃ (ki : Nat), i = .int .i64 (ki : Int) ∧ k0 ≤ ki ∧ ki ≤ l0 + 2 ∧ Sort.scanUp (qU dk a) dk l0 ki = i3 ∧ SoW g w dk rest wr) (fun i _ => l0 + 3 - (intOf i).toNat)
  case atStart => exact ⟨k0, by first | rfl | go_num, by omega, by have := ak.out; omega, al.out, aq.out⟩
  case round =>
   clear aq al;obtain ⟨ki, rfl, b4, b5, ag, hs⟩ := hrel;have a6 := zH ag; have HS := zH hs;have HU : Hid (UAt wr.drew g dk rest) := zH hs.drew.at_;clear ag hs;have b0 := ak.out;by_cases hij : ki ≤ l0
   ·obtain ⟨mm, a4⟩ : ∃ mm, ao dk[a]! dk[ki]! = mm := ⟨_, rfl⟩
    have ad := zH a4;cases mm
    case false =>
     have a8 : Hid (Sort.scanUp (qU dk a) dk l0 (ki + 1) = i3) := zH (by rw [← a6.out, M5 hij (by unfold qU; rw [a4] <;> rfl)]);have ax := IntWalk.i64_in ((ki : Int) + 1) (by omega);clear a4
     go_upto_region 3 with fail
     have q1 := HS.out.at_.cell (k := a) (by rw [a1.out]; omega); have q2 := HS.out.at_.cell (k := ki) (by rw [a1.out]; omega)
     go_big_quiet (first | (go_at_call 113; refine Calls.quiet_of_same (cy ad.out _)))
     have a0 := HS.out.drewN nq;generalize wr.drewN nq = W8 at a0 ⊢;have a2 := zH a0;clear a0 HU q1 q2
     go_wp2_with fail
     go_roundw
     case rel => exact ⟨ki + 1, by go_num, by omega, by omega, a8.out, a2.out⟩
     case measure => first | (simp [intOf]; done) | (simp [intOf]; omega)
    case true =>
     obtain rfl : i3 = ki := a6.out.symm.trans (yu (by unfold qU; rw [a4] <;> rfl));clear a4
     go_upto_region 3 with fail
     have q1 := HS.out.at_.cell (k := a) (by rw [a1.out]; omega); have q2 := HS.out.at_.cell (k := i3) (by rw [a1.out]; omega)
     go_big_quiet (first | (go_at_call 113; refine Calls.quiet_of_same (cy ad.out _)))
     have a0 := HS.out.drewN nq;generalize wr.drewN nq = W8 at a0 ⊢;have a2 := zH a0;clear a0 HU q1 q2;have HS := zH a2.out;obtain ⟨j3, aj⟩ : ∃ x, Sort.scanDown (qD dk a) dk i3 l0 = x := ⟨_, rfl⟩;have am := zH aj;have a5 := zH aj;clear aj a6
     go_wp2_with fail
     go_loopw [10] (fun j wr => ∃ (kj : Nat), j = .int .i64 (kj : Int) ∧ kj ≤ l0 ∧ Sort.scanDown (qD dk a) dk i3 kj = j3 ∧ SoW g w dk rest wr) (fun j _ => (intOf j).toNat)
     case atStart => exact ⟨l0, by first | rfl | go_num, by omega, am.out, HS.out⟩
     case round =>
      clear HS am;obtain ⟨kj, rfl, b3, ag, hs⟩ := hrel;have a6 := zH ag; have HS := zH hs;have HU : Hid (UAt wr.drew g dk rest) := zH hs.drew.at_;clear ag hs;by_cases hij2 : i3 ≤ kj
      ·obtain ⟨mm, a4⟩ : ∃ mm, ao dk[a]! dk[kj]! = mm := ⟨_, rfl⟩
       have ad := zH a4;cases mm
       case true =>
        obtain ⟨ah, aa⟩ : ∃ ah, kj = ah + 1 := ⟨kj - 1, by omega⟩;have a8 : Hid (Sort.scanDown (qD dk a) dk i3 ah = j3) := zH (by rw [← a6.out, aa, Dk (by omega) (by rw [← aa]; unfold qD; rw [a4] <;> rfl)]);have ax := IntWalk.i64_in ((kj : Int) - 1) (by omega);clear a4
        go_upto_region 5 with fail
        have q1 := HS.out.at_.cell (k := a) (by rw [a1.out]; omega); have q2 := HS.out.at_.cell (k := kj) (by rw [a1.out]; omega);have an := zH aa; clear aa
        go_big_quiet (first | (go_at_call 113; refine Calls.quiet_of_same (cy ad.out _)))
        have a0 := HS.out.drewN nq;generalize wr.drewN nq = W8 at a0 ⊢;have a2 := zH a0;clear a0 HU q1 q2
        go_wp2_with fail
        go_roundw
        case rel => have aa := an.out; exact ⟨ah, by go_num, by omega, a8.out, a2.out⟩
        case measure => have aa := an.out; first | (simp [intOf]; done) | (simp [intOf]; omega)
       case false =>
        obtain rfl : j3 = kj := a6.out.symm.trans (vd (by unfold qD; rw [a4] <;> rfl));clear a4
        go_upto_region 5 with fail
        have q1 := HS.out.at_.cell (k := a) (by rw [a1.out]; omega); have q2 := HS.out.at_.cell (k := j3) (by rw [a1.out]; omega)
        go_big_quiet (first | (go_at_call 113; refine Calls.quiet_of_same (cy ad.out _)))
        have a0 := HS.out.drewN nq;generalize wr.drewN nq = W8 at a0 ⊢;have a2 := zH a0;clear a0 HU q1 q2;have HS := zH a2.out;have HU : Hid (UAt W8.drew g dk rest) := zH HS.out.drew.at_;have a3 : Hid (Sort.partEqLoop ao a (i3 + 1) (j3 - 1) (Sort.swp dk i3 j3) = R) := zH (by rw [← a9.out]; exact (Zw a7.out a5.out (by omega) (by omega) (by omega) (by omega)).symm);have b8 := IntWalk.i64_in ((i3 : Int) + 1) (by omega);have b9 := IntWalk.i64_in ((j3 : Int) - 1) (by omega)
        go_upto_region 8 with fail
        have q1 := HS.out.at_.cell (k := i3) (by rw [a1.out]; omega); have q2 := HS.out.at_.cell (k := j3) (by rw [a1.out]; omega); have q3 := Blk.free HS.out.at_ (i3); have q4 := Blk.free HS.out.at_ (j3);obtain ⟨v5, q5⟩ := cell?_setCell_some (p := ⟨g, i3, none⟩) (x := .int .u32 ((dk[j3]! : Nat) : Int)) q2
        go_region
        refine fl (S := fun W => SoW g w (Sort.swp dk (i3) (j3)) rest W) ((HS.out.drewN _).swap (i := i3) (j := j3) (by rw [a1.out]; omega) (by rw [a1.out]; omega)) fun W9 hs2 => ?_
        have ae := zH hs2;clear hs2 q1 q2 q3 q4 q5 v5;clear HU
        go_wp2_with fail
        go_roundw
        case rel => exact ⟨i3 + 1, j3 - 1, _, by go_num, by go_num, by omega, by omega, by omega, by rw [c8]; exact a1.out, a3.out, ae.out⟩
        case measure => first | (simp [intOf]; done) | (simp [intOf]; omega)
      ·obtain rfl : j3 = kj := a6.out.symm.trans (p4 hij2)
       go_upto_region 5 with fail
       go_big_quiet (first | (go_at_call 113; refine Calls.quiet_of_same (cy (by assumption) _)))
       have a0 := HS.out.drewN nq;generalize wr.drewN nq = W8 at a0 ⊢;have a2 := zH a0;clear a0 HU;have HS := zH a2.out;have a3 : Hid (R = (i3, dk)) := zH (by rw [← a9.out]; exact De a7.out a5.out (by omega));have HE := zH (ap.out _ _ _ a3.out HS.out)
       go_wp2_with fail
       first | exact HE.out | (go_end0; exact HE.out) | (go_ret; exact HE.out)
   ·obtain rfl : i3 = ki := a6.out.symm.trans (Dq hij)
    go_upto_region 3 with fail
    go_big_quiet (first | (go_at_call 113; refine Calls.quiet_of_same (cy (by assumption) _)))
    have a0 := HS.out.drewN nq;generalize wr.drewN nq = W8 at a0 ⊢;have a2 := zH a0;clear a0 HU;have HS := zH a2.out;have a5 : Hid (Sort.scanDown (qD dk a) dk i3 l0 = l0) := zH (p4 hij);clear a6
    go_wp2_with fail
    go_loopw [10] (fun j wr => j = .int .i64 (l0 : Int) ∧ SoW g w dk rest wr) (fun _ _ => 0)
    case atStart => exact ⟨by first | rfl | go_num, HS.out⟩
    case round =>
     clear HS;obtain ⟨rfl, hs⟩ := hrel;have HS := zH hs;have HU : Hid (UAt wr.drew g dk rest) := zH hs.drew.at_;clear hs
     go_upto_region 5 with fail
     go_big_quiet (first | (go_at_call 113; refine Calls.quiet_of_same (cy (by assumption) _)))
     have a0 := HS.out.drewN nq;generalize wr.drewN nq = W8 at a0 ⊢;have a2 := zH a0;clear a0 HU;have HS := zH a2.out;have a3 : Hid (R = (i3, dk)) := zH (by rw [← a9.out]; exact De a7.out a5.out (by omega));have HE := zH (ap.out _ _ _ a3.out HS.out)
     go_wp2_with fail
     first | exact HE.out | (go_end0; exact HE.out) | (go_ret; exact HE.out)
set_option maxRecDepth 100000 in
theorem T9 (w : World) : Calls Tryz.prog 103 #[.int .u64 0] w fun e w' => e = .returned (.int .i64 0) ∧ w = w' := by
 go_enter Tryz.func103, Tryz.ntmps103
 go_wp2
 first | (go_ret; exact ⟨by kernel_rfl, rfl⟩) | exact ⟨by kernel_rfl, rfl⟩
set_option maxRecDepth 100000 in
theorem Tb (w : World) : Calls Tryz.prog 103 #[.int .u64 1] w fun e w' => e = .returned (.int .i64 1) ∧ w = w' := by
 go_enter Tryz.func103, Tryz.ntmps103
 go_wp2
 first | (go_ret; exact ⟨by kernel_rfl, rfl⟩) | exact ⟨by kernel_rfl, rfl⟩
set_option maxRecDepth 100000 in
theorem Tc (w : World) : Calls Tryz.prog 103 #[.int .u64 2] w fun e w' => e = .returned (.int .i64 2) ∧ w = w' := by
 go_enter Tryz.func103, Tryz.ntmps103
 go_wp2
 first | (go_ret; exact ⟨by kernel_rfl, rfl⟩) | exact ⟨by kernel_rfl, rfl⟩
set_option maxRecDepth 100000 in
theorem Td (w : World) : Calls Tryz.prog 103 #[.int .u64 3] w fun e w' => e = .returned (.int .i64 2) ∧ w = w' := by
 go_enter Tryz.func103, Tryz.ntmps103
 go_wp2
 first | (go_ret; exact ⟨by kernel_rfl, rfl⟩) | exact ⟨by kernel_rfl, rfl⟩
set_option maxRecDepth 100000 in
theorem Te (w : World) : Calls Tryz.prog 103 #[.int .u64 4] w fun e w' => e = .returned (.int .i64 3) ∧ w = w' := by
 go_enter Tryz.func103, Tryz.ntmps103
 go_wp2
 first | (go_ret; exact ⟨by kernel_rfl, rfl⟩) | exact ⟨by kernel_rfl, rfl⟩
set_option maxRecDepth 100000 in
theorem Tf (w : World) : Calls Tryz.prog 103 #[.int .u64 5] w fun e w' => e = .returned (.int .i64 3) ∧ w = w' := by
 go_enter Tryz.func103, Tryz.ntmps103
 go_wp2
 first | (go_ret; exact ⟨by kernel_rfl, rfl⟩) | exact ⟨by kernel_rfl, rfl⟩
set_option maxRecDepth 100000 in
theorem Tg (w : World) : Calls Tryz.prog 103 #[.int .u64 6] w fun e w' => e = .returned (.int .i64 3) ∧ w = w' := by
 go_enter Tryz.func103, Tryz.ntmps103
 go_wp2
 first | (go_ret; exact ⟨by kernel_rfl, rfl⟩) | exact ⟨by kernel_rfl, rfl⟩
set_option maxRecDepth 100000 in
theorem Th (w : World) : Calls Tryz.prog 103 #[.int .u64 7] w fun e w' => e = .returned (.int .i64 3) ∧ w = w' := by
 go_enter Tryz.func103, Tryz.ntmps103
 go_wp2
 first | (go_ret; exact ⟨by kernel_rfl, rfl⟩) | exact ⟨by kernel_rfl, rfl⟩
set_option maxRecDepth 100000 in
theorem Ti (w : World) : Calls Tryz.prog 103 #[.int .u64 8] w fun e w' => e = .returned (.int .i64 4) ∧ w = w' := by
 go_enter Tryz.func103, Tryz.ntmps103
 go_wp2
 first | (go_ret; exact ⟨by kernel_rfl, rfl⟩) | exact ⟨by kernel_rfl, rfl⟩
set_option maxRecDepth 100000 in
theorem Tj (w : World) : Calls Tryz.prog 103 #[.int .u64 9] w fun e w' => e = .returned (.int .i64 4) ∧ w = w' := by
 go_enter Tryz.func103, Tryz.ntmps103
 go_wp2
 first | (go_ret; exact ⟨by kernel_rfl, rfl⟩) | exact ⟨by kernel_rfl, rfl⟩
set_option maxRecDepth 100000 in
theorem Nd (w : World) : Calls Tryz.prog 103 #[.int .u64 10] w fun e w' => e = .returned (.int .i64 4) ∧ w = w' := by
 go_enter Tryz.func103, Tryz.ntmps103
 go_wp2
 first | (go_ret; exact ⟨by kernel_rfl, rfl⟩) | exact ⟨by kernel_rfl, rfl⟩
set_option maxRecDepth 100000 in
theorem Nf (w : World) : Calls Tryz.prog 103 #[.int .u64 11] w fun e w' => e = .returned (.int .i64 4) ∧ w = w' := by
 go_enter Tryz.func103, Tryz.ntmps103
 go_wp2
 first | (go_ret; exact ⟨by kernel_rfl, rfl⟩) | exact ⟨by kernel_rfl, rfl⟩
set_option maxRecDepth 100000 in
theorem Ng (w : World) : Calls Tryz.prog 103 #[.int .u64 12] w fun e w' => e = .returned (.int .i64 4) ∧ w = w' := by
 go_enter Tryz.func103, Tryz.ntmps103
 go_wp2
 first | (go_ret; exact ⟨by kernel_rfl, rfl⟩) | exact ⟨by kernel_rfl, rfl⟩
set_option maxRecDepth 100000 in
theorem Nh (w : World) : Calls Tryz.prog 103 #[.int .u64 13] w fun e w' => e = .returned (.int .i64 4) ∧ w = w' := by
 go_enter Tryz.func103, Tryz.ntmps103
 go_wp2
 first | (go_ret; exact ⟨by kernel_rfl, rfl⟩) | exact ⟨by kernel_rfl, rfl⟩
set_option maxRecDepth 100000 in
theorem Ni (w : World) : Calls Tryz.prog 103 #[.int .u64 14] w fun e w' => e = .returned (.int .i64 4) ∧ w = w' := by
 go_enter Tryz.func103, Tryz.ntmps103
 go_wp2
 first | (go_ret; exact ⟨by kernel_rfl, rfl⟩) | exact ⟨by kernel_rfl, rfl⟩
set_option maxRecDepth 100000 in
theorem Nj (w : World) : Calls Tryz.prog 103 #[.int .u64 15] w fun e w' => e = .returned (.int .i64 4) ∧ w = w' := by
 go_enter Tryz.func103, Tryz.ntmps103
 go_wp2
 first | (go_ret; exact ⟨by kernel_rfl, rfl⟩) | exact ⟨by kernel_rfl, rfl⟩
set_option maxRecDepth 100000 in
theorem Nk (w : World) : Calls Tryz.prog 103 #[.int .u64 16] w fun e w' => e = .returned (.int .i64 5) ∧ w = w' := by
 go_enter Tryz.func103, Tryz.ntmps103
 go_wp2
 first | (go_ret; exact ⟨by kernel_rfl, rfl⟩) | exact ⟨by kernel_rfl, rfl⟩
set_option maxRecDepth 100000 in
theorem Nl (w : World) : Calls Tryz.prog 103 #[.int .u64 17] w fun e w' => e = .returned (.int .i64 5) ∧ w = w' := by
 go_enter Tryz.func103, Tryz.ntmps103
 go_wp2
 first | (go_ret; exact ⟨by kernel_rfl, rfl⟩) | exact ⟨by kernel_rfl, rfl⟩
set_option maxRecDepth 100000 in
theorem Nm (w : World) : Calls Tryz.prog 103 #[.int .u64 18] w fun e w' => e = .returned (.int .i64 5) ∧ w = w' := by
 go_enter Tryz.func103, Tryz.ntmps103
 go_wp2
 first | (go_ret; exact ⟨by kernel_rfl, rfl⟩) | exact ⟨by kernel_rfl, rfl⟩
set_option maxRecDepth 100000 in
theorem Nn (w : World) : Calls Tryz.prog 103 #[.int .u64 19] w fun e w' => e = .returned (.int .i64 5) ∧ w = w' := by
 go_enter Tryz.func103, Tryz.ntmps103
 go_wp2
 first | (go_ret; exact ⟨by kernel_rfl, rfl⟩) | exact ⟨by kernel_rfl, rfl⟩
set_option maxRecDepth 100000 in
theorem No (w : World) : Calls Tryz.prog 103 #[.int .u64 20] w fun e w' => e = .returned (.int .i64 5) ∧ w = w' := by
 go_enter Tryz.func103, Tryz.ntmps103
 go_wp2
 first | (go_ret; exact ⟨by kernel_rfl, rfl⟩) | exact ⟨by kernel_rfl, rfl⟩
set_option maxRecDepth 100000 in
theorem Np (w : World) : Calls Tryz.prog 103 #[.int .u64 21] w fun e w' => e = .returned (.int .i64 5) ∧ w = w' := by
 go_enter Tryz.func103, Tryz.ntmps103
 go_wp2
 first | (go_ret; exact ⟨by kernel_rfl, rfl⟩) | exact ⟨by kernel_rfl, rfl⟩
set_option maxRecDepth 100000 in
theorem Nq (w : World) : Calls Tryz.prog 103 #[.int .u64 22] w fun e w' => e = .returned (.int .i64 5) ∧ w = w' := by
 go_enter Tryz.func103, Tryz.ntmps103
 go_wp2
 first | (go_ret; exact ⟨by kernel_rfl, rfl⟩) | exact ⟨by kernel_rfl, rfl⟩
set_option maxRecDepth 100000 in
theorem Nr (w : World) : Calls Tryz.prog 103 #[.int .u64 23] w fun e w' => e = .returned (.int .i64 5) ∧ w = w' := by
 go_enter Tryz.func103, Tryz.ntmps103
 go_wp2
 first | (go_ret; exact ⟨by kernel_rfl, rfl⟩) | exact ⟨by kernel_rfl, rfl⟩
set_option maxRecDepth 100000 in
theorem Ns (w : World) : Calls Tryz.prog 103 #[.int .u64 24] w fun e w' => e = .returned (.int .i64 5) ∧ w = w' := by
 go_enter Tryz.func103, Tryz.ntmps103
 go_wp2
 first | (go_ret; exact ⟨by kernel_rfl, rfl⟩) | exact ⟨by kernel_rfl, rfl⟩
set_option maxRecDepth 100000 in
theorem Nt (w : World) : Calls Tryz.prog 103 #[.int .u64 25] w fun e w' => e = .returned (.int .i64 5) ∧ w = w' := by
 go_enter Tryz.func103, Tryz.ntmps103
 go_wp2
 first | (go_ret; exact ⟨by kernel_rfl, rfl⟩) | exact ⟨by kernel_rfl, rfl⟩
set_option maxRecDepth 100000 in
theorem Nu (w : World) : Calls Tryz.prog 103 #[.int .u64 26] w fun e w' => e = .returned (.int .i64 5) ∧ w = w' := by
 go_enter Tryz.func103, Tryz.ntmps103
 go_wp2
 first | (go_ret; exact ⟨by kernel_rfl, rfl⟩) | exact ⟨by kernel_rfl, rfl⟩
set_option maxRecDepth 100000 in
theorem Nv (w : World) : Calls Tryz.prog 103 #[.int .u64 27] w fun e w' => e = .returned (.int .i64 5) ∧ w = w' := by
 go_enter Tryz.func103, Tryz.ntmps103
 go_wp2
 first | (go_ret; exact ⟨by kernel_rfl, rfl⟩) | exact ⟨by kernel_rfl, rfl⟩
set_option maxRecDepth 100000 in
theorem Nx (w : World) : Calls Tryz.prog 103 #[.int .u64 28] w fun e w' => e = .returned (.int .i64 5) ∧ w = w' := by
 go_enter Tryz.func103, Tryz.ntmps103
 go_wp2
 first | (go_ret; exact ⟨by kernel_rfl, rfl⟩) | exact ⟨by kernel_rfl, rfl⟩
set_option maxRecDepth 100000 in
theorem Ny (w : World) : Calls Tryz.prog 103 #[.int .u64 29] w fun e w' => e = .returned (.int .i64 5) ∧ w = w' := by
 go_enter Tryz.func103, Tryz.ntmps103
 go_wp2
 first | (go_ret; exact ⟨by kernel_rfl, rfl⟩) | exact ⟨by kernel_rfl, rfl⟩
set_option maxRecDepth 100000 in
theorem Nz (w : World) : Calls Tryz.prog 103 #[.int .u64 30] w fun e w' => e = .returned (.int .i64 5) ∧ w = w' := by
 go_enter Tryz.func103, Tryz.ntmps103
 go_wp2
 first | (go_ret; exact ⟨by kernel_rfl, rfl⟩) | exact ⟨by kernel_rfl, rfl⟩
set_option maxRecDepth 100000 in
theorem O0 (w : World) : Calls Tryz.prog 103 #[.int .u64 31] w fun e w' => e = .returned (.int .i64 5) ∧ w = w' := by
 go_enter Tryz.func103, Tryz.ntmps103
 go_wp2
 first | (go_ret; exact ⟨by kernel_rfl, rfl⟩) | exact ⟨by kernel_rfl, rfl⟩
set_option maxRecDepth 100000 in
theorem O1 (w : World) : Calls Tryz.prog 103 #[.int .u64 32] w fun e w' => e = .returned (.int .i64 6) ∧ w = w' := by
 go_enter Tryz.func103, Tryz.ntmps103
 go_wp2
 first | (go_ret; exact ⟨by kernel_rfl, rfl⟩) | exact ⟨by kernel_rfl, rfl⟩
set_option maxRecDepth 100000 in
theorem O2 (w : World) : Calls Tryz.prog 103 #[.int .u64 33] w fun e w' => e = .returned (.int .i64 6) ∧ w = w' := by
 go_enter Tryz.func103, Tryz.ntmps103
 go_wp2
 first | (go_ret; exact ⟨by kernel_rfl, rfl⟩) | exact ⟨by kernel_rfl, rfl⟩
set_option maxRecDepth 100000 in
theorem O3 (w : World) : Calls Tryz.prog 103 #[.int .u64 34] w fun e w' => e = .returned (.int .i64 6) ∧ w = w' := by
 go_enter Tryz.func103, Tryz.ntmps103
 go_wp2
 first | (go_ret; exact ⟨by kernel_rfl, rfl⟩) | exact ⟨by kernel_rfl, rfl⟩
set_option maxRecDepth 100000 in
theorem O4 (w : World) : Calls Tryz.prog 103 #[.int .u64 35] w fun e w' => e = .returned (.int .i64 6) ∧ w = w' := by
 go_enter Tryz.func103, Tryz.ntmps103
 go_wp2
 first | (go_ret; exact ⟨by kernel_rfl, rfl⟩) | exact ⟨by kernel_rfl, rfl⟩
set_option maxRecDepth 100000 in
theorem O5 (w : World) : Calls Tryz.prog 103 #[.int .u64 36] w fun e w' => e = .returned (.int .i64 6) ∧ w = w' := by
 go_enter Tryz.func103, Tryz.ntmps103
 go_wp2
 first | (go_ret; exact ⟨by kernel_rfl, rfl⟩) | exact ⟨by kernel_rfl, rfl⟩
set_option maxRecDepth 100000 in
theorem O6 (w : World) : Calls Tryz.prog 103 #[.int .u64 37] w fun e w' => e = .returned (.int .i64 6) ∧ w = w' := by
 go_enter Tryz.func103, Tryz.ntmps103
 go_wp2
 first | (go_ret; exact ⟨by kernel_rfl, rfl⟩) | exact ⟨by kernel_rfl, rfl⟩
set_option maxRecDepth 100000 in
theorem O7 (w : World) : Calls Tryz.prog 103 #[.int .u64 38] w fun e w' => e = .returned (.int .i64 6) ∧ w = w' := by
 go_enter Tryz.func103, Tryz.ntmps103
 go_wp2
 first | (go_ret; exact ⟨by kernel_rfl, rfl⟩) | exact ⟨by kernel_rfl, rfl⟩
set_option maxRecDepth 100000 in
theorem O8 (w : World) : Calls Tryz.prog 103 #[.int .u64 39] w fun e w' => e = .returned (.int .i64 6) ∧ w = w' := by
 go_enter Tryz.func103, Tryz.ntmps103
 go_wp2
 first | (go_ret; exact ⟨by kernel_rfl, rfl⟩) | exact ⟨by kernel_rfl, rfl⟩
set_option maxRecDepth 100000 in
theorem O9 (w : World) : Calls Tryz.prog 103 #[.int .u64 40] w fun e w' => e = .returned (.int .i64 6) ∧ w = w' := by
 go_enter Tryz.func103, Tryz.ntmps103
 go_wp2
 first | (go_ret; exact ⟨by kernel_rfl, rfl⟩) | exact ⟨by kernel_rfl, rfl⟩
set_option maxRecDepth 100000 in
theorem Oa (w : World) : Calls Tryz.prog 103 #[.int .u64 41] w fun e w' => e = .returned (.int .i64 6) ∧ w = w' := by
 go_enter Tryz.func103, Tryz.ntmps103
 go_wp2
 first | (go_ret; exact ⟨by kernel_rfl, rfl⟩) | exact ⟨by kernel_rfl, rfl⟩
set_option maxRecDepth 100000 in
theorem Ob (w : World) : Calls Tryz.prog 103 #[.int .u64 42] w fun e w' => e = .returned (.int .i64 6) ∧ w = w' := by
 go_enter Tryz.func103, Tryz.ntmps103
 go_wp2
 first | (go_ret; exact ⟨by kernel_rfl, rfl⟩) | exact ⟨by kernel_rfl, rfl⟩
set_option maxRecDepth 100000 in
theorem Oc (w : World) : Calls Tryz.prog 103 #[.int .u64 43] w fun e w' => e = .returned (.int .i64 6) ∧ w = w' := by
 go_enter Tryz.func103, Tryz.ntmps103
 go_wp2
 first | (go_ret; exact ⟨by kernel_rfl, rfl⟩) | exact ⟨by kernel_rfl, rfl⟩
set_option maxRecDepth 100000 in
theorem Od (w : World) : Calls Tryz.prog 103 #[.int .u64 44] w fun e w' => e = .returned (.int .i64 6) ∧ w = w' := by
 go_enter Tryz.func103, Tryz.ntmps103
 go_wp2
 first | (go_ret; exact ⟨by kernel_rfl, rfl⟩) | exact ⟨by kernel_rfl, rfl⟩
set_option maxRecDepth 100000 in
theorem Oe (w : World) : Calls Tryz.prog 103 #[.int .u64 45] w fun e w' => e = .returned (.int .i64 6) ∧ w = w' := by
 go_enter Tryz.func103, Tryz.ntmps103
 go_wp2
 first | (go_ret; exact ⟨by kernel_rfl, rfl⟩) | exact ⟨by kernel_rfl, rfl⟩
set_option maxRecDepth 100000 in
theorem Of (w : World) : Calls Tryz.prog 103 #[.int .u64 46] w fun e w' => e = .returned (.int .i64 6) ∧ w = w' := by
 go_enter Tryz.func103, Tryz.ntmps103
 go_wp2
 first | (go_ret; exact ⟨by kernel_rfl, rfl⟩) | exact ⟨by kernel_rfl, rfl⟩
set_option maxRecDepth 100000 in
theorem Og (w : World) : Calls Tryz.prog 103 #[.int .u64 47] w fun e w' => e = .returned (.int .i64 6) ∧ w = w' := by
 go_enter Tryz.func103, Tryz.ntmps103
 go_wp2
 first | (go_ret; exact ⟨by kernel_rfl, rfl⟩) | exact ⟨by kernel_rfl, rfl⟩
set_option maxRecDepth 100000 in
theorem Oh (w : World) : Calls Tryz.prog 103 #[.int .u64 48] w fun e w' => e = .returned (.int .i64 6) ∧ w = w' := by
 go_enter Tryz.func103, Tryz.ntmps103
 go_wp2
 first | (go_ret; exact ⟨by kernel_rfl, rfl⟩) | exact ⟨by kernel_rfl, rfl⟩
set_option maxRecDepth 100000 in
theorem Oi (w : World) : Calls Tryz.prog 103 #[.int .u64 49] w fun e w' => e = .returned (.int .i64 6) ∧ w = w' := by
 go_enter Tryz.func103, Tryz.ntmps103
 go_wp2
 first | (go_ret; exact ⟨by kernel_rfl, rfl⟩) | exact ⟨by kernel_rfl, rfl⟩
set_option maxRecDepth 100000 in
theorem Oj (w : World) : Calls Tryz.prog 103 #[.int .u64 50] w fun e w' => e = .returned (.int .i64 6) ∧ w = w' := by
 go_enter Tryz.func103, Tryz.ntmps103
 go_wp2
 first | (go_ret; exact ⟨by kernel_rfl, rfl⟩) | exact ⟨by kernel_rfl, rfl⟩
set_option maxRecDepth 100000 in
theorem Ok (w : World) : Calls Tryz.prog 103 #[.int .u64 51] w fun e w' => e = .returned (.int .i64 6) ∧ w = w' := by
 go_enter Tryz.func103, Tryz.ntmps103
 go_wp2
 first | (go_ret; exact ⟨by kernel_rfl, rfl⟩) | exact ⟨by kernel_rfl, rfl⟩
set_option maxRecDepth 100000 in
theorem Ol (w : World) : Calls Tryz.prog 103 #[.int .u64 52] w fun e w' => e = .returned (.int .i64 6) ∧ w = w' := by
 go_enter Tryz.func103, Tryz.ntmps103
 go_wp2
 first | (go_ret; exact ⟨by kernel_rfl, rfl⟩) | exact ⟨by kernel_rfl, rfl⟩
set_option maxRecDepth 100000 in
theorem Om (w : World) : Calls Tryz.prog 103 #[.int .u64 53] w fun e w' => e = .returned (.int .i64 6) ∧ w = w' := by
 go_enter Tryz.func103, Tryz.ntmps103
 go_wp2
 first | (go_ret; exact ⟨by kernel_rfl, rfl⟩) | exact ⟨by kernel_rfl, rfl⟩
set_option maxRecDepth 100000 in
theorem On (w : World) : Calls Tryz.prog 103 #[.int .u64 54] w fun e w' => e = .returned (.int .i64 6) ∧ w = w' := by
 go_enter Tryz.func103, Tryz.ntmps103
 go_wp2
 first | (go_ret; exact ⟨by kernel_rfl, rfl⟩) | exact ⟨by kernel_rfl, rfl⟩
set_option maxRecDepth 100000 in
theorem Oo (w : World) : Calls Tryz.prog 103 #[.int .u64 55] w fun e w' => e = .returned (.int .i64 6) ∧ w = w' := by
 go_enter Tryz.func103, Tryz.ntmps103
 go_wp2
 first | (go_ret; exact ⟨by kernel_rfl, rfl⟩) | exact ⟨by kernel_rfl, rfl⟩
set_option maxRecDepth 100000 in
theorem Oq (w : World) : Calls Tryz.prog 103 #[.int .u64 56] w fun e w' => e = .returned (.int .i64 6) ∧ w = w' := by
 go_enter Tryz.func103, Tryz.ntmps103
 go_wp2
 first | (go_ret; exact ⟨by kernel_rfl, rfl⟩) | exact ⟨by kernel_rfl, rfl⟩
set_option maxRecDepth 100000 in
theorem Ot (w : World) : Calls Tryz.prog 103 #[.int .u64 57] w fun e w' => e = .returned (.int .i64 6) ∧ w = w' := by
 go_enter Tryz.func103, Tryz.ntmps103
 go_wp2
 first | (go_ret; exact ⟨by kernel_rfl, rfl⟩) | exact ⟨by kernel_rfl, rfl⟩
set_option maxRecDepth 100000 in
theorem Ou (w : World) : Calls Tryz.prog 103 #[.int .u64 58] w fun e w' => e = .returned (.int .i64 6) ∧ w = w' := by
 go_enter Tryz.func103, Tryz.ntmps103
 go_wp2
 first | (go_ret; exact ⟨by kernel_rfl, rfl⟩) | exact ⟨by kernel_rfl, rfl⟩
set_option maxRecDepth 100000 in
theorem Ov (w : World) : Calls Tryz.prog 103 #[.int .u64 59] w fun e w' => e = .returned (.int .i64 6) ∧ w = w' := by
 go_enter Tryz.func103, Tryz.ntmps103
 go_wp2
 first | (go_ret; exact ⟨by kernel_rfl, rfl⟩) | exact ⟨by kernel_rfl, rfl⟩
set_option maxRecDepth 100000 in
theorem Ow (w : World) : Calls Tryz.prog 103 #[.int .u64 60] w fun e w' => e = .returned (.int .i64 6) ∧ w = w' := by
 go_enter Tryz.func103, Tryz.ntmps103
 go_wp2
 first | (go_ret; exact ⟨by kernel_rfl, rfl⟩) | exact ⟨by kernel_rfl, rfl⟩
set_option maxRecDepth 100000 in
theorem Ox (w : World) : Calls Tryz.prog 103 #[.int .u64 61] w fun e w' => e = .returned (.int .i64 6) ∧ w = w' := by
 go_enter Tryz.func103, Tryz.ntmps103
 go_wp2
 first | (go_ret; exact ⟨by kernel_rfl, rfl⟩) | exact ⟨by kernel_rfl, rfl⟩
set_option maxRecDepth 100000 in
theorem Oy (w : World) : Calls Tryz.prog 103 #[.int .u64 62] w fun e w' => e = .returned (.int .i64 6) ∧ w = w' := by
 go_enter Tryz.func103, Tryz.ntmps103
 go_wp2
 first | (go_ret; exact ⟨by kernel_rfl, rfl⟩) | exact ⟨by kernel_rfl, rfl⟩
set_option maxRecDepth 100000 in
theorem Oz (w : World) : Calls Tryz.prog 103 #[.int .u64 63] w fun e w' => e = .returned (.int .i64 6) ∧ w = w' := by
 go_enter Tryz.func103, Tryz.ntmps103
 go_wp2
 first | (go_ret; exact ⟨by kernel_rfl, rfl⟩) | exact ⟨by kernel_rfl, rfl⟩
set_option maxRecDepth 100000 in
theorem P0 (w : World) : Calls Tryz.prog 103 #[.int .u64 64] w fun e w' => e = .returned (.int .i64 7) ∧ w = w' := by
 go_enter Tryz.func103, Tryz.ntmps103
 go_wp2
 first | (go_ret; exact ⟨by kernel_rfl, rfl⟩) | exact ⟨by kernel_rfl, rfl⟩
theorem Y6 : ∀ (n : Nat), n ≤ 64 → ∀ w : World, Calls Tryz.prog 103 #[.int .u64 (n : Int)] w fun e w' => e = .returned (.int .i64 ((Sort.bitsLen n : Nat) : Int)) ∧ w = w'
 | 0, _, w => by rw [show Sort.bitsLen 0 = 0 by decide]; exact T9 w
 | 1, _, w => by rw [show Sort.bitsLen 1 = 1 by decide]; exact Tb w
 | 2, _, w => by rw [show Sort.bitsLen 2 = 2 by decide]; exact Tc w
 | 3, _, w => by rw [show Sort.bitsLen 3 = 2 by decide]; exact Td w
 | 4, _, w => by rw [show Sort.bitsLen 4 = 3 by decide]; exact Te w
 | 5, _, w => by rw [show Sort.bitsLen 5 = 3 by decide]; exact Tf w
 | 6, _, w => by rw [show Sort.bitsLen 6 = 3 by decide]; exact Tg w
 | 7, _, w => by rw [show Sort.bitsLen 7 = 3 by decide]; exact Th w
 | 8, _, w => by rw [show Sort.bitsLen 8 = 4 by decide]; exact Ti w
 | 9, _, w => by rw [show Sort.bitsLen 9 = 4 by decide]; exact Tj w
 | 10, _, w => by rw [show Sort.bitsLen 10 = 4 by decide]; exact Nd w
 | 11, _, w => by rw [show Sort.bitsLen 11 = 4 by decide]; exact Nf w
 | 12, _, w => by rw [show Sort.bitsLen 12 = 4 by decide]; exact Ng w
 | 13, _, w => by rw [show Sort.bitsLen 13 = 4 by decide]; exact Nh w
 | 14, _, w => by rw [show Sort.bitsLen 14 = 4 by decide]; exact Ni w
 | 15, _, w => by rw [show Sort.bitsLen 15 = 4 by decide]; exact Nj w
 | 16, _, w => by rw [show Sort.bitsLen 16 = 5 by decide]; exact Nk w
 | 17, _, w => by rw [show Sort.bitsLen 17 = 5 by decide]; exact Nl w
 | 18, _, w => by rw [show Sort.bitsLen 18 = 5 by decide]; exact Nm w
 | 19, _, w => by rw [show Sort.bitsLen 19 = 5 by decide]; exact Nn w
 | 20, _, w => by rw [show Sort.bitsLen 20 = 5 by decide]; exact No w
 | 21, _, w => by rw [show Sort.bitsLen 21 = 5 by decide]; exact Np w
 | 22, _, w => by rw [show Sort.bitsLen 22 = 5 by decide]; exact Nq w
 | 23, _, w => by rw [show Sort.bitsLen 23 = 5 by decide]; exact Nr w
 | 24, _, w => by rw [show Sort.bitsLen 24 = 5 by decide]; exact Ns w
 | 25, _, w => by rw [show Sort.bitsLen 25 = 5 by decide]; exact Nt w
 | 26, _, w => by rw [show Sort.bitsLen 26 = 5 by decide]; exact Nu w
 | 27, _, w => by rw [show Sort.bitsLen 27 = 5 by decide]; exact Nv w
 | 28, _, w => by rw [show Sort.bitsLen 28 = 5 by decide]; exact Nx w
 | 29, _, w => by rw [show Sort.bitsLen 29 = 5 by decide]; exact Ny w
 | 30, _, w => by rw [show Sort.bitsLen 30 = 5 by decide]; exact Nz w
 | 31, _, w => by rw [show Sort.bitsLen 31 = 5 by decide]; exact O0 w
 | 32, _, w => by rw [show Sort.bitsLen 32 = 6 by decide]; exact O1 w
 | 33, _, w => by rw [show Sort.bitsLen 33 = 6 by decide]; exact O2 w
 | 34, _, w => by rw [show Sort.bitsLen 34 = 6 by decide]; exact O3 w
 | 35, _, w => by rw [show Sort.bitsLen 35 = 6 by decide]; exact O4 w
 | 36, _, w => by rw [show Sort.bitsLen 36 = 6 by decide]; exact O5 w
 | 37, _, w => by rw [show Sort.bitsLen 37 = 6 by decide]; exact O6 w
 | 38, _, w => by rw [show Sort.bitsLen 38 = 6 by decide]; exact O7 w
 | 39, _, w => by rw [show Sort.bitsLen 39 = 6 by decide]; exact O8 w
 | 40, _, w => by rw [show Sort.bitsLen 40 = 6 by decide]; exact O9 w
 | 41, _, w => by rw [show Sort.bitsLen 41 = 6 by decide]; exact Oa w
 | 42, _, w => by rw [show Sort.bitsLen 42 = 6 by decide]; exact Ob w
 | 43, _, w => by rw [show Sort.bitsLen 43 = 6 by decide]; exact Oc w
 | 44, _, w => by rw [show Sort.bitsLen 44 = 6 by decide]; exact Od w
 | 45, _, w => by rw [show Sort.bitsLen 45 = 6 by decide]; exact Oe w
 | 46, _, w => by rw [show Sort.bitsLen 46 = 6 by decide]; exact Of w
 | 47, _, w => by rw [show Sort.bitsLen 47 = 6 by decide]; exact Og w
 | 48, _, w => by rw [show Sort.bitsLen 48 = 6 by decide]; exact Oh w
 | 49, _, w => by rw [show Sort.bitsLen 49 = 6 by decide]; exact Oi w
 | 50, _, w => by rw [show Sort.bitsLen 50 = 6 by decide]; exact Oj w
 | 51, _, w => by rw [show Sort.bitsLen 51 = 6 by decide]; exact Ok w
 | 52, _, w => by rw [show Sort.bitsLen 52 = 6 by decide]; exact Ol w
 | 53, _, w => by rw [show Sort.bitsLen 53 = 6 by decide]; exact Om w
 | 54, _, w => by rw [show Sort.bitsLen 54 = 6 by decide]; exact On w
 | 55, _, w => by rw [show Sort.bitsLen 55 = 6 by decide]; exact Oo w
 | 56, _, w => by rw [show Sort.bitsLen 56 = 6 by decide]; exact Oq w
 | 57, _, w => by rw [show Sort.bitsLen 57 = 6 by decide]; exact Ot w
 | 58, _, w => by rw [show Sort.bitsLen 58 = 6 by decide]; exact Ou w
 | 59, _, w => by rw [show Sort.bitsLen 59 = 6 by decide]; exact Ov w
 | 60, _, w => by rw [show Sort.bitsLen 60 = 6 by decide]; exact Ow w
 | 61, _, w => by rw [show Sort.bitsLen 61 = 6 by decide]; exact Ox w
 | 62, _, w => by rw [show Sort.bitsLen 62 = 6 by decide]; exact Oy w
 | 63, _, w => by rw [show Sort.bitsLen 63 = 6 by decide]; exact Oz w
 | 64, _, w => by rw [show Sort.bitsLen 64 = 7 by decide]; exact P0 w
 | n + 65, h, _ => by omega
theorem Tk (n : Nat) (h : n ≤ 64) (w : World) : Calls Tryz.prog 90 #[.int .u64 (n : Int)] w fun e w' => e = .returned (.int .i64 ((Sort.bitsLen n : Nat) : Int)) ∧ w = w' := by
 have hl := Y6 n h w;obtain ⟨L, hL⟩ : ∃ L, Sort.bitsLen n = L := ⟨_, rfl⟩;rw [hL] at hl ⊢;have HL := zH hl;generalize hPost : (fun (e : Ending) (w' : World) => e = .returned (.int .i64 (L : Int)) ∧ w = w') = Post;have HE := zH (show Post (.returned (.int .i64 (L : Int))) w by rw [← hPost]; exact ⟨rfl, rfl⟩);clear hPost hl hL;go_enter Tryz.func90, Tryz.ntmps90
 go_wp2_with fail
 refine HL.out.mono ?_;rintro e w' ⟨rfl, rfl⟩
 go_wp2_with fail
 first | exact HE.out | (go_ret; exact HE.out)
theorem a27 (n : Nat) (h : n ≤ 64) (w : World) : Calls Tryz.prog 123 #[.int .i64 (n : Int)] w fun e w' => e = .returned (.int .u64 ((1 <<< Sort.bitsLen n : Nat) : Int)) ∧ w = w' := by
 have hl := Tk n h w;have hk : Sort.bitsLen n ≤ 7 := (Sort.bitsLen_le_iff n 7).2 (by omega);obtain ⟨M, hM⟩ : ∃ M, (1 <<< Sort.bitsLen n : Nat) = M := ⟨_, rfl⟩;obtain ⟨L, hL⟩ : ∃ L, Sort.bitsLen n = L := ⟨_, rfl⟩;rw [hM];rw [hL] at hl hk hM;have HM : Hid ((2 : Int) ^ L = (M : Int)) := zH (by rw [← hM, Nat.one_shiftLeft]; push_cast; rfl)
 have hp : IntKind.u64.wrap ((2 : Int) ^ L) = (M : Int) := by
  have h7 : (2 : Nat) ^ L ≤ 2 ^ 7 := Nat.pow_le_pow_right (by decide) hk;rw [HM.out, IntKind.wrap_u64];rw [Nat.one_shiftLeft] at hM;omega
 have HL := zH hl;generalize hPost : (fun (e : Ending) (w' : World) => e = .returned (.int .u64 (M : Int)) ∧ w = w') = Post;have HE := zH (show Post (.returned (.int .u64 (M : Int))) w by rw [← hPost]; exact ⟨rfl, rfl⟩);have wk := IntKind.wrap_u64 (n : Int);have a0 : IntKind.u64.wrap (n : Int) = (n : Int) := by rw [IntKind.wrap_u64]; omega
 clear hPost hl hL hM wk;go_enter Tryz.func123, Tryz.ntmps123
 go_wp2_with fail
 refine HL.out.mono ?_;rintro e w' ⟨rfl, rfl⟩
 go_wp2_with fail
 first | exact HE.out | (go_ret; exact HE.out)
theorem B3 (w : World) (blk off : Nat) (v v' : Value) : (w.setCell ⟨blk, off, none⟩ v).setCell ⟨blk, off, none⟩ v' = w.setCell ⟨blk, off, none⟩ v' := by
 rw [Sort.setCell_eq, Sort.setCell_eq, Sort.mapBlock_mapBlock, Sort.setCell_eq];congr 1
 funext c
 simp
theorem P9 (rb X : Nat) (hX : X < 18446744073709551616) (t : TypeId) (w : World) (hB : Blk w rb [.int .u64 (X : Int)] t) :
  Calls Tryz.prog 124 #[.pointer (some ⟨rb, 0, none⟩)] w fun e w' => e = .returned (.int .u64 ((Sort.xorNextN X : Nat) : Int)) ∧ Blk w' rb [.int .u64 ((Sort.xorNextN X : Nat) : Int)] t ∧ Chg (fun k => k = rb) w w' := by
 obtain ⟨A, hA⟩ : ∃ A : Nat, A = X ^^^ (X * 8192 % 18446744073709551616) := ⟨_, rfl⟩;obtain ⟨B, a0⟩ : ∃ B : Nat, B = A ^^^ (A / 128) := ⟨_, rfl⟩;obtain ⟨C, hC⟩ : ∃ C : Nat, C = B ^^^ (B * 131072 % 18446744073709551616) := ⟨_, rfl⟩;have lA : A < 18446744073709551616 := by rw [hA]; exact Nat.xor_lt_two_pow (n := 64) (by omega) (by omega)
 have lB : B < 18446744073709551616 := by rw [a0]; exact Nat.xor_lt_two_pow (n := 64) (by omega) (by omega)
 have e1 : bits .xor .u64 (X : Int) (IntKind.u64.wrap ((X : Int) * 8192)) = (A : Int) := by
  rw [IntKind.wrap_u64, show ((X : Int) * 8192 % 18446744073709551616) = ((X * 8192 % 18446744073709551616 : Nat) : Int) by omega, bits_xor_u64_nat _ _ hX (by omega), hA]
 have e2 : bits .xor .u64 (A : Int) ((A : Int) / 128) = (B : Int) := by
  rw [show ((A : Int) / 128) = ((A / 128 : Nat) : Int) by omega, bits_xor_u64_nat _ _ lA (by omega), a0]
 have e3 : bits .xor .u64 (B : Int) (IntKind.u64.wrap ((B : Int) * 131072)) = (C : Int) := by
  rw [IntKind.wrap_u64, show ((B : Int) * 131072 % 18446744073709551616) = ((B * 131072 % 18446744073709551616 : Nat) : Int) by omega, bits_xor_u64_nat _ _ lB (by omega), hC]
 have hv : Sort.xorNextN X = C := by unfold Sort.xorNextN; simp only []; rw [← hA, ← a0, ← hC]
 rw [hv];generalize hPost : (fun (e : Ending) (w' : World) => e = .returned (.int .u64 (C : Int)) ∧ Blk w' rb [.int .u64 (C : Int)] t ∧ Chg (fun k => k = rb) w w') = Post;have a2 : Hid (∀ W, Blk W rb [.int .u64 (C : Int)] t → Chg (fun k => k = rb) w W → Post (.returned (.int .u64 (C : Int))) W) := zH fun W h1 h2 => by rw [← hPost]; exact ⟨rfl, h1, h2⟩
 have a1 := zH hB;have a3 := hB.cell (j := 0) rfl;have a4 := hB.free 0;clear hA a0 hC hv hPost lA lB;go_enter Tryz.func124, Tryz.ntmps124;have a5 : ∀ v v', (w.setCell ⟨rb, 0, none⟩ v).setCell ⟨rb, 0, none⟩ v' = w.setCell ⟨rb, 0, none⟩ v' := fun v v' => B3 w rb 0 v v'
 have HE := zH (a2.out ((w.setCell ⟨rb, 0, none⟩ (.int .u64 (C : Int))).drewN 3) ((a1.out.set 0 (.int .u64 (C : Int))).drewN 3) (((Chg.refl (fun k => k = rb) w).setCell (.inl rfl) 0 _).drewN 3))
 go_wp2
 go_region
 all_goals go_wp2
 all_goals go_region
 all_goals go_wp2
 all_goals go_region
 all_goals go_wp2
 first | exact HE.out | (go_ret; exact HE.out)
end Go.Proofs.YtjgjohdeeeoeoaaGreatDoor
