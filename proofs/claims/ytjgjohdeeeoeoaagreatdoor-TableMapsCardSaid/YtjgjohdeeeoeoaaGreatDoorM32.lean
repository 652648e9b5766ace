/- partition, partitionEqual at uint32. -/
import Derived.Test.YtjgjohdeeeoeoaaGreatDoorM31
set_option linter.all false
namespace Go.Proofs.YtjgjohdeeeoeoaaGreatDoor
open Go.RowKit
attribute [local go_sem] Oper.semAt_some
variable {d1 : Array Nat} {a b i2 j2 : Nat}
section
variable {p : Nat → Bool} {d : Array Nat} {i j : Nat}
theorem M5 (h : i ≤ j) (hp : p d[i]! = true) : Sort.scanUp p d j i = Sort.scanUp p d j (i + 1) := by
 rw [Sort.scanUp, hp];simp [h]
theorem yu (hp : p d[i]! = false) : Sort.scanUp p d j i = i := by
 rw [Sort.scanUp, hp];simp
theorem Dq (h : ¬ i ≤ j) : Sort.scanUp p d j i = i := by
 rw [Sort.scanUp];simp [h]
theorem Dk (h : i ≤ j + 1) (hp : p d[j + 1]! = true) : Sort.scanDown p d i (j + 1) = Sort.scanDown p d i j := by
 rw [Sort.scanDown, hp];simp [h]
theorem vd (hp : p d[j]! = false) : Sort.scanDown p d i j = j := by
 cases j with
 | zero => rfl
 | succ j => rw [Sort.scanDown, hp]; simp
theorem p4 (h : ¬ i ≤ j) : Sort.scanDown p d i j = j := by
 cases j with
 | zero => rfl
 | succ j => rw [Sort.scanDown]; simp [h]
end
def pU (d : Array Nat) (a : Nat) (x : Nat) : Bool := ao x d[a]!
def pD (d : Array Nat) (a : Nat) (x : Nat) : Bool := !ao x d[a]!
def qU (d : Array Nat) (a : Nat) (x : Nat) : Bool := !ao d[a]! x
def qD (d : Array Nat) (a : Nat) (x : Nat) : Bool := ao d[a]! x
theorem Uc {i j : Nat} {d : Array Nat} (h1 : Sort.scanUp (pU d a) d j i = i2) (h2 : Sort.scanDown (pD d a) d i2 j = j2) (h : j2 < i2) : Sort.partLoop ao a i j d = (j2, d) := by
 rw [Sort.partLoop];have a0 : Sort.scanUp (fun x => ao x d[a]!) d j i = i2 := h1;have a1 : Sort.scanDown (fun x => !ao x d[a]!) d i2 j = j2 := h2;simp only [a0, a1];rw [if_pos (by omega)]
theorem a26 {i j : Nat} {d : Array Nat} (h1 : Sort.scanUp (pU d a) d j i = i2) (h2 : Sort.scanDown (pD d a) d i2 j = j2) (h : i2 ≤ j2) (hi : i ≤ i2) (hj : j2 ≤ j) (h0 : 1 ≤ i2) : Sort.partLoop ao a i j d = Sort.partLoop ao a (i2 + 1) (j2 - 1) (Sort.swp d i2 j2) := by
 conv => lhs; rw [Sort.partLoop]
 have a0 : Sort.scanUp (fun x => ao x d[a]!) d j i = i2 := h1;have a1 : Sort.scanDown (fun x => !ao x d[a]!) d i2 j = j2 := h2;simp only [a0, a1];rw [if_neg (by omega), dif_pos (by omega)]
theorem De {i j : Nat} {d : Array Nat} (h1 : Sort.scanUp (qU d a) d j i = i2) (h2 : Sort.scanDown (qD d a) d i2 j = j2) (h : j2 < i2) : Sort.partEqLoop ao a i j d = (i2, d) := by
 rw [Sort.partEqLoop];have a0 : Sort.scanUp (fun x => !ao d[a]! x) d j i = i2 := h1;have a1 : Sort.scanDown (fun x => ao d[a]! x) d i2 j = j2 := h2;simp only [a0, a1];rw [if_pos (by omega)]
theorem Zw {i j : Nat} {d : Array Nat} (h1 : Sort.scanUp (qU d a) d j i = i2) (h2 : Sort.scanDown (qD d a) d i2 j = j2) (h : i2 ≤ j2) (hi : i ≤ i2) (hj : j2 ≤ j) (h0 : 1 ≤ i2) : Sort.partEqLoop ao a i j d = Sort.partEqLoop ao a (i2 + 1) (j2 - 1) (Sort.swp d i2 j2) := by
 conv => lhs; rw [Sort.partEqLoop]
 have a0 : Sort.scanUp (fun x => !ao d[a]! x) d j i = i2 := h1;have a1 : Sort.scanDown (fun x => ao d[a]! x) d i2 j = j2 := h2;simp only [a0, a1];rw [if_neg (by omega), dif_pos (by omega)]
theorem Ls {p i j : Nat} {d : Array Nat} (hd : Sort.swp d a p = d1) (h1 : Sort.scanUp (pU d1 a) d1 (b - 1) (a + 1) = i) (h2 : Sort.scanDown (pD d1 a) d1 i (b - 1) = j) (h : j < i) : Sort.partition ao d a b p = (j, true, Sort.swp d1 j a) := by
 subst hd;unfold Sort.partition;have a0 : Sort.scanUp (fun x => ao x (Sort.swp d a p)[a]!) (Sort.swp d a p) (b - 1) (a + 1) = i := h1;have a1 : Sort.scanDown (fun x => !ao x (Sort.swp d a p)[a]!) (Sort.swp d a p) i (b - 1) = j := h2;simp only [a0, a1];rw [if_pos (by omega)]
theorem Yu {p i j : Nat} {d : Array Nat} (hd : Sort.swp d a p = d1) (h1 : Sort.scanUp (pU d1 a) d1 (b - 1) (a + 1) = i) (h2 : Sort.scanDown (pD d1 a) d1 i (b - 1) = j) (h : i ≤ j) : Sort.partition ao d a b p = ((Sort.partLoop ao a (i + 1) (j - 1) (Sort.swp d1 i j)).1, false, Sort.swp (Sort.partLoop ao a (i + 1) (j - 1) (Sort.swp d1 i j)).2 (Sort.partLoop ao a (i + 1) (j - 1) (Sort.swp d1 i j)).1 a) := by
 subst hd;unfold Sort.partition;have a0 : Sort.scanUp (fun x => ao x (Sort.swp d a p)[a]!) (Sort.swp d a p) (b - 1) (a + 1) = i := h1;have a1 : Sort.scanDown (fun x => !ao x (Sort.swp d a p)[a]!) (Sort.swp d a p) i (b - 1) = j := h2;simp only [a0, a1];rw [if_neg (by omega)]
def Qo (g : Nat) (m : Nat) (al : Bool) (d : Array Nat) (rest : List Value) (w : World) (e : Ending) (W : World) : Prop := e = .returned (.tuple #[.int .i64 (m : Int), .bool al]) ∧ SoW g w d rest W
def Qp (g : Nat) (m : Nat) (d : Array Nat) (rest : List Value) (w : World) (e : Ending) (W : World) : Prop := e = .returned (.int .i64 (m : Int)) ∧ SoW g w d rest W
set_option maxRecDepth 100000 in
set_option maxHeartbeats 16000000 in
theorem U6 (g cap a b p n : Nat) (d : Array Nat) (rest : List Value) (w : World) (hU : UAt w g d rest) (hn : d.size = n) (hc : n ≤ cap) (hap : a ≤ p) (hpb : p < b) (hb : b ≤ n) (h64 : n ≤ 64) :
  Calls Tryz.prog 115 #[.slice (some ⟨g, 0, none⟩) n cap, .int .i64 (a : Int), .int .i64 (b : Int), .int .i64 (p : Int)] w (Qo g (Sort.partition ao d a b p).1 (Sort.partition ao d a b p).2.1 (Sort.partition ao d a b p).2.2 rest w) := by
 obtain ⟨R, hR⟩ : ∃ R, Sort.partition ao d a b p = R := ⟨_, rfl⟩;rw [hR];obtain ⟨b1, rfl⟩ : ∃ b1, b = b1 + 1 := ⟨b - 1, by omega⟩;have HR := zH hR;generalize hPost : Qo g R.1 R.2.1 R.2.2 rest w = Post;have ap : Hid (∀ (m : Nat) (al : Bool) (e : Array Nat) (W : World), R = (m, al, e) → SoW g w e rest W → Post (.returned (.tuple #[.int .i64 (m : Int), .bool al])) W) := zH fun m al e W hr h => by rw [← hPost, hr]; exact ⟨rfl, h⟩
 have HN := zH hn; have HC : Hid (n ≤ cap) := zH hc; have HB : Hid (a ≤ p ∧ p < b1 + 1 ∧ b1 + 1 ≤ n ∧ n ≤ 64) := zH ⟨hap, hpb, hb, h64⟩;have HS := zH (SoW.start hU);have a1 := zH hn;have bl : ((b1 + 1 : Nat) : Int) - 1 = (b1 : Int) := by omega
 have bg : (b1 : Int) + 1 - 1 = (b1 : Int) := by omega
 have bm := IntWalk.i64_in ((b1 : Int)) (by omega);have bh := IntWalk.i64_in ((a : Int) + 1) (by omega);have bc := HC.out;have HU : Hid (UAt w.drew g d rest) := zH HS.out.drew.at_;have bk := HB.out;clear hR hPost hU hn hc hap hpb hb h64;go_enter Tryz.func115, Tryz.ntmps115
 go_upto_region 1 with fail
 have q1 := HS.out.at_.cell (k := a) (by rw [a1.out]; omega); have q2 := HS.out.at_.cell (k := p) (by rw [a1.out]; omega); have q3 := Blk.free HS.out.at_ (a); have q4 := Blk.free HS.out.at_ (p);obtain ⟨v5, q5⟩ := cell?_setCell_some (p := ⟨g, a, none⟩) (x := .int .u32 ((d[p]! : Nat) : Int)) q2
 go_region
 refine fl (S := fun W => SoW g w (Sort.swp d (a) (p)) rest W) ((HS.out.drewN _).swap (i := a) (j := p) (by rw [a1.out]; omega) (by rw [a1.out]; omega)) fun W9 hs2 => ?_
 have a5 := zH hs2;clear hs2 q1 q2 q3 q4 q5 v5;obtain ⟨d1, aq⟩ : ∃ x, Sort.swp d a p = x := ⟨_, rfl⟩;have av := zH aq;rw [aq] at a5;have a1 : Hid (d1.size = n) := zH (by rw [← aq, c8]; exact HN.out);obtain ⟨i1, ax⟩ : ∃ x, Sort.scanUp (pU d1 a) d1 b1 (a + 1) = x := ⟨_, rfl⟩;have b2 := zH ax;have af := zH ax;have aj : Hid (a + 1 ≤ b1 + 2 ∧ b1 + 1 ≤ n ∧ n ≤ cap ∧ n ≤ 64) := zH ⟨by omega, by omega, bc, by omega⟩;clear aq ax HU HS
 go_wp2_with fail
 go_loopw [10] (fun i wr => ∃ (ki : Nat), i = .int .i64 (ki : Int) ∧ (a + 1) ≤ ki ∧ ki ≤ b1 + 2 ∧ Sort.scanUp (pU d1 a) d1 b1 ki = i1 ∧ SoW g w d1 rest wr) (fun i _ => b1 + 3 - (intOf i).toNat)
 case atStart => exact ⟨(a + 1), by first | rfl | go_num, by omega, by have := aj.out; omega, b2.out, a5.out⟩
 case round =>
  clear a5 b2;obtain ⟨ki, rfl, bd, bf, aa, hs⟩ := hrel;have a4 := zH aa; have HS := zH hs;have HU : Hid (UAt wr.drew g d1 rest) := zH hs.drew.at_;clear aa hs;have bb := aj.out;by_cases hij : ki ≤ b1
  ·obtain ⟨mm, a3⟩ : ∃ mm, ao d1[ki]! d1[a]! = mm := ⟨_, rfl⟩
   have a8 := zH a3;cases mm
   case true =>
    have a6 : Hid (Sort.scanUp (pU d1 a) d1 b1 (ki + 1) = i1) := zH (by rw [← a4.out, M5 hij (by unfold pU; rw [a3] <;> rfl)]);have b0 := IntWalk.i64_in ((ki : Int) + 1) (by omega);clear a3
    go_upto_region 3 with fail
    have q1 := HS.out.at_.cell (k := ki) (by rw [a1.out]; omega); have q2 := HS.out.at_.cell (k := a) (by rw [a1.out]; omega)
    go_big_quiet (first | (go_at_call 113; refine Calls.quiet_of_same (cy a8.out _)))
    have a0 := HS.out.drewN nq;generalize wr.drewN nq = W8 at a0 ⊢;have a2 := zH a0;clear a0 HU q1 q2
    go_wp2_with fail
    go_roundw
    case rel => exact ⟨ki + 1, by go_num, by omega, by omega, a6.out, a2.out⟩
    case measure => first | (simp [intOf]; done) | (simp [intOf]; omega)
   case false =>
    obtain rfl : i1 = ki := a4.out.symm.trans (yu (by unfold pU; rw [a3] <;> rfl));clear a3
    go_upto_region 3 with fail
    have q1 := HS.out.at_.cell (k := i1) (by rw [a1.out]; omega); have q2 := HS.out.at_.cell (k := a) (by rw [a1.out]; omega)
    go_big_quiet (first | (go_at_call 113; refine Calls.quiet_of_same (cy a8.out _)))
    have a0 := HS.out.drewN nq;generalize wr.drewN nq = W8 at a0 ⊢;have a2 := zH a0;clear a0 HU q1 q2;have HS := zH a2.out;obtain ⟨j1, an⟩ : ∃ x, Sort.scanDown (pD d1 a) d1 i1 b1 = x := ⟨_, rfl⟩;have b4 := zH an;have ab := zH an;clear an a4
    go_wp2_with fail
    go_loopw [11] (fun j wr => ∃ (kj : Nat), j = .int .i64 (kj : Int) ∧ kj ≤ b1 ∧ Sort.scanDown (pD d1 a) d1 i1 kj = j1 ∧ SoW g w d1 rest wr) (fun j _ => (intOf j).toNat)
    case atStart => exact ⟨b1, by first | rfl | go_num, by omega, b4.out, HS.out⟩
    case round =>
     clear HS b4;obtain ⟨kj, rfl, an, aa, hs⟩ := hrel;have a4 := zH aa; have HS := zH hs;have HU : Hid (UAt wr.drew g d1 rest) := zH hs.drew.at_;clear aa hs;by_cases hij2 : i1 ≤ kj
     ·obtain ⟨mm, a3⟩ : ∃ mm, ao d1[kj]! d1[a]! = mm := ⟨_, rfl⟩
      have a8 := zH a3;cases mm
      case false =>
       obtain ⟨ae, a7⟩ : ∃ ae, kj = ae + 1 := ⟨kj - 1, by omega⟩;have a6 : Hid (Sort.scanDown (pD d1 a) d1 i1 ae = j1) := zH (by rw [← a4.out, a7, Dk (by omega) (by rw [← a7]; unfold pD; rw [a3] <;> rfl)]);have b0 := IntWalk.i64_in ((kj : Int) - 1) (by omega);clear a3
       go_upto_region 5 with fail
       have q1 := HS.out.at_.cell (k := kj) (by rw [a1.out]; omega); have q2 := HS.out.at_.cell (k := a) (by rw [a1.out]; omega);have am := zH a7; clear a7
       go_big_quiet (first | (go_at_call 113; refine Calls.quiet_of_same (cy a8.out _)))
       have a0 := HS.out.drewN nq;generalize wr.drewN nq = W8 at a0 ⊢;have a2 := zH a0;clear a0 HU q1 q2
       go_wp2_with fail
       go_roundw
       case rel => have a7 := am.out; exact ⟨ae, by go_num, by omega, a6.out, a2.out⟩
       case measure => have a7 := am.out; first | (simp [intOf]; done) | (simp [intOf]; omega)
      case true =>
       obtain rfl : j1 = kj := a4.out.symm.trans (vd (by unfold pD; rw [a3] <;> rfl));clear a3
       go_upto_region 5 with fail
       have q1 := HS.out.at_.cell (k := j1) (by rw [a1.out]; omega); have q2 := HS.out.at_.cell (k := a) (by rw [a1.out]; omega)
       go_big_quiet (first | (go_at_call 113; refine Calls.quiet_of_same (cy a8.out _)))
       have a0 := HS.out.drewN nq;generalize wr.drewN nq = W8 at a0 ⊢;have a2 := zH a0;clear a0 HU q1 q2;have HS := zH a2.out;have HU : Hid (UAt W8.drew g d1 rest) := zH HS.out.drew.at_;have b6 := zH (Yu (b := b1 + 1) av.out af.out ab.out (by omega));have bi := IntWalk.i64_in ((i1 : Int) + 1) (by omega);have bj := IntWalk.i64_in ((j1 : Int) - 1) (by omega)
       go_upto_region 10 with fail
       have q1 := HS.out.at_.cell (k := i1) (by rw [a1.out]; omega); have q2 := HS.out.at_.cell (k := j1) (by rw [a1.out]; omega); have q3 := Blk.free HS.out.at_ (i1); have q4 := Blk.free HS.out.at_ (j1);obtain ⟨v5, q5⟩ := cell?_setCell_some (p := ⟨g, i1, none⟩) (x := .int .u32 ((d1[j1]! : Nat) : Int)) q2
       go_region
       refine fl (S := fun W => SoW g w (Sort.swp d1 (i1) (j1)) rest W) ((HS.out.drewN _).swap (i := i1) (j := j1) (by rw [a1.out]; omega) (by rw [a1.out]; omega)) fun W9 hs2 => ?_
       have a5 := zH hs2;clear hs2 q1 q2 q3 q4 q5 v5;obtain ⟨d2, ar⟩ : ∃ x, Sort.swp d1 i1 j1 = x := ⟨_, rfl⟩;obtain ⟨R2, aw⟩ : ∃ x, Sort.partLoop ao a (i1 + 1) (j1 - 1) d2 = x := ⟨_, rfl⟩;have b7 : Hid (R = (R2.1, false, Sort.swp R2.2 R2.1 a)) := zH (by rw [← HR.out, b6.out, ar, aw]);have ai := zH aw;rw [ar] at a5;have ak : Hid (d2.size = n) := zH (by rw [← ar, c8]; exact a1.out);have au : Hid (a < i1 ∧ j1 ≤ b1 ∧ i1 ≤ j1) := zH ⟨by omega, by omega, by omega⟩;clear ar aw HU HS a4 a1 b6 a8
       go_wp2_with fail
       go_loopw [10, 11] (fun i j wr => ∃ (ki kj : Nat) (dk : Array Nat), i = .int .i64 (ki : Int) ∧ j = .int .i64 (kj : Int) ∧ a < ki ∧ ki ≤ kj + 2 ∧ kj ≤ b1 ∧ dk.size = n ∧ Sort.partLoop ao a ki kj dk = R2 ∧ SoW g w dk rest wr) (fun _ j _ => (intOf j).toNat)
       case atStart => exact ⟨i1 + 1, j1 - 1, d2, by go_num, by go_num, by have := au.out; omega, by have := au.out; omega, by have := au.out; omega, ak.out, ai.out, a5.out⟩
       case round =>
        clear a5 ai ak;obtain ⟨k0, l0, dk, rfl, rfl, h1, h2, h3, b9, ba, hs⟩ := hrel;have a1 := zH b9; have ai := zH ba; have b8 := zH hs;obtain ⟨i3, ay⟩ : ∃ x, Sort.scanUp (pU dk a) dk l0 k0 = x := ⟨_, rfl⟩;have b3 := zH ay;have ag := zH ay;have aj : Hid (k0 ≤ l0 + 2 ∧ l0 + 1 ≤ n ∧ n ≤ cap ∧ n ≤ 64) := zH ⟨h2, by omega, by omega, by omega⟩;clear b9 ba hs ay
        go_wp2_with fail
        go_loopw [10] (fun i wr => ∃ (ki : Nat), i = .int .i64 (ki : Int) ∧ k0 ≤ ki ∧ ki ≤ l0 + 2 ∧ Sort.scanUp (pU dk a) dk l0 ki = i3 ∧ SoW g w dk rest wr) (fun i _ => l0 + 3 - (intOf i).toNat)
        case atStart => exact ⟨k0, by first | rfl | go_num, by omega, by have := aj.out; omega, b3.out, b8.out⟩
        case round =>
         clear b8 b3;obtain ⟨ki, rfl, bd, bf, aa, hs⟩ := hrel;have a4 := zH aa; have HS := zH hs;have HU : Hid (UAt wr.drew g dk rest) := zH hs.drew.at_;clear aa hs;have bb := aj.out;by_cases hij : ki ≤ l0
         ·obtain ⟨mm, a3⟩ : ∃ mm, ao dk[ki]! dk[a]! = mm := ⟨_, rfl⟩
          have a8 := zH a3;cases mm
          case true =>
           have a6 : Hid (Sort.scanUp (pU dk a) dk l0 (ki + 1) = i3) := zH (by rw [← a4.out, M5 hij (by unfold pU; rw [a3] <;> rfl)]);have b0 := IntWalk.i64_in ((ki : Int) + 1) (by omega);clear a3
           go_upto_region 13 with fail
           have q1 := HS.out.at_.cell (k := ki) (by rw [a1.out]; omega); have q2 := HS.out.at_.cell (k := a) (by rw [a1.out]; omega)
           go_big_quiet (first | (go_at_call 113; refine Calls.quiet_of_same (cy a8.out _)))
           have a0 := HS.out.drewN nq;generalize wr.drewN nq = W8 at a0 ⊢;have a2 := zH a0;clear a0 HU q1 q2
           go_wp2_with fail
           go_roundw
           case rel => exact ⟨ki + 1, by go_num, by omega, by omega, a6.out, a2.out⟩
           case measure => first | (simp [intOf]; done) | (simp [intOf]; omega)
          case false =>
           obtain rfl : i3 = ki := a4.out.symm.trans (yu (by unfold pU; rw [a3] <;> rfl));clear a3
           go_upto_region 13 with fail
           have q1 := HS.out.at_.cell (k := i3) (by rw [a1.out]; omega); have q2 := HS.out.at_.cell (k := a) (by rw [a1.out]; omega)
           go_big_quiet (first | (go_at_call 113; refine Calls.quiet_of_same (cy a8.out _)))
           have a0 := HS.out.drewN nq;generalize wr.drewN nq = W8 at a0 ⊢;have a2 := zH a0;clear a0 HU q1 q2;have HS := zH a2.out;obtain ⟨j3, az⟩ : ∃ x, Sort.scanDown (pD dk a) dk i3 l0 = x := ⟨_, rfl⟩;have b5 := zH az;have ad := zH az;clear az a4
           go_wp2_with fail
           go_loopw [11] (fun j wr => ∃ (kj : Nat), j = .int .i64 (kj : Int) ∧ kj ≤ l0 ∧ Sort.scanDown (pD dk a) dk i3 kj = j3 ∧ SoW g w dk rest wr) (fun j _ => (intOf j).toNat)
           case atStart => exact ⟨l0, by first | rfl | go_num, by omega, b5.out, HS.out⟩
           case round =>
            clear HS b5;obtain ⟨kj, rfl, an, aa, hs⟩ := hrel;have a4 := zH aa; have HS := zH hs;have HU : Hid (UAt wr.drew g dk rest) := zH hs.drew.at_;clear aa hs;by_cases hij2 : i3 ≤ kj
            ·obtain ⟨mm, a3⟩ : ∃ mm, ao dk[kj]! dk[a]! = mm := ⟨_, rfl⟩
             have a8 := zH a3;cases mm
             case false =>
              obtain ⟨ae, a7⟩ : ∃ ae, kj = ae + 1 := ⟨kj - 1, by omega⟩;have a6 : Hid (Sort.scanDown (pD dk a) dk i3 ae = j3) := zH (by rw [← a4.out, a7, Dk (by omega) (by rw [← a7]; unfold pD; rw [a3] <;> rfl)]);have b0 := IntWalk.i64_in ((kj : Int) - 1) (by omega);clear a3
              go_upto_region 15 with fail
              have q1 := HS.out.at_.cell (k := kj) (by rw [a1.out]; omega); have q2 := HS.out.at_.cell (k := a) (by rw [a1.out]; omega);have am := zH a7; clear a7
              go_big_quiet (first | (go_at_call 113; refine Calls.quiet_of_same (cy a8.out _)))
              have a0 := HS.out.drewN nq;generalize wr.drewN nq = W8 at a0 ⊢;have a2 := zH a0;clear a0 HU q1 q2
              go_wp2_with fail
              go_roundw
              case rel => have a7 := am.out; exact ⟨ae, by go_num, by omega, a6.out, a2.out⟩
              case measure => have a7 := am.out; first | (simp [intOf]; done) | (simp [intOf]; omega)
             case true =>
              obtain rfl : j3 = kj := a4.out.symm.trans (vd (by unfold pD; rw [a3] <;> rfl));clear a3
              go_upto_region 15 with fail
              have q1 := HS.out.at_.cell (k := j3) (by rw [a1.out]; omega); have q2 := HS.out.at_.cell (k := a) (by rw [a1.out]; omega)
              go_big_quiet (first | (go_at_call 113; refine Calls.quiet_of_same (cy a8.out _)))
              have a0 := HS.out.drewN nq;generalize wr.drewN nq = W8 at a0 ⊢;have a2 := zH a0;clear a0 HU q1 q2;have HS := zH a2.out;have HU : Hid (UAt W8.drew g dk rest) := zH HS.out.drew.at_;have a9 : Hid (Sort.partLoop ao a (i3 + 1) (j3 - 1) (Sort.swp dk i3 j3) = R2) := zH (by rw [← ai.out]; exact (a26 ag.out ad.out (by omega) (by omega) (by omega) (by omega)).symm);have bi := IntWalk.i64_in ((i3 : Int) + 1) (by omega);have bj := IntWalk.i64_in ((j3 : Int) - 1) (by omega)
              go_upto_region 18 with fail
              have q1 := HS.out.at_.cell (k := i3) (by rw [a1.out]; omega); have q2 := HS.out.at_.cell (k := j3) (by rw [a1.out]; omega); have q3 := Blk.free HS.out.at_ (i3); have q4 := Blk.free HS.out.at_ (j3);obtain ⟨v5, q5⟩ := cell?_setCell_some (p := ⟨g, i3, none⟩) (x := .int .u32 ((dk[j3]! : Nat) : Int)) q2
              go_region
              refine fl (S := fun W => SoW g w (Sort.swp dk (i3) (j3)) rest W) ((HS.out.drewN _).swap (i := i3) (j := j3) (by rw [a1.out]; omega) (by rw [a1.out]; omega)) fun W9 hs2 => ?_
              have a5 := zH hs2;clear hs2 q1 q2 q3 q4 q5 v5;clear HU
              go_wp2_with fail
              go_roundw
              case rel => exact ⟨i3 + 1, j3 - 1, _, by go_num, by go_num, by omega, by omega, by omega, by rw [c8]; exact a1.out, a9.out, a5.out⟩
              case measure => first | (simp [intOf]; done) | (simp [intOf]; omega)
            ·obtain rfl : j3 = kj := a4.out.symm.trans (p4 hij2)
             go_upto_region 15 with fail
             go_big_quiet (first | (go_at_call 113; refine Calls.quiet_of_same (cy (by assumption) _)))
             have a0 := HS.out.drewN nq;generalize wr.drewN nq = W8 at a0 ⊢;have a2 := zH a0;clear a0 HU;have HS := zH a2.out;have a9 : Hid (R2 = (j3, dk)) := zH (by rw [← ai.out]; exact Uc ag.out ad.out (by omega));have HU : Hid (UAt W8.drew g dk rest) := zH HS.out.drew.at_;have ah : Hid (R = (j3, false, Sort.swp dk j3 a)) := zH (by rw [b7.out, a9.out])
             go_upto_region 21 with fail
             have q1 := HS.out.at_.cell (k := j3) (by rw [a1.out]; omega); have q2 := HS.out.at_.cell (k := a) (by rw [a1.out]; omega); have q3 := Blk.free HS.out.at_ (j3); have q4 := Blk.free HS.out.at_ (a);obtain ⟨v5, q5⟩ := cell?_setCell_some (p := ⟨g, j3, none⟩) (x := .int .u32 ((dk[a]! : Nat) : Int)) q2
             go_region
             refine fl (S := fun W => SoW g w (Sort.swp dk (j3) (a)) rest W) ((HS.out.drewN _).swap (i := j3) (j := a) (by rw [a1.out]; omega) (by rw [a1.out]; omega)) fun W9 hs2 => ?_
             have a5 := zH hs2;clear hs2 q1 q2 q3 q4 q5 v5;have HE := zH (ap.out _ _ _ _ ah.out a5.out);clear HU
             go_wp2_with fail
             first | exact HE.out | (go_end0; exact HE.out) | (go_ret2; exact HE.out) | (go_ret; exact HE.out)
         ·obtain rfl : i3 = ki := a4.out.symm.trans (Dq hij)
          go_upto_region 13 with fail
          go_big_quiet (first | (go_at_call 113; refine Calls.quiet_of_same (cy (by assumption) _)))
          have a0 := HS.out.drewN nq;generalize wr.drewN nq = W8 at a0 ⊢;have a2 := zH a0;clear a0 HU;have HS := zH a2.out;have ad : Hid (Sort.scanDown (pD dk a) dk i3 l0 = l0) := zH (p4 hij);clear a4
          go_wp2_with fail
          go_loopw [11] (fun j wr => j = .int .i64 (l0 : Int) ∧ SoW g w dk rest wr) (fun _ _ => 0)
          case atStart => exact ⟨by first | rfl | go_num, HS.out⟩
          case round =>
           clear HS;obtain ⟨rfl, hs⟩ := hrel;have HS := zH hs;have HU : Hid (UAt wr.drew g dk rest) := zH hs.drew.at_;clear hs
           go_upto_region 15 with fail
           go_big_quiet (first | (go_at_call 113; refine Calls.quiet_of_same (cy (by assumption) _)))
           have a0 := HS.out.drewN nq;generalize wr.drewN nq = W8 at a0 ⊢;have a2 := zH a0;clear a0 HU;have HS := zH a2.out;have a9 : Hid (R2 = (l0, dk)) := zH (by rw [← ai.out]; exact Uc ag.out ad.out (by omega));have HU : Hid (UAt W8.drew g dk rest) := zH HS.out.drew.at_;have ah : Hid (R = (l0, false, Sort.swp dk l0 a)) := zH (by rw [b7.out, a9.out])
           go_upto_region 21 with fail
           have q1 := HS.out.at_.cell (k := l0) (by rw [a1.out]; omega); have q2 := HS.out.at_.cell (k := a) (by rw [a1.out]; omega); have q3 := Blk.free HS.out.at_ (l0); have q4 := Blk.free HS.out.at_ (a);obtain ⟨v5, q5⟩ := cell?_setCell_some (p := ⟨g, l0, none⟩) (x := .int .u32 ((dk[a]! : Nat) : Int)) q2
           go_region
           refine fl (S := fun W => SoW g w (Sort.swp dk (l0) (a)) rest W) ((HS.out.drewN _).swap (i := l0) (j := a) (by rw [a1.out]; omega) (by rw [a1.out]; omega)) fun W9 hs2 => ?_
           have a5 := zH hs2;clear hs2 q1 q2 q3 q4 q5 v5;have HE := zH (ap.out _ _ _ _ ah.out a5.out);clear HU
           go_wp2_with fail
           first | exact HE.out | (go_end0; exact HE.out) | (go_ret2; exact HE.out) | (go_ret; exact HE.out)
     ·obtain rfl : j1 = kj := a4.out.symm.trans (p4 hij2)
      go_upto_region 5 with fail
      go_big_quiet (first | (go_at_call 113; refine Calls.quiet_of_same (cy (by assumption) _)))
      have a0 := HS.out.drewN nq;generalize wr.drewN nq = W8 at a0 ⊢;have a2 := zH a0;clear a0 HU;have HS := zH a2.out;have HU : Hid (UAt W8.drew g d1 rest) := zH HS.out.drew.at_;have ah : Hid (R = (j1, true, Sort.swp d1 j1 a)) := zH (by rw [← HR.out]; exact Ls (b := b1 + 1) av.out af.out ab.out (by omega))
      go_upto_region 8 with fail
      have q1 := HS.out.at_.cell (k := j1) (by rw [a1.out]; omega); have q2 := HS.out.at_.cell (k := a) (by rw [a1.out]; omega); have q3 := Blk.free HS.out.at_ (j1); have q4 := Blk.free HS.out.at_ (a);obtain ⟨v5, q5⟩ := cell?_setCell_some (p := ⟨g, j1, none⟩) (x := .int .u32 ((d1[a]! : Nat) : Int)) q2
      go_region
      refine fl (S := fun W => SoW g w (Sort.swp d1 (j1) (a)) rest W) ((HS.out.drewN _).swap (i := j1) (j := a) (by rw [a1.out]; omega) (by rw [a1.out]; omega)) fun W9 hs2 => ?_
      have a5 := zH hs2;clear hs2 q1 q2 q3 q4 q5 v5;have HE := zH (ap.out _ _ _ _ ah.out a5.out);clear HU
      go_wp2_with fail
      first | exact HE.out | (go_end0; exact HE.out) | (go_ret2; exact HE.out) | (go_ret; exact HE.out)
  ·obtain rfl : i1 = ki := a4.out.symm.trans (Dq hij)
   go_upto_region 3 with fail
   go_big_quiet (first | (go_at_call 113; refine Calls.quiet_of_same (cy (by assumption) _)))
   have a0 := HS.out.drewN nq;generalize wr.drewN nq = W8 at a0 ⊢;have a2 := zH a0;clear a0 HU;have HS := zH a2.out;have ab : Hid (Sort.scanDown (pD d1 a) d1 i1 b1 = b1) := zH (p4 hij);clear a4
   go_wp2_with fail
   go_loopw [11] (fun j wr => j = .int .i64 (b1 : Int) ∧ SoW g w d1 rest wr) (fun _ _ => 0)
   case atStart => exact ⟨by first | rfl | go_num, HS.out⟩
   case round =>
    clear HS;obtain ⟨rfl, hs⟩ := hrel;have HS := zH hs;have HU : Hid (UAt wr.drew g d1 rest) := zH hs.drew.at_;clear hs
    go_upto_region 5 with fail
    go_big_quiet (first | (go_at_call 113; refine Calls.quiet_of_same (cy (by assumption) _)))
    have a0 := HS.out.drewN nq;generalize wr.drewN nq = W8 at a0 ⊢;have a2 := zH a0;clear a0 HU;have HS := zH a2.out;have HU : Hid (UAt W8.drew g d1 rest) := zH HS.out.drew.at_;have ah : Hid (R = (b1, true, Sort.swp d1 b1 a)) := zH (by rw [← HR.out]; exact Ls (b := b1 + 1) av.out af.out ab.out (by omega))
    go_upto_region 8 with fail
    have q1 := HS.out.at_.cell (k := b1) (by rw [a1.out]; omega); have q2 := HS.out.at_.cell (k := a) (by rw [a1.out]; omega); have q3 := Blk.free HS.out.at_ (b1); have q4 := Blk.free HS.out.at_ (a);obtain ⟨v5, q5⟩ := cell?_setCell_some (p := ⟨g, b1, none⟩) (x := .int .u32 ((d1[a]! : Nat) : Int)) q2
    go_region
    refine fl (S := fun W => SoW g w (Sort.swp d1 (b1) (a)) rest W) ((HS.out.drewN _).swap (i := b1) (j := a) (by rw [a1.out]; omega) (by rw [a1.out]; omega)) fun W9 hs2 => ?_
    have a5 := zH hs2;clear hs2 q1 q2 q3 q4 q5 v5;have HE := zH (ap.out _ _ _ _ ah.out a5.out);clear HU
    go_wp2_with fail
    first | exact HE.out | (go_end0; exact HE.out) | (go_ret2; exact HE.out) | (go_ret; exact HE.out)
theorem oh {ρ : Operand → Value} {o : Oper} {x y : Operand} {w : World} {c : Nat} (hc : a / b = c) (hb : 0 < b) (ha : a < 1000000) (ho : o.op = .binOp .quo 3 x y 3) (hx : ρ x = .int .i64 (a : Int)) (hy : ρ y = .int .i64 (b : Int)) : (execOp ρ o).run Tryz.prog w = .ok (.value (.int .i64 (c : Int))) w := by
 have e : ((a : Int)).tdiv (b : Int) = ((a / b : Nat) : Int) := by
  rw [Int.tdiv_eq_ediv_of_nonneg (by omega)]; rfl
 have a0 : ((b : Int) == 0) = false := by simp; omega
 have a1 : ¬ (b : Int) = 0 := by omega
 have a2 : ¬ b = 0 := by omega
 have hw : IntKind.i64.wrap ((a : Int) / (b : Int)) = (c : Int) := by
  have h1 := Nat.div_le_self a b;have h2 : (a : Int) / (b : Int) = ((a / b : Nat) : Int) := rfl;rw [h2, hc];rw [hc] at h1;rw [IntKind.wrap_i64];omega
 have a3 : IntKind.i64.wrap (c : Int) = (c : Int) := by
  have h1 := Nat.div_le_self a b;rw [hc] at h1;rw [IntKind.wrap_i64];omega
 unfold execOp;simp only [ho];go_simp
def Down (k : Nat) (v : Value) : Prop := (k = 0 ∧ v = .int .i64 (-1)) ∨ ∃ j, k = j + 1 ∧ v = .int .i64 (j : Int)
theorem Down.next {j : Nat} {v : Int} (h : v = (j : Int) - 1) : Down j (.int .i64 v) := by
 subst h;cases j with
 | zero => left; exact ⟨rfl, rfl⟩
 | succ j => right; exact ⟨j, rfl, by congr 1; omega⟩
theorem K3 (j : Nat) : Down (j + 1) (.int .i64 (j : Int)) := .inr ⟨j, rfl, rfl⟩
theorem Lw {hi f : Nat} : ∀ (r : Nat) (d : Array Nat), (Sort.siftDown ao hi f r d).size = d.size := by
 intro r d;generalize hm : hi - r = m
 induction m using Nat.strongRecOn generalizing r d with
 | _ m ih =>
  by_cases h : hi ≤ 2 * r + 1
  ·rw [Lx h]
  ·by_cases h2 : (decide (2 * r + 1 + 1 < hi) && ao d[f + (2 * r + 1)]! d[f + (2 * r + 1) + 1]!) = true
   ·rw [Bool.and_eq_true] at h2
    rw [G0 h (of_decide_eq_true h2.1) h2.2];split
    ·rfl
    ·rw [ih _ (by have := of_decide_eq_true h2.1; omega) _ _ rfl, c8]
   ·rw [Bool.not_eq_true] at h2
    rw [Dj h h2];split
    ·rfl
    ·rw [ih _ (by omega) _ _ rfl, c8]
set_option maxRecDepth 100000 in
set_option maxHeartbeats 8000000 in
theorem Sx (g cap a b n : Nat) (d : Array Nat) (rest : List Value) (w : World) (hU : UAt w g d rest) (hn : d.size = n) (hc : n ≤ cap) (hab : a < b) (hb : b ≤ n) (h64 : n ≤ 64) :
  Calls Tryz.prog 108 #[.slice (some ⟨g, 0, none⟩) n cap, .int .i64 (a : Int), .int .i64 (b : Int)] w (pw g (Sort.heapSort ao d a b) rest w) := by
 obtain ⟨D, hD⟩ : ∃ D, Sort.heapSort ao d a b = D := ⟨_, rfl⟩;obtain ⟨h1, ag⟩ : ∃ h1, b - a = h1 + 1 := ⟨b - a - 1, by omega⟩;obtain ⟨q, hq⟩ : ∃ q, h1 / 2 = q := ⟨_, rfl⟩;obtain ⟨E, hE⟩ : ∃ E, Sort.heapBuild ao (h1 + 1) a (q + 1) d = E := ⟨_, rfl⟩;rw [hD];have HD : Hid (Sort.heapPop ao a (h1 + 1) E = D) := zH (by rw [← hD, ← hE]; unfold Sort.heapSort; rw [ag, show h1 + 1 - 1 = h1 by omega, hq]);have ae := zH hE;generalize hPost : pw g D rest w = Post;have ah : Hid (∀ W, SoW g w D rest W → Post (.returned (.tuple #[])) W) := zH fun W h => by rw [← hPost]; exact ⟨rfl, h⟩
 have HN := zH hn; have HC : Hid (n ≤ cap) := zH hc; have HB : Hid (a + (h1 + 1) ≤ n ∧ n ≤ 64 ∧ q ≤ h1) := zH ⟨by omega, h64, by rw [← hq]; exact Nat.div_le_self _ _⟩;have HS := zH (SoW.start hU);have HQ := zH hq;have aj : (b : Int) - (a : Int) = ((h1 + 1 : Nat) : Int) := by omega
 have aq := IntWalk.i64_in (((h1 + 1 : Nat) : Int)) (by omega);have al : ((h1 + 1 : Nat) : Int) - 1 = (h1 : Int) := by omega
 have ar := IntWalk.i64_in ((h1 : Int)) (by omega);have ak := IntWalk.i64_in ((h1 : Int) + 1) (by omega);have am : (h1 : Int) + 1 - 1 = (h1 : Int) := by omega
 have HH : Hid (h1 + 1 ≤ 64) := zH (by omega);clear hD hPost hU hn hc hab hb h64 hE hq ag;go_enter Tryz.func108, Tryz.ntmps108
 go_wp2_with (first | (refine a9 rfl (oh (b := 2) HQ.out (by omega) (by have := HH.out; omega) rfl rfl rfl) ?_) | fail)
 go_loopw [9] (fun i wr => ∃ (k : Nat) (dj : Array Nat), Down k i ∧ k ≤ q + 1 ∧ dj.size = n ∧ Sort.heapBuild ao (h1 + 1) a k dj = E ∧ SoW g w dj rest wr) (fun i _ => (intOf i + 1).toNat)
 case atStart => exact ⟨q + 1, d, K3 q, by omega, HN.out, ae.out, HS.out⟩
 case round =>
  clear HS ae aj al;obtain ⟨k, dj, ad, hk, a5, a6, hs⟩ := hrel;have a0 := zH a5; have a1 := zH a6; have HS := zH hs;clear a5 a6 hs;rcases ad with ⟨rfl, rfl⟩ | ⟨j, rfl, rfl⟩
  ·have a4 : dj = E := a1.out
   have a2 : Hid (Sort.heapPop ao a (h1 + 1) dj = D) := zH (by rw [a4]; exact HD.out);clear a4 a1 hk HD
   go_wp2_with fail
   go_loopw [10] (fun i wr => ∃ (k : Nat) (dj : Array Nat), Down k i ∧ k ≤ h1 + 1 ∧ dj.size = n ∧ Sort.heapPop ao a k dj = D ∧ SoW g w dj rest wr) (fun i _ => (intOf i + 1).toNat)
   case atStart => exact ⟨h1 + 1, dj, K3 h1, by omega, a0.out, a2.out, HS.out⟩
   case round =>
    clear HS a2 a0;obtain ⟨k, dj, ad, hk, a5, a6, hs⟩ := hrel;have a0 := zH a5; have a1 := zH a6; have HS := zH hs;have HU : Hid (UAt wr.drew g dj rest) := zH hs.drew.at_;clear a5 a6 hs;rcases ad with ⟨rfl, rfl⟩ | ⟨j, rfl, rfl⟩
    ·have a4 : dj = D := a1.out
     have HE := zH (ah.out _ (by rw [← a4]; exact HS.out));clear a4 a1 hk
     go_wp2_with fail
     first | exact HE.out | (go_end0; exact HE.out) | (go_ret; exact HE.out)
    ·have j1 : (0 : Int) ≤ (j : Int) := by omega
     have an := IntWalk.i64_in ((j : Int) - 1) (by have := HH.out; omega);have ai := HC.out;have ap := HB.out
     go_upto_region 10 with fail
     have q1 := HS.out.at_.cell (k := a) (by rw [a0.out]; omega); have q2 := HS.out.at_.cell (k := a + j) (by rw [a0.out]; omega); have q3 := Blk.free HS.out.at_ (a); have q4 := Blk.free HS.out.at_ (a + j);obtain ⟨v5, q5⟩ := cell?_setCell_some (p := ⟨g, a, none⟩) (x := .int .u32 ((dj[a + j]! : Nat) : Int)) q2
     go_region
     refine fl (S := fun W => SoW g w (Sort.swp dj (a) (a + j)) rest W) ((HS.out.drewN _).swap (i := a) (j := a + j) (by rw [a0.out]; omega) (by rw [a0.out]; omega)) fun W9 hs2 => ?_
     have af := zH hs2;clear hs2 q1 q2 q3 q4 q5 v5;clear HU;have a7 := G3 g cap 0 j a n (Sort.swp dj a (a + j)) rest W9 af.out.at_ (by rw [c8]; exact a0.out) ai (by omega) (by omega) (by omega);have a3 := zH a7;clear a7
     go_wp2_with fail
     refine a3.out.mono ?_;rintro e X8 ⟨rfl, a8⟩;have aa := zH (af.out.trans a8);have ab : Hid ((Sort.siftDown ao j a 0 (Sort.swp dj a (a + j))).size = n) := zH (by rw [Lw, c8]; exact a0.out);clear a8 a3
     go_wp2_with fail
     go_roundw
     case rel => exact ⟨j, _, .next (by go_num), by omega, ab.out, a1.out, aa.out⟩
     case measure => first | (simp [intOf]; done) | (simp [intOf]; omega)
  ·have j1 : (0 : Int) ≤ (j : Int) := by omega
   have an := IntWalk.i64_in ((j : Int) - 1) (by have := HB.out; omega);have a7 := G3 g cap j (h1 + 1) a n dj rest wr HS.out.at_ a0.out HC.out HB.out.1 (by have := HB.out; omega) HB.out.2.1;have a3 := zH a7;clear a7
   go_wp2_with fail
   refine a3.out.mono ?_;rintro e X8 ⟨rfl, a8⟩;have aa := zH (HS.out.trans a8);have ab : Hid ((Sort.siftDown ao (h1 + 1) a j dj).size = n) := zH (by rw [Lw]; exact a0.out);clear a8 a3
   go_wp2_with fail
   go_roundw
   case rel => exact ⟨j, _, .next (by go_num), by omega, ab.out, a1.out, aa.out⟩
   case measure => first | (simp [intOf]; done) | (simp [intOf]; omega)
end Go.Proofs.YtjgjohdeeeoeoaaGreatDoor
