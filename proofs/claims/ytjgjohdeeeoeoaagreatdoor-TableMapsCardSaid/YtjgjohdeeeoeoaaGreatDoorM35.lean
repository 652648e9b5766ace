/- pdqsort, plain: its ways, one equation each. -/
import Derived.Test.YtjgjohdeeeoeoaaGreatDoorM34
import Derived.Deep.CutRange
import Derived.Test.YtjgjohdeeeoeoaaGreatDoorM31
import Derived.Test.YtjgjohdeeeoeoaaGreatDoorM30
namespace Go.Proofs.YtjgjohdeeeoeoaaGreatDoor
open Go.RowKit
theorem Gf : Sort.SWO ao where
 irrefl x := by simp [ao]
 trans x y z h1 h2 := by simp only [ao, decide_eq_true_eq] at *; omega
 ntrans x y z h1 h2 := by simp only [ao, decide_eq_false_iff_not] at *; omega
theorem vx {p : Nat → Bool} {d : Array Nat} {j : Nat} : ∀ (m i : Nat), j + 1 - i ≤ m → i ≤ Sort.scanUp p d j i ∧ (Sort.scanUp p d j i ≤ i ∨ Sort.scanUp p d j i ≤ j + 1)
 | m, i, hm => by
  by_cases h : i ≤ j
  ·by_cases hp : p d[i]! = true
   ·cases m with
    | zero => omega
    | succ m =>
     rw [Js h hp];have := vx (p := p) (d := d) (j := j) m (i + 1) (by omega);omega
   ·rw [Bool.not_eq_true] at hp
    rw [yi hp];omega
  ·rw [Cv h]
   omega
theorem qh {p : Nat → Bool} {d : Array Nat} {i : Nat} : ∀ j : Nat, Sort.scanDown p d i j ≤ j
 | 0 => Nat.le_refl _
 | j + 1 => by
  by_cases h : i ≤ j + 1
  ·by_cases hp : p d[j + 1]! = true
   ·rw [Cj h hp]
    have := qh (p := p) (d := d) (i := i) j;omega
   ·rw [Bool.not_eq_true] at hp
    rw [uv hp];omega
  ·rw [ot h]
   omega
theorem a1n {a b : Nat} : ∀ (m i j : Nat) (d : Array Nat), j ≤ m → 1 ≤ i → i ≤ b → j + 1 ≤ b → i ≤ (Sort.partEqLoop ao a i j d).1 ∧ (Sort.partEqLoop ao a i j d).1 ≤ b ∧ (Sort.partEqLoop ao a i j d).2.size = d.size := by
 intro m
 induction m with
 | zero =>
  intro i j d hm h1 hi hj;obtain ⟨i2, a0⟩ : ∃ x, Sort.scanUp (qU d a) d j i = x := ⟨_, rfl⟩;obtain ⟨j2, a1⟩ : ∃ x, Sort.scanDown (qD d a) d i2 j = x := ⟨_, rfl⟩;have b1 := vx (p := qU d a) (d := d) (j := j) _ i (Nat.le_refl _);have b2 := qh (p := qD d a) (d := d) (i := i2) j;rw [a0] at b1;rw [a1] at b2;rw [Cr a0 a1 (by omega)];exact ⟨by simp only; omega, by simp only; omega, rfl⟩
 | succ m ih =>
  intro i j d hm h1 hi hj;obtain ⟨i2, a0⟩ : ∃ x, Sort.scanUp (qU d a) d j i = x := ⟨_, rfl⟩;obtain ⟨j2, a1⟩ : ∃ x, Sort.scanDown (qD d a) d i2 j = x := ⟨_, rfl⟩;have b1 := vx (p := qU d a) (d := d) (j := j) _ i (Nat.le_refl _);have b2 := qh (p := qD d a) (d := d) (i := i2) j;rw [a0] at b1;rw [a1] at b2;by_cases h : i2 ≤ j2
  ·rw [Zy a0 a1 h b1.1 b2 (by omega)]
   have := ih (i2 + 1) (j2 - 1) (Sort.swp d i2 j2) (by omega) (by omega) (by omega) (by omega);rw [c8] at this;omega
  ·rw [Cr a0 a1 (by omega)]
   exact ⟨by simp only; omega, by simp only; omega, rfl⟩
theorem a06 {a b p : Nat} {d : Array Nat} (hab : a < b) : a < (Sort.partitionEqual ao d a b p).1 ∧ (Sort.partitionEqual ao d a b p).1 ≤ b ∧ (Sort.partitionEqual ao d a b p).2.size = d.size := by
 unfold Sort.partitionEqual;have := a1n (a := a) (b := b) (b - 1) (a + 1) (b - 1) (Sort.swp d a p) (Nat.le_refl _) (by omega) (by omega) (by omega);rw [c8] at this;omega
theorem a0d {d : Array Nat} {a b : Nat} (hab : a < b) : a ≤ (Sort.choosePivot ao d a b).1 ∧ (Sort.choosePivot ao d a b).1 < b := Sort.choosePivot_holds ao d a b hab
theorem Xm {a b p : Nat} {d : Array Nat} (hap : a ≤ p) (hpb : p < b) (hb : b ≤ d.size) : a ≤ (Sort.partition ao d a b p).1 ∧ (Sort.partition ao d a b p).1 < b ∧ (Sort.partition ao d a b p).2.2.size = d.size := by
 have h := Sort.partition_holds ao Gf d a b p hap hpb hb;exact ⟨h.1, h.2.1, h.2.2.1.1⟩
theorem F3 {a L M i0 : Nat} : ∀ (k t : Nat) (st : UInt64 × Array Nat), (bpR a L M i0 k t st).size = st.2.size
 | 0, _, _ => rfl
 | k + 1, t, st => by
  rw [bpR, F3 k (t + 1)];unfold Sort.breakStep;simp only;exact c8 _ _ _
theorem Tv {d : Array Nat} {a b : Nat} (h8 : 8 ≤ b - a) : (Sort.breakPatterns d a b).size = d.size := by
 rw [Um d h8, F3]
def B3 (d : Array Nat) (a b : Nat) (wb : Bool) : Array Nat := if !wb then Sort.breakPatterns d a b else d
def F4 (l : Nat) (wb : Bool) : Nat := if !wb then l - 1 else l
def Av (wb wp : Bool) (h : Sort.Hint) : Bool := wb && wp && decide (h = .increasing)
section
variable {d d1 d4 : Array Nat} {a b l l1 p mid : Nat} {wb wp al : Bool} {h : Sort.Hint}
theorem Xs (hL : b - a ≤ 12) : Sort.pdq ao d a b l wb wp = Sort.insertionSort ao d a b := by
 rw [Sort.pdq, if_pos hL]
theorem Ru (hL : ¬ b - a ≤ 12) (hl : l = 0) : Sort.pdq ao d a b l wb wp = Sort.heapSort ao d a b := by
 rw [Sort.pdq, if_neg hL, if_pos hl]
theorem J8 (hL : ¬ b - a ≤ 12) (h50 : b - a < 50) (hl : ¬ l = 0) (h1 : B3 d a b wb = d1) (hc : Sort.choosePivot ao d1 a b = (p, h)) (hh : h ≠ .decreasing) (hi : Av wb wp h = true) (hp : (Sort.partialInsertionSort ao d1 a b).2 = true) :
  Sort.pdq ao d a b l wb wp = d1 := by
 unfold B3 at h1;unfold Av at hi;rw [Sort.pdq, if_neg hL, if_neg hl];simp only [h1, hc, hh, if_false, hi, if_true, hp];rw [vk h50]
theorem a1b (hL : ¬ b - a ≤ 12) (h50 : b - a < 50) (hl : ¬ l = 0) (h1 : B3 d a b wb = d1) (hl1 : F4 l wb = l1) (hc : Sort.choosePivot ao d1 a b = (p, h)) (hh : h ≠ .decreasing) (hi : Av wb wp h = false ∨ (Sort.partialInsertionSort ao d1 a b).2 = false)
  (hq : (decide (a > 0) && !ao d1[a - 1]! d1[p]!) = true) (hr : Sort.partitionEqual ao d1 a b p = (mid, d4)) (hg : a < mid ∧ mid ≤ b) : Sort.pdq ao d a b l wb wp = Sort.pdq ao d4 mid b l1 wb wp := by
 unfold B3 at h1;unfold F4 at hl1;unfold Av at hi
 have hd : (if (wb && wp && decide (h = Sort.Hint.increasing)) = true then Sort.partialInsertionSort ao d1 a b else (d1, false)) = (d1, false) := by
  rcases hi with e | e
  ·rw [e]; rfl
  ·rw [vk h50] at e ⊢
   simp only at e;rw [e];split <;> rfl
 conv => lhs; rw [Sort.pdq, if_neg hL, if_neg hl]
 simp only [h1, hl1, hc, hh, if_false, hd, hq, if_true, hr, Bool.false_eq_true];rw [dif_pos hg]
theorem Sm (hL : ¬ b - a ≤ 12) (h50 : b - a < 50) (hl : ¬ l = 0) (h1 : B3 d a b wb = d1) (hl1 : F4 l wb = l1) (hc : Sort.choosePivot ao d1 a b = (p, h)) (hh : h ≠ .decreasing) (hi : Av wb wp h = false ∨ (Sort.partialInsertionSort ao d1 a b).2 = false)
  (hq : (decide (a > 0) && !ao d1[a - 1]! d1[p]!) = false) (hr : Sort.partition ao d1 a b p = (mid, al, d4)) (hg : a ≤ mid ∧ mid < b) (hlr : mid - a < b - mid) : Sort.pdq ao d a b l wb wp = Sort.pdq ao (Sort.pdq ao d4 a mid l1 true true) (mid + 1) b l1 (decide (mid - a ≥ (b - a) / 8)) al := by
 unfold B3 at h1;unfold F4 at hl1;unfold Av at hi
 have hd : (if (wb && wp && decide (h = Sort.Hint.increasing)) = true then Sort.partialInsertionSort ao d1 a b else (d1, false)) = (d1, false) := by
  rcases hi with e | e
  ·rw [e]; rfl
  ·rw [vk h50] at e ⊢
   simp only at e;rw [e];split <;> rfl
 conv => lhs; rw [Sort.pdq, if_neg hL, if_neg hl]
 simp only [h1, hl1, hc, hh, if_false, hd, hq, hr, Bool.false_eq_true];rw [dif_pos hg, if_pos hlr]
theorem Nu (hL : ¬ b - a ≤ 12) (h50 : b - a < 50) (hl : ¬ l = 0) (h1 : B3 d a b wb = d1) (hl1 : F4 l wb = l1) (hc : Sort.choosePivot ao d1 a b = (p, h)) (hh : h ≠ .decreasing) (hi : Av wb wp h = false ∨ (Sort.partialInsertionSort ao d1 a b).2 = false)
  (hq : (decide (a > 0) && !ao d1[a - 1]! d1[p]!) = false) (hr : Sort.partition ao d1 a b p = (mid, al, d4)) (hg : a ≤ mid ∧ mid < b) (hlr : ¬ mid - a < b - mid) : Sort.pdq ao d a b l wb wp = Sort.pdq ao (Sort.pdq ao d4 (mid + 1) b l1 true true) a mid l1 (decide (b - mid ≥ (b - a) / 8)) al := by
 unfold B3 at h1;unfold F4 at hl1;unfold Av at hi
 have hd : (if (wb && wp && decide (h = Sort.Hint.increasing)) = true then Sort.partialInsertionSort ao d1 a b else (d1, false)) = (d1, false) := by
  rcases hi with e | e
  ·rw [e]; rfl
  ·rw [vk h50] at e ⊢
   simp only at e;rw [e];split <;> rfl
 conv => lhs; rw [Sort.pdq, if_neg hL, if_neg hl]
 simp only [h1, hl1, hc, hh, if_false, hd, hq, hr, Bool.false_eq_true];rw [dif_pos hg, if_neg hlr]
end
end Go.Proofs.YtjgjohdeeeoeoaaGreatDoor
namespace Go.Proofs.YtjgjohdeeeoeoaaGreatDoor
open Go.RowKit
attribute [local go_sem] Oper.semAt_some
variable {x : Itm} {l : List Itm} {a i off : Nat} {w : World}
def U2 (g n : Nat) (D : Array Nat) (rest : List Value) (w : World) (e : Ending) (W : World) : Prop := e = .returned (.tuple #[]) ∧ SoW g w D rest W ∧ D.size = n
theorem K0 {ρ : Operand → Value} {o : Oper} {x y : Operand} {b : Nat} {m : Bool} (hm : decide (b ≤ a) = m) (ho : o.op = .binOp .geq 3 x y 3) (hx : ρ x = .int .i64 (a : Int)) (hy : ρ y = .int .i64 (b : Int)) : (execOp ρ o).run Tryz.prog w = .ok (.value (.bool m)) w := by
 have e : decide ((b : Int) ≤ (a : Int)) = m := by rw [← hm, Bool.eq_iff_iff]; simp
 unfold execOp;simp only [ho];go_simp
set_option maxRecDepth 100000 in
set_option maxHeartbeats 32000000 in
theorem Yq (g cap n : Nat) (rest : List Value) (hc : n ≤ cap) (h50 : n < 50) : ∀ (m a b l : Nat) (d : Array Nat) (w : World), b - a = m → UAt w g d rest → d.size = n → a ≤ b → b ≤ n → l ≤ 64 →
  Calls Tryz.prog 89 #[.slice (some ⟨g, 0, none⟩) n cap, .int .i64 (a : Int), .int .i64 (b : Int), .int .i64 (l : Int)] w (U2 g n (Sort.pdq ao d a b l true true) rest w) := by
 have HC : Hid (n ≤ cap) := zH hc;have cb : Hid (n < 50) := zH h50;clear hc h50;intro m
 induction m using Nat.strongRecOn with
 | _ m ih =>
 intro a b l d w hm hU hn ad hb hl;have IH := zH ih;obtain ⟨D, hD⟩ : ∃ D, Sort.pdq ao d a b l true true = D := ⟨_, rfl⟩;rw [hD];have HD := zH hD;generalize hPost : U2 g n D rest w = Post;have bz : Hid (∀ W, SoW g w D rest W → D.size = n → Post (.returned (.tuple #[])) W) := zH fun W h1 h2 => by rw [← hPost]; exact ⟨rfl, h1, h2⟩
 have HN := zH hn; have HB : Hid (a ≤ b ∧ b ≤ n ∧ l ≤ 64 ∧ b - a = m) := zH ⟨ad, hb, hl, hm⟩;have HS := zH (SoW.start hU);clear hD hPost hU hn ad hb hl hm ih;go_enter Tryz.func89, Tryz.ntmps89
 go_wp2_with fail
 go_loopw [1, 2, 3, 8, 9] (fun va vb vl vwb vwp wr => ∃ (a' b' l' : Nat) (wb wp : Bool) (dk : Array Nat), va = .int .i64 (a' : Int) ∧ vb = .int .i64 (b' : Int) ∧ vl = .int .i64 (l' : Int) ∧ vwb = .bool wb ∧ vwp = .bool wp ∧ a' ≤ b' ∧ b' ≤ n ∧ b' - a' ≤ m ∧ l' ≤ 64 ∧ dk.size = n ∧ Sort.pdq ao dk a' b' l' wb wp = D ∧ SoW g w dk rest wr) (fun va vb _ _ _ _ => (intOf vb - intOf va).toNat)
 case atStart => exact ⟨a, b, l, true, true, d, rfl, rfl, rfl, rfl, rfl, HB.out.1, HB.out.2.1, by have := HB.out; omega, HB.out.2.2.1, HN.out, HD.out, HS.out⟩
 case round =>
  clear HS HD HB HN;obtain ⟨a', b', l', wb, wp, dk, rfl, rfl, rfl, rfl, rfl, ad, ap, bp, an, a6, b3, hs⟩ := hrel;have cs := zH a6; have bt := zH b3; have HS := zH hs;have HB : Hid (a' ≤ b' ∧ b' ≤ n ∧ b' - a' ≤ m ∧ l' ≤ 64 ∧ n < 50 ∧ n ≤ cap) := zH ⟨ad, ap, bp, an, cb.out, HC.out⟩;have h50 := cb.out;have b5 := HC.out;obtain ⟨L, hL⟩ : ∃ L, b' - a' = L := ⟨_, rfl⟩;have ce := zH hL;have cw : (b' : Int) - (a' : Int) = (L : Int) := (by omega);have cm := IntWalk.i64_in ((L : Int)) (by omega);by_cases h12 : L ≤ 12
  ·have j1 : (L : Int) ≤ 12 := by omega
   have a5 : Sort.insertionSort ao dk a' b' = D := (by rw [← b3]; exact (Xs (by omega)).symm);have b9 : D.size = n := (by rw [← a5, (Sort.insertionSort_holds Gf dk a' b' ad (by omega)).1.1, a6]);have aa := Y9 g cap a' b' n dk rest wr hs.at_ a6 b5 ad ap (by omega);rw [a5] at aa;have bx := zH aa; have bc := zH b9;clear aa b9 a5 a6 b3 hs hL ad ap bp an h12
   go_wp2_with fail
   refine bx.out.mono ?_;rintro e X ⟨rfl, hx⟩;have HE := zH (bz.out X (HS.out.trans hx) bc.out);clear hx
   go_wp2_with fail
   first | exact HE.out | (go_end0; exact HE.out) | (go_ret; exact HE.out)
  have j1 : ¬ (L : Int) ≤ 12 := (by omega);by_cases hl0 : l' = 0
  ·subst hl0
   have a5 : Sort.heapSort ao dk a' b' = D := (by rw [← b3]; exact (Ru (by omega) rfl).symm);have b9 : D.size = n := (by rw [← a5, (Sort.heapSort_holds Gf dk a' b' ad (by omega)).1.1, a6]);have aa := Rh g cap a' b' n dk rest wr hs.at_ a6 b5 (by omega) ap (by omega);rw [a5] at aa;have bx := zH aa; have bc := zH b9;clear aa b9 a5 a6 b3 hs hL ad ap bp an h12
   go_wp2_with fail
   refine bx.out.mono ?_;rintro e X ⟨rfl, hx⟩;have HE := zH (bz.out X (HS.out.trans hx) bc.out);clear hx
   go_wp2_with fail
   first | exact HE.out | (go_end0; exact HE.out) | (go_ret; exact HE.out)
  have j2 : ((l' : Int) == 0) = false := (by simp; omega);have cu : ¬ (l' : Int) = 0 := (by omega);have bu : Hid (¬ b' - a' ≤ 12) := zH (by omega);have ae : Hid (b' - a' < 50) := zH (by omega);have ba : Hid (¬ l' = 0) := zH hl0;obtain ⟨d1, b2⟩ : ∃ x, B3 dk a' b' wb = x := ⟨_, rfl⟩;obtain ⟨l1, b0⟩ : ∃ x, F4 l' wb = x := ⟨_, rfl⟩
  have ah : d1.size = n := by
   rw [← b2];unfold B3;split
   ·rw [Tv (by omega), a6]
   ·exact a6
  obtain ⟨⟨p, h⟩, bg⟩ : ∃ r, Sort.choosePivot ao d1 a' b' = r := ⟨_, rfl⟩;have ag := a0d (d := d1) (a := a') (b := b') (by omega)
  have af : h ≠ .decreasing := by
   have := congrArg Prod.snd bg;rw [Vk (by omega) (by omega)] at this;simp only at this;rw [← this];split <;> simp
  rw [bg] at ag;simp only at ag
  have c4 : Hid (∀ W, SoW g w d1 rest W → Calls Tryz.prog 110 #[.slice (some ⟨g, 0, none⟩) n cap, .int .i64 (a' : Int), .int .i64 (b' : Int)] W fun e w' => e = .returned (.tuple #[.int .i64 (p : Int), .int .i64 ((yy h : Nat) : Int)]) ∧ SoW g w d1 rest w') := zH fun W hW => by
   have := Xv g cap a' b' n d1 rest W hW.at_ ah b5 (by omega) (by omega) ap (by omega);rw [bg] at this;exact this.mono fun e X ⟨e1, e2⟩ => ⟨e1, hW.trans e2⟩
  have bi := zH b2; have bl := zH b0; have a2 := zH ah; have HP := zH bg; have cn := zH ag; have ak := zH af;have j3 : ((yy h : Nat) : Int) ≠ 2 := (by cases h <;> first | exact absurd rfl af | decide);have ci : (((yy h : Nat) : Int) == 2) = false := (by cases h <;> first | exact absurd rfl af | decide);obtain ⟨hv, am⟩ : ∃ x, yy h = x := ⟨_, rfl⟩;rw [am] at c4 j3 ci;have co := zH am;have a4 : Hid (l1 ≤ 64) := zH (by rw [← b0]; unfold F4; split <;> omega);have c0 := zH (Yl g cap a' b' n dk rest wr hs.at_ a6 b5 (by omega) ap (by omega));obtain ⟨pb, c2⟩ : ∃ x, (Sort.partialInsertionSort ao d1 a' b').2 = x := ⟨_, rfl⟩
  have ay : Hid (∀ W, SoW g w d1 rest W → Calls Tryz.prog 112 #[.slice (some ⟨g, 0, none⟩) n cap, .int .i64 (a' : Int), .int .i64 (b' : Int)] W fun e w' => e = .returned (.bool pb) ∧ SoW g w d1 rest w') := zH fun W hW => by
   have := Uo g cap a' b' n d1 rest W hW.at_ ah b5 (by omega) (by omega) ap (by omega);rw [c2] at this;exact this.mono fun e X ⟨e1, e2⟩ => ⟨e1, hW.trans e2⟩
  have c3 := zH c2;obtain ⟨ic, ai⟩ : ∃ x, Av wb wp h = x := ⟨_, rfl⟩;have bk := zH ai;have bs := HB.out;have b4 := cn.out;clear c2 ai b2 b0 ah bg ag af a6 b3 hs hL ad ap bp an h12 hl0 am h50 b5
  go_upto_if 35 with fail
  go_cut [3, 8] from 19 to 133 (fun s3 s8 wx => s3 = .int .i64 (l1 : Int) ∧ s8 = .bool wb ∧ SoW g w d1 rest wx)
  case first =>
   have b2 := bi.out;have b0 := bl.out;cases wb
   case false =>
    have c5 := c0.out;rw [show Sort.breakPatterns dk a' b' = d1 from b2] at c5;have bf := zH c5;have ct : (l' : Int) - 1 = (l1 : Int) := (by have h1 : l' - 1 = l1 := b0; have := ba.out; omega);have cq := IntWalk.i64_in ((l1 : Int)) (by have := a4.out; omega);clear c5 b2 b0
    go_wp2_with fail
    refine bf.out.mono ?_;rintro e X1 ⟨rfl, c9⟩;have bo := zH (HS.out.trans c9);clear c9 bf c0 HS
    go_wp2_with fail
    go_meet
    exact ⟨rfl, rfl, bo.out⟩
   case true =>
    obtain rfl : l' = l1 := b0;obtain rfl : dk = d1 := b2
    go_wp2_with fail
    go_meet
    exact ⟨rfl, rfl, HS.out⟩
  case rest =>
  obtain ⟨rfl, rfl, ca⟩ := hcut;have bo := zH ca;clear ca HS c0
  go_wp2_with fail
  refine (c4.out _ bo.out).mono ?_;rintro e X2 ⟨rfl, cf⟩;have bm := zH cf;clear cf c4 bo
  go_upto_region 15 with fail
  go_cut [8, 9, 12, 68] from 19 to 133 (fun s8 s9 s12 s68 wx => s8 = .bool wb ∧ s9 = .bool wp ∧ s12 = .int .i64 (hv : Int) ∧ s68 = .bool ic ∧ X2 = wx)
  case first =>
   have ai := bk.out;cases wb
   case false =>
    obtain rfl : false = ic := ai
    go_wp2_with fail
    go_meet
    exact ⟨rfl, rfl, rfl, rfl, rfl⟩
   case true =>
    cases wp
    case false =>
     obtain rfl : false = ic := ai
     go_wp2_with fail
     go_meet
     exact ⟨rfl, rfl, rfl, rfl, rfl⟩
    case true =>
     have am := co.out;by_cases hinc : hv = 1
     ·obtain rfl : true = ic := by rw [← ai]; rw [hinc] at am; cases h <;> first | rfl | exact absurd am (by decide)
      subst hinc;clear ai am
      go_wp2_with fail
      go_meet
      exact ⟨rfl, rfl, rfl, rfl, rfl⟩
     ·obtain rfl : false = ic := by rw [← ai]; rw [← am] at hinc; cases h <;> first | rfl | exact absurd rfl hinc
      have j4 : ((hv : Int) == 1) = false := (by simp; omega);have cx : ¬ (hv : Int) = 1 := (by omega);clear ai am hinc
      go_wp2_with fail
      go_meet
      exact ⟨rfl, rfl, rfl, rfl, rfl⟩
  case rest =>
  obtain ⟨rfl, rfl, rfl, rfl, rfl⟩ := hcut
  go_upto_if 68 with fail
  go_cut [3] from 19 to 133 (fun s3 wx => s3 = .int .i64 (l1 : Int) ∧ (ic = false ∨ pb = false) ∧ SoW g w d1 rest wx)
  case first =>
   cases ic
   case false =>
    go_wp2_with fail
    go_meet
    exact ⟨rfl, by simp, bm.out⟩
   case true =>
    cases pb
    case true =>
     have a5 : d1 = D := (by rw [← bt.out]; exact (J8 bu.out ae.out ba.out bi.out HP.out ak.out bk.out c3.out).symm);have bc : Hid (D.size = n) := zH (by rw [← a5]; exact a2.out);have ck := zH a5;clear a5
     go_wp2_with fail
     refine (ay.out X2 bm.out).mono ?_;rintro e X3 ⟨rfl, b6⟩;have HE := zH (bz.out X3 (by rw [← ck.out]; exact b6) bc.out);clear b6
     go_wp2_with fail
     first | exact HE.out | (go_end0; exact HE.out) | (go_ret; exact HE.out)
    case false =>
     go_wp2_with fail
     refine (ay.out X2 bm.out).mono ?_;rintro e X3 ⟨rfl, b6⟩;have ar := zH b6;clear b6
     go_wp2_with fail
     go_meet
     exact ⟨rfl, by simp, ar.out⟩
  case rest =>
  obtain ⟨rfl, aa, cd⟩ := hcut;have b1 : Hid (Av wb wp h = false ∨ (Sort.partialInsertionSort ao d1 a' b').2 = false) := zH (aa.elim (fun e => .inl (bk.out.trans e)) (fun e => .inr (c3.out.trans e)));have ar := zH cd;clear cd aa bm ay bk c3
  go_upto_region 17 with fail
  obtain ⟨c, hc⟩ : ∃ c, (decide (a' > 0) && !ao d1[a' - 1]! d1[p]!) = c := ⟨_, rfl⟩;have HQ := zH hc;clear hc
  go_cut [1, 87] from 19 to 133 (fun s1 s87 wx => s1 = .int .i64 (a' : Int) ∧ s87 = .bool c ∧ SoW g w d1 rest wx)
  case first =>
   have hc := HQ.out;by_cases ha0 : 0 < a'
   ·obtain ⟨a1, rfl⟩ : ∃ a1, a' = a1 + 1 := ⟨a' - 1, by omega⟩
    obtain ⟨mm, c7⟩ : ∃ mm, ao d1[a1]! d1[p]! = mm := ⟨_, rfl⟩;have cj := zH c7;obtain rfl : (!mm) = c := by rw [← hc, Nat.add_sub_cancel, c7]; simp
    have q1 := ar.out.at_.cell (k := a1) (by rw [a2.out]; omega); have q2 := ar.out.at_.cell (k := p) (by rw [a2.out]; omega);clear hc c7 ha0
    go_big_quiet (first | (go_at_call 113; refine Calls.quiet_of_same (cy cj.out _)))
    have az := ar.out.drewN nq;generalize World.drewN _ nq = W8 at az ⊢;have c1 := zH az;clear az q1 q2
    go_wp2_with fail
    go_meet
    exact ⟨by first | rfl | go_num, rfl, c1.out⟩
   ·obtain rfl : a' = 0 := by omega
    obtain rfl : false = c := by rw [← hc]; simp
    clear hc ha0
    go_big_quiet (first | (go_at_call 113; refine Calls.quiet_of_same (cy (by assumption) _)))
    have az := ar.out.drewN nq;generalize World.drewN _ nq = W8 at az ⊢;have c1 := zH az;clear az
    go_wp2_with fail
    go_meet
    exact ⟨by first | rfl | go_num, rfl, c1.out⟩
  case rest =>
  obtain ⟨rfl, rfl, bq⟩ := hcut;have bn := zH bq;have br := bq.at_;cases c
  case true =>
   obtain ⟨⟨a0, d4⟩, hr⟩ : ∃ r, Sort.partitionEqual ao d1 a' b' p = r := ⟨_, rfl⟩;have a8 := a06 (d := d1) (a := a') (b := b') (p := p) (by omega);rw [hr] at a8;simp only at a8;have au := Ws g cap a' b' p n d1 rest _ br a2.out bs.2.2.2.2.2 b4.1 b4.2 bs.2.1 (by omega);rw [hr] at au;have b8 := zH au;have HG := zH a8;have b7 : Hid (Sort.pdq ao d4 a0 b' l1 wb wp = D) := zH (by rw [← bt.out]; exact (a1b bu.out ae.out ba.out bi.out bl.out HP.out ak.out b1.out HQ.out hr ⟨a8.1, a8.2.1⟩).symm);clear au hr a8 br bq ar
   go_wp2_with fail
   refine b8.out.mono ?_;rintro e X4 ⟨rfl, bh⟩;have aq := zH (bn.out.trans bh);have aj := HG.out;clear bh b8 bn
   go_wp2_with fail
   go_roundw
   case rel => exact ⟨a0, b', l1, wb, wp, d4, rfl, rfl, rfl, rfl, rfl, by omega, by omega, by omega, a4.out, aj.2.2.trans a2.out, b7.out, aq.out⟩
   case measure => first | (simp [intOf]; done) | (simp [intOf]; omega)
  case false =>
   obtain ⟨⟨a0, al, d4⟩, hr⟩ : ∃ r, Sort.partition ao d1 a' b' p = r := ⟨_, rfl⟩;have a8 := Xm (d := d1) (a := a') (b := b') (p := p) b4.1 b4.2 (by rw [a2.out]; omega);rw [hr] at a8;simp only at a8;have au := Tb g cap a' b' p n d1 rest _ br a2.out bs.2.2.2.2.2 b4.1 b4.2 bs.2.1 (by omega);rw [hr] at au;have b8 := zH au; have HR := zH hr; have HG := zH a8;obtain ⟨x, hx⟩ : ∃ x, a0 - a' = x := ⟨_, rfl⟩;obtain ⟨y, hy⟩ : ∃ y, b' - a0 = y := ⟨_, rfl⟩;obtain ⟨q8, bw⟩ : ∃ q, L / 8 = q := ⟨_, rfl⟩;have cg := zH bw;have c8 : Hid (L < 1000) := zH (by have := ce.out; omega);have cz : (a0 : Int) - (a' : Int) = (x : Int) := (by omega);have cl : (a0 : Int) - (a' : Int) = (x : Int) := (by omega);have ch := IntWalk.i64_in ((x : Int)) (by omega);have cv : (b' : Int) - (a0 : Int) = (y : Int) := (by omega);have cp := IntWalk.i64_in ((y : Int)) (by omega);have cr := IntWalk.i64_in ((a0 : Int) + 1) (by omega);have ab : Hid (a0 - a' = x ∧ b' - a0 = y ∧ b' - a' = L ∧ L / 8 = q8) := zH ⟨hx, hy, ce.out, bw⟩;clear au hr a8 hx hy bw br bq ar
   go_wp2_with fail
   refine b8.out.mono ?_;rintro e X4 ⟨rfl, bh⟩;have aq := zH (bn.out.trans bh);clear bh b8 bn;by_cases hxy : x < y
   ·have j5 : (x : Int) < (y : Int) := by omega
    obtain ⟨bj, a3⟩ : ∃ z, decide (q8 ≤ x) = z := ⟨_, rfl⟩;have bv := zH a3;have aj := HG.out;have av := IH.out (a0 - a') (by have := ab.out; omega) a' a0 l1 d4 X4 rfl aq.out.at_ (aj.2.2.trans a2.out) (by omega) (by omega) a4.out;obtain ⟨d5, aw⟩ : ∃ z, Sort.pdq ao d4 a' a0 l1 true true = z := ⟨_, rfl⟩;rw [aw] at av;have bd := zH av
    have b7 : Hid (Sort.pdq ao d5 (a0 + 1) b' l1 bj al = D) := zH (by
     rw [← bt.out, Sm bu.out ae.out ba.out bi.out bl.out HP.out ak.out b1.out HQ.out HR.out ⟨aj.1, aj.2.1⟩ (by have := ab.out; omega), aw, ← a3];congr 1
     rw [ab.out.2.2.1, ab.out.2.2.2, ab.out.1])
    clear av aw a3 hxy
    go_wp2_with (first | (refine a9 rfl (pd (b := 8) cg.out (by omega) (by have := c8.out; omega) rfl rfl rfl) ?_) | (refine a9 rfl (K0 bv.out rfl rfl rfl) ?_) | fail)
    refine bd.out.mono ?_;rintro e X5 ⟨rfl, bb, a7⟩;have c6 := zH (aq.out.trans bb); have ax := zH a7;clear bb a7 bd aq
    go_wp2_with fail
    go_roundw
    case rel => exact ⟨a0 + 1, b', l1, bj, al, d5, by first | rfl | go_num, by first | rfl | go_num, rfl, rfl, rfl, by omega, by omega, by omega, a4.out, ax.out, b7.out, c6.out⟩
    case measure => first | (simp [intOf]; done) | (simp [intOf]; omega)
   ·have j5 : ¬ (x : Int) < (y : Int) := by omega
    obtain ⟨bj, a3⟩ : ∃ z, decide (q8 ≤ y) = z := ⟨_, rfl⟩;have bv := zH a3;have aj := HG.out;have av := IH.out (b' - (a0 + 1)) (by have := ab.out; omega) (a0 + 1) b' l1 d4 X4 rfl aq.out.at_ (aj.2.2.trans a2.out) (by omega) (by omega) a4.out;obtain ⟨d5, aw⟩ : ∃ z, Sort.pdq ao d4 (a0 + 1) b' l1 true true = z := ⟨_, rfl⟩;rw [aw] at av;have bd := zH av
    have b7 : Hid (Sort.pdq ao d5 a' a0 l1 bj al = D) := zH (by
     rw [← bt.out, Nu bu.out ae.out ba.out bi.out bl.out HP.out ak.out b1.out HQ.out HR.out ⟨aj.1, aj.2.1⟩ (by have := ab.out; omega), aw, ← a3];congr 1
     rw [ab.out.2.2.1, ab.out.2.2.2, ab.out.2.1])
    clear av aw a3 hxy
    go_wp2_with (first | (refine a9 rfl (pd (b := 8) cg.out (by omega) (by have := c8.out; omega) rfl rfl rfl) ?_) | (refine a9 rfl (K0 bv.out rfl rfl rfl) ?_) | fail)
    refine bd.out.mono ?_;rintro e X5 ⟨rfl, bb, a7⟩;have c6 := zH (aq.out.trans bb); have ax := zH a7;clear bb a7 bd aq
    go_wp2_with fail
    go_roundw
    case rel => exact ⟨a', a0, l1, bj, al, d5, by first | rfl | go_num, by first | rfl | go_num, rfl, rfl, rfl, by omega, by omega, by omega, a4.out, ax.out, b7.out, c6.out⟩
    case measure => first | (simp [intOf]; done) | (simp [intOf]; omega)
theorem Ol {d : Array Nat} {D : Array Nat} (h : Sort.pdq ao d 0 d.size (Sort.bitsLen d.size) true true = D) : D.toList = d.toList.mergeSort (fun x y => decide (x ≤ y)) := by
 have hs := Sort.sort_sorts ao Gf d;have e : Sort.sort ao d = D := h;rw [e] at hs;have hu := Sort.sorted_unique_holds (lt := ao) Gf (fun x y h1 h2 => by simp only [ao, decide_eq_false_iff_not] at h1 h2; omega) d D hs.1 hs.2;rw [hu];congr 1
 funext x y
 simp only [ao];rw [Bool.eq_iff_iff];simp
set_option maxRecDepth 100000 in
theorem V9 (g cap n : Nat) (d : Array Nat) (rest : List Value) (w : World) (hU : UAt w g d rest) (hn : d.size = n) (hc : n ≤ cap) (h50 : n < 50) :
  Calls Tryz.prog 67 #[.slice (some ⟨g, 0, none⟩) n cap] w fun e w' => e = .returned (.tuple #[]) ∧ ∃ D : Array Nat, SoW g w D rest w' ∧ D.size = n ∧ D.toList = d.toList.mergeSort (fun x y => decide (x ≤ y)) := by
 have a2 : Sort.bitsLen n ≤ 64 := Nat.le_trans ((Sort.bitsLen_le_iff n 6).2 (by omega)) (by omega);have hp := Yq g cap n rest hc h50 n 0 n (Sort.bitsLen n) d w (by omega) hU hn (by omega) (Nat.le_refl _) a2;obtain ⟨D, hD⟩ : ∃ D, Sort.pdq ao d 0 n (Sort.bitsLen n) true true = D := ⟨_, rfl⟩;have a3 : D.toList = d.toList.mergeSort (fun x y => decide (x ≤ y)) := Ol (by rw [hn]; exact hD);rw [hD] at hp;have a0 := Vz n (by omega) w;obtain ⟨l, hl⟩ : ∃ l, Sort.bitsLen n = l := ⟨_, rfl⟩;rw [hl] at hp a0;have HP := zH hp; have HL := zH a0;generalize hPost : (fun (e : Ending) (w' : World) => e = .returned (.tuple #[]) ∧ ∃ D : Array Nat, SoW g w D rest w' ∧ D.size = n ∧ D.toList = d.toList.mergeSort (fun x y => decide (x ≤ y))) = Post;have a4 : Hid (∀ W, SoW g w D rest W → D.size = n → Post (.returned (.tuple #[])) W) := zH fun W h1 h2 => by rw [← hPost]; exact ⟨rfl, D, h1, h2, a3⟩
 have a5 : IntKind.u64.wrap (n : Int) = (n : Int) := by rw [IntKind.wrap_u64]; omega
 clear hPost hU hn hc h50 a2 hp hD a3 a0 hl;go_enter Tryz.func67, Tryz.ntmps67
 go_wp2_with fail
 refine HL.out.mono ?_;rintro e w' ⟨rfl, rfl⟩
 go_wp2_with fail
 refine HP.out.mono ?_;rintro e X ⟨rfl, hx, a1⟩;have HE := zH (a4.out X hx a1);clear hx a1
 go_wp2_with fail
 first | exact HE.out | (go_end0; exact HE.out) | (go_ret; exact HE.out)
theorem Yy (w : World) : Calls Tryz.prog 107 #[.slice none 0 0, .int .i64 0, .int .i64 0] w fun e w' => e = .returned (.tuple #[]) ∧ w' = w := by
 go_enter Tryz.func107, Tryz.ntmps107
 go_wp2_with fail
 go_loopw [6] (fun v wr => v = .int .i64 1 ∧ wr = w) (fun _ _ => 0)
 case atStart => exact ⟨rfl, rfl⟩
 case round =>
  obtain ⟨rfl, rfl⟩ := hrel
  go_wp2_with fail
  first | exact ⟨rfl, rfl⟩ | (go_end0; exact ⟨rfl, rfl⟩)
theorem We (w : World) : Calls Tryz.prog 89 #[.slice none 0 0, .int .i64 0, .int .i64 0, .int .i64 0] w fun e w' => e = .returned (.tuple #[]) ∧ w' = w := by
 go_enter Tryz.func89, Tryz.ntmps89
 go_wp2_with fail
 go_loopw [1, 2, 3, 8, 9] (fun a b c d e wr => a = .int .i64 0 ∧ b = .int .i64 0 ∧ c = .int .i64 0 ∧ d = .bool true ∧ e = .bool true ∧ wr = w) (fun _ _ _ _ _ _ => 0)
 case atStart => exact ⟨rfl, rfl, rfl, rfl, rfl, rfl⟩
 case round =>
  obtain ⟨rfl, rfl, rfl, rfl, rfl, rfl⟩ := hrel
  go_wp2_with fail
  refine (Yy _).mono ?_;rintro e w' ⟨rfl, rfl⟩
  go_wp2_with fail
  exact bodyPost_ret (results_none rfl _ _ _) rfl ⟨rfl, rfl⟩
theorem Uh (w : World) : Calls Tryz.prog 67 #[.slice none 0 0] w fun e w' => e = .returned (.tuple #[]) ∧ w' = w := by
 have HL := zH (Vz 0 (by omega) w);have a0 : IntKind.u64.wrap (0 : Int) = 0 := by rw [IntKind.wrap_u64]; rfl
 go_enter Tryz.func67, Tryz.ntmps67
 go_wp2_with fail
 refine HL.out.mono ?_;rintro e w' ⟨rfl, rfl⟩;rw [show Sort.bitsLen 0 = 0 from rfl]
 go_wp2_with fail
 refine (We _).mono ?_;rintro e w' ⟨rfl, rfl⟩
 go_wp2_with fail
 first | exact ⟨rfl, rfl⟩ | (go_end0; exact ⟨rfl, rfl⟩) | (go_ret; exact ⟨rfl, rfl⟩)
section
variable {β : Type} {T : MTy β}
abbrev sz : Nat → Nat → Bool := fun x y => decide (x ≤ y)
def zo (T : MTy β) (S : List Nat → Prop) (w : World) (e : Ending) (w' : World) : Prop :=
 ∃ v ss, e = .returned v ∧ S ss ∧ w'.ownsRow w.heap.size 24 1 v ss.length ((ss.mergeSort sz).map T.kv) ∧ Below w.heap.size w w'
set_option maxRecDepth 100000 in
set_option maxHeartbeats 4000000 in
theorem I3 (hq : T.q = .u32) {gf : Nat} {lb : Array Value} (eg : ∀ args w, (callFunc gf args).run Tryz.prog w = .ok (.enter gf args) w) {S Sp : List Nat → Prop} (hS : ∀ ss, S ss → ss.length < 50) {N : Nat} (hN : N ≤ 1000000) (hseq : SeqStopsK Fence.wide 4 Tryz.prog gf lb (fun x : Nat => #[T.kv x]) KeepsWalks S Sp N w) :
  Calls Tryz.prog 36 #[.func (.func gf) #[] lb] w (zo T S w) := by
 have a3 : T.kv = UV := by funext x; unfold MTy.kv UV; rw [hq]
 have HA := zH (Si eg hN hseq);generalize hPost : zo T S w = Post;have HP : Hid (∀ v ss W, S ss → W.ownsRow w.heap.size 24 1 v ss.length ((ss.mergeSort sz).map UV) → Below w.heap.size w W → Post (.returned v) W) := zH fun v ss W h1 h2 h3 => by rw [← hPost]; exact ⟨v, ss, rfl, h1, by rw [a3]; exact h2, h3⟩
 have a5 := zH hS;clear hPost hseq hS;go_enter Tryz.func36, Tryz.ntmps36
 go_wp2_with fail
 refine HA.out.mono ?_;rintro e W ⟨v, ss, rfl, a1, a0, hb⟩;rw [a3] at a0;have a9 := zH a1; have aa := zH hb;rcases a0.2 with ⟨rfl, hz⟩ | ⟨g, cap, cur, rfl, hge, hg, hc, hm, hs, ht⟩
 ·have a7 : ss = [] := List.eq_nil_of_length_eq_zero hz
  subst a7;have HE := zH (HP.out (.slice none 0 0) [] W a1 (by simpa using a0) hb);clear a0 hz a1 hb
  go_wp2_with fail
  refine (Uh W).mono ?_;rintro e w' ⟨rfl, rfl⟩
  go_wp2_with fail
  first | exact HE.out | (go_ret; exact HE.out)
 ·have a6 := a5.out ss a1
  have a4 : cur.toList.take ss.length = ss.map UV := by simpa using ht
  have hU : UAt W g ss.toArray (cur.toList.drop ss.length) := by
   unfold UAt Blk;rw [show ss.toArray.toList = ss from rfl, ← a4, List.take_append_drop];simpa using hg
  obtain ⟨n, hn⟩ : ∃ n, ss.length = n := ⟨_, rfl⟩;have a8 := zH (V9 g cap n ss.toArray (cur.toList.drop ss.length) W hU (by simpa using hn) (by omega) (by omega))
  have a2 : Hid (∀ D W', SoW g W D (cur.toList.drop ss.length) W' → D.size = n → D.toList = ss.mergeSort sz → Post (.returned (.slice (some ⟨g, 0, none⟩) n cap)) W') := zH (fun D W' h1 h2 h3 => by
   rw [← hn];refine HP.out _ ss W' a1 ⟨by simp, .inr ⟨g, cap, (D.toList.map UV ++ cur.toList.drop ss.length).toArray, rfl, hge, ?_, hc, hm, ?_, ?_⟩⟩ (hb.trans ?_)
   ·have := h1.at_
    unfold UAt Blk at this;simpa using this
   ·have e1 : D.toList.length = ss.length := by simp [h2, hn]
    have e2 : ss.length ≤ cur.size := by
     have := congrArg List.length a4;simp at this;omega
    simp only [List.size_toArray, List.length_append, List.length_map, List.length_drop, Array.length_toList] at *;omega
   ·have e1 : (D.toList.map UV).length = ss.length := by simp [h2, hn]
    rw [h3] at e1 ⊢;simp only [List.length_map] at e1 ⊢;rw [List.take_append_of_le_length (by simp)];exact List.take_of_length_le (by simp)
   ·have h5 := h1.chg
    exact ⟨h5.os, h5.tape, h5.output, h5.size, fun k hk => h5.block k (Nat.lt_of_lt_of_le hk hb.size) (fun e => by have e : k = g := e; omega)⟩)
  rw [hn];clear a0 a1 hb hg hU ht a4 a3
  go_wp2_with fail
  refine a8.out.mono ?_;rintro e W' ⟨rfl, D, h1, h2, h3⟩;have HE := zH (a2.out D W' h1 h2 h3);clear h1 h2 h3
  go_wp2_with fail
  first | exact HE.out | (go_ret; exact HE.out)
end
abbrev Spt := Option (Nat × Nat × Nat)
def SpV : Spt → Value
 | none => .slice none 0 0
 | some (g, o, n) => .slice (some ⟨g, o, none⟩) n n
def SpD : Spt → DataW Unit
 | none => .agg []
 | some (g, o, n) => .agg [.lit (.int .i64 (g : Int)), .lit (.int .i64 (o : Int)), .lit (.int .i64 (n : Int))]
theorem Xr : ∀ {a b : Spt}, SpV a = SpV b → a = b
 | none, none, _ => rfl
 | none, some _, h => by simp [SpV] at h
 | some _, none, h => by simp [SpV] at h
 | some (g, o, n), some (g', o', n'), h => by
  simp only [SpV, Value.slice.injEq, Option.some.injEq, Addr.mk.injEq] at h;obtain ⟨⟨h1, h2, -⟩, h3, -⟩ := h;subst h1 h2 h3;rfl
theorem Zh : ∀ {a b : Spt}, SpD a = SpD b → a = b
 | none, none, _ => rfl
 | none, some _, h => by simp [SpD] at h
 | some _, none, h => by simp [SpD] at h
 | some (g, o, n), some (g', o', n'), h => by
  simp only [SpD, DataW.agg.injEq, List.cons.injEq, DataW.lit.injEq, Lit.int.injEq, true_and, and_true] at h;obtain ⟨h1, h2, h3⟩ := h;obtain rfl : g = g' := by omega
  obtain rfl : o = o' := by omega
  obtain rfl : n = n' := by omega
  rfl
theorem a14 (h : a < 4294967296) : (Lit.int .u32 (a : Int)).wf = true := by
 have e1 : IntKind.u32.min = 0 := rfl;have e2 : IntKind.u32.max = 4294967295 := rfl;simp [Lit.wf, e1, e2];omega
theorem Xj {a : Int} (h : (Lit.int .u32 a).wf = true) : ∃ n : Nat, a = (n : Int) ∧ n < 4294967296 := by
 have e1 : IntKind.u32.min = 0 := rfl;have e2 : IntKind.u32.max = 4294967295 := rfl;simp [Lit.wf, e1, e2] at h;exact ⟨a.toNat, by omega, by omega⟩
theorem Yg (w : World) : (zeroValue 55).run Tryz.prog w = .ok (.slice none 0 0) w := by kernel_rfl
def TU : MTy Spt where
 k := 24
 t := 96
 e := 55
 q := .u32
 top := 4294967296
 ev := SpV
 dv := SpD
 z := none
 hk := Tryz.underlying24
 ht := Tryz.underlying96
 hz := Yg
 je := Xr
 jd := Zh
 fit := a14
 inv := Xj
def cq (off : Nat) (l : List Itm) : List Itm := l.filter (fun x => x.1 / 4 == off)
def jl (g o : Nat) (l : List Itm) : Nat → Option Spt := fun off => if cq off l = [] then none else some (some (g, o + l.findIdx (fun x => x.1 / 4 == off) * 45, (cq off l).length))
def AscI (l : List Itm) : Prop := l.Pairwise (fun x y => x.1 < y.1)
def fu (off : Nat) (l : List Itm) : Nat := (l.takeWhile (fun x => x.1 / 4 == off)).length
theorem yz (off : Nat) (l : List Itm) : fu off l ≤ l.length := (List.takeWhile_sublist _).length_le
theorem B5 (off : Nat) (l : List Itm) : l.take (fu off l) = l.takeWhile (fun x => x.1 / 4 == off) := by
 have h := List.takeWhile_append_dropWhile (p := fun x : Itm => x.1 / 4 == off) (l := l);unfold fu;generalize l.takeWhile (fun x => x.1 / 4 == off) = a at h ⊢;generalize l.dropWhile (fun x => x.1 / 4 == off) = b at h;rw [← h, List.take_left]
theorem Hd {α : Type} {p : α → Bool} {x : α} : ∀ {l : List α}, x ∈ l.takeWhile p → p x = true
 | [], h => by simp at h
 | y :: l, h => by
  rw [List.takeWhile_cons] at h;split at h
  ·rcases List.mem_cons.1 h with e | h
   ·subst e; assumption
   ·exact Hd h
  ·simp at h
theorem Cg {k : Nat} (hk : k < fu off l) (hx : l[k]? = some x) : x.1 / 4 = off := by
 have h1 : (l.take (fu off l))[k]? = some x := by rw [List.getElem?_take, if_pos hk]; exact hx
 rw [B5] at h1;have := Hd (List.mem_of_getElem? h1);simpa using this
theorem nj : ∀ {l : List Itm} {x : Itm}, l[fu off l]? = some x → x.1 / 4 ≠ off
 | [], x, h => by simp at h
 | y :: l, x, h => by
  by_cases hy : y.1 / 4 = off
  ·have e : fu off (y :: l) = fu off l + 1 := by simp [fu, hy]
   rw [e, List.getElem?_cons_succ] at h;exact nj h
  ·have e : fu off (y :: l) = 0 := by simp [fu, hy]
   rw [e, List.getElem?_cons_zero] at h;cases h;exact hy
theorem Kg {n : Nat} (h1 : ∀ k x, k < n → l[k]? = some x → x.1 / 4 = off) (hn : n ≤ l.length) (h2 : ∀ x, l[n]? = some x → x.1 / 4 ≠ off) : fu off l = n := by
 rcases Nat.lt_trichotomy (fu off l) n with h | h | h
 ·obtain ⟨x, hx⟩ : ∃ x, l[fu off l]? = some x := ⟨_, List.getElem?_eq_getElem (by omega)⟩
  exact absurd (h1 _ _ h hx) (nj hx)
 ·exact h
 ·have := yz off l
  obtain ⟨x, hx⟩ : ∃ x, l[n]? = some x := ⟨_, List.getElem?_eq_getElem (by omega)⟩;exact absurd (Cg h hx) (h2 x hx)
theorem AscI.lt (h : AscI l) {j : Nat} {y : Itm} (hij : i < j) (hi : l[i]? = some x) (hj : l[j]? = some y) : x.1 < y.1 := by
 obtain ⟨h1, e1⟩ := List.getElem?_eq_some_iff.1 hi;obtain ⟨h2, e2⟩ := List.getElem?_eq_some_iff.1 hj;rw [← e1, ← e2];exact List.pairwise_iff_getElem.1 h i j h1 h2 hij
theorem J7 {g o : Nat} (hx : l[i]? = some x) (hnew : ∀ y ∈ l.take i, y.1 / 4 ≠ x.1 / 4) :
  jl g o (l.take (i + fu (x.1 / 4) (l.drop i))) = B0 (jl g o (l.take i)) (x.1 / 4) (some (g, o + i * 45, fu (x.1 / 4) (l.drop i))) := by
 obtain ⟨k, hk⟩ : ∃ k, fu (x.1 / 4) (l.drop i) = k := ⟨_, rfl⟩;have a3 : i < l.length := (List.getElem?_eq_some_iff.1 hx).1
 have ht : l.take (i + k) = l.take i ++ (l.drop i).takeWhile (fun y => y.1 / 4 == x.1 / 4) := by
  rw [List.take_add, ← hk, B5]
 have a4 : 0 < k := by
  rw [← hk]
  have : l.drop i = x :: l.drop (i + 1) := by
   obtain ⟨h1, e1⟩ := List.getElem?_eq_some_iff.1 hx;rw [List.drop_eq_getElem_cons h1, e1]
  rw [this];simp [fu]
 have a1 : ((l.drop i).takeWhile (fun y => y.1 / 4 == x.1 / 4)).length = k := hk;have a0 : ∀ y ∈ (l.drop i).takeWhile (fun y => y.1 / 4 == x.1 / 4), y.1 / 4 = x.1 / 4 := fun y hy => by simpa using Hd hy
 rw [hk, ht];generalize (l.drop i).takeWhile (fun y => y.1 / 4 == x.1 / 4) = m at a1 a0;have a2 : (l.take i).length = i := by rw [List.length_take]; omega
 generalize l.take i = d at hnew a2
 funext off
 unfold jl B0;by_cases hq : off = x.1 / 4
 ·subst hq
  rw [if_pos rfl]
  have g1 : cq (x.1 / 4) d = [] := by
   unfold cq;rw [List.filter_eq_nil_iff];intro y hy;simpa using hnew y hy
  have g2 : cq (x.1 / 4) m = m := by
   unfold cq;rw [List.filter_eq_self];intro y hy;simpa using a0 y hy
  have g3 : cq (x.1 / 4) (d ++ m) = m := by
   unfold cq at *;rw [List.filter_append, g1, g2, List.nil_append]
  have g4 : (d ++ m).findIdx (fun y => y.1 / 4 == x.1 / 4) = i := by
   rw [List.findIdx_append, List.findIdx_eq_length.2 (fun y hy => by simpa using hnew y hy), a2];rw [if_neg (by omega)];cases m with
   | nil => simp at a1; omega
   | cons y m =>
    rw [List.findIdx_cons];simp [a0 y (List.mem_cons_self ..)]
  rw [g3, g4, a1];rw [if_neg (by intro e; rw [e] at a1; simp at a1; omega)]
 ·rw [if_neg hq]
  have g1 : cq off m = [] := by
   unfold cq;rw [List.filter_eq_nil_iff];intro y hy;have := a0 y hy;simp;omega
  have g2 : cq off (d ++ m) = cq off d := by
   unfold cq at *;rw [List.filter_append, g1, List.append_nil]
  rw [g2]
  dsimp only
  by_cases h0 : cq off d = []
  ·rw [if_pos h0, if_pos h0]
  ·rw [if_neg h0, if_neg h0]
   have g3 : (d ++ m).findIdx (fun y => y.1 / 4 == off) = d.findIdx (fun y => y.1 / 4 == off) := by
    rw [List.findIdx_append, if_pos];rw [List.findIdx_lt_length];obtain ⟨y, hy⟩ := List.exists_mem_of_ne_nil _ h0;unfold cq at hy;exact ⟨y, (List.mem_filter.1 hy).1, (List.mem_filter.1 hy).2⟩
   rw [g3]
theorem Qa (hasc : AscI l) (hx : l[i]? = some x) :
  ∀ z, l[i + fu (x.1 / 4) (l.drop i)]? = some z → ∀ y ∈ l.take (i + fu (x.1 / 4) (l.drop i)), y.1 / 4 ≠ z.1 / 4 := by
 intro z hz y hy;obtain ⟨k, hk⟩ : ∃ k, fu (x.1 / 4) (l.drop i) = k := ⟨_, rfl⟩
 have a1 : z.1 / 4 ≠ x.1 / 4 := by
  refine nj (l := l.drop i) ?_;rw [List.getElem?_drop];exact hz
 rw [hk] at hz hy;obtain ⟨j, hj⟩ := List.getElem?_of_mem hy
 have a0 : j < i + k := by
  have := (List.getElem?_eq_some_iff.1 hj).1;rw [List.length_take] at this;omega
 rw [List.getElem?_take, if_pos a0] at hj;have h1 := hasc.lt a0 hj hz
 have h2 : x.1 ≤ z.1 := by
  rcases Nat.eq_zero_or_pos k with e | e
  ·subst e
   rw [Nat.add_zero, hx] at hz;cases hz;exact Nat.le_refl _
  ·exact Nat.le_of_lt (hasc.lt (by omega) hx hz)
 have h3 : y.1 / 4 ≤ x.1 / 4 := by
  rcases Nat.lt_or_ge j i with h | h
  ·exact Nat.div_le_div_right (Nat.le_of_lt (hasc.lt h hj hx))
  ·refine Nat.le_of_eq (Cg (l := l.drop i) (k := j - i) (off := x.1 / 4) (by omega) ?_)
   rw [List.getElem?_drop, show i + (j - i) = j by omega];exact hj
 have h4 : x.1 / 4 ≤ z.1 / 4 := Nat.div_le_div_right h2;omega
end Go.Proofs.YtjgjohdeeeoeoaaGreatDoor
