/- pdqsort, plain: its ways, one equation each. -/
import Derived.Test.YtjgjohdeeeoeoaaGreatDoorM34
import Derived.Deep.CutRange
import Derived.Test.YtjgjohdeeeoeoaaGreatDoorM31
import Derived.Test.YtjgjohdeeeoeoaaGreatDoorM30
set_option linter.all false
namespace Go.Proofs.YtjgjohdeeeoeoaaGreatDoor
open Go.RowKit
theorem Ga : Sort.SWO ao where
 irrefl x := by simp [ao]
 trans x y z h1 h2 := by simp only [ao, decide_eq_true_eq] at *; omega
 ntrans x y z h1 h2 := by simp only [ao, decide_eq_false_iff_not] at *; omega
theorem wt {p : Nat → Bool} {d : Array Nat} {j : Nat} : ∀ (m i : Nat), j + 1 - i ≤ m → i ≤ Sort.scanUp p d j i ∧ (Sort.scanUp p d j i ≤ i ∨ Sort.scanUp p d j i ≤ j + 1)
 | m, i, hm => by
  by_cases h : i ≤ j
  ·by_cases hp : p d[i]! = true
   ·cases m with
    | zero => omega
    | succ m =>
     rw [M5 h hp];have := wt (p := p) (d := d) (j := j) m (i + 1) (by omega);omega
   ·rw [Bool.not_eq_true] at hp
    rw [yu hp];omega
  ·rw [Dq h]
   omega
theorem qz {p : Nat → Bool} {d : Array Nat} {i : Nat} : ∀ j : Nat, Sort.scanDown p d i j ≤ j
 | 0 => Nat.le_refl _
 | j + 1 => by
  by_cases h : i ≤ j + 1
  ·by_cases hp : p d[j + 1]! = true
   ·rw [Dk h hp]
    have := qz (p := p) (d := d) (i := i) j;omega
   ·rw [Bool.not_eq_true] at hp
    rw [vd hp];omega
  ·rw [p4 h]
   omega
theorem a28 {a b : Nat} : ∀ (m i j : Nat) (d : Array Nat), j ≤ m → 1 ≤ i → i ≤ b → j + 1 ≤ b → i ≤ (Sort.partEqLoop ao a i j d).1 ∧ (Sort.partEqLoop ao a i j d).1 ≤ b ∧ (Sort.partEqLoop ao a i j d).2.size = d.size := by
 intro m
 induction m with
 | zero =>
  intro i j d hm h1 hi hj;obtain ⟨i2, a0⟩ : ∃ x, Sort.scanUp (qU d a) d j i = x := ⟨_, rfl⟩;obtain ⟨j2, a1⟩ : ∃ x, Sort.scanDown (qD d a) d i2 j = x := ⟨_, rfl⟩;have b1 := wt (p := qU d a) (d := d) (j := j) _ i (Nat.le_refl _);have b2 := qz (p := qD d a) (d := d) (i := i2) j;rw [a0] at b1;rw [a1] at b2;rw [De a0 a1 (by omega)];exact ⟨by simp only; omega, by simp only; omega, rfl⟩
 | succ m ih =>
  intro i j d hm h1 hi hj;obtain ⟨i2, a0⟩ : ∃ x, Sort.scanUp (qU d a) d j i = x := ⟨_, rfl⟩;obtain ⟨j2, a1⟩ : ∃ x, Sort.scanDown (qD d a) d i2 j = x := ⟨_, rfl⟩;have b1 := wt (p := qU d a) (d := d) (j := j) _ i (Nat.le_refl _);have b2 := qz (p := qD d a) (d := d) (i := i2) j;rw [a0] at b1;rw [a1] at b2;by_cases h : i2 ≤ j2
  ·rw [Zw a0 a1 h b1.1 b2 (by omega)]
   have := ih (i2 + 1) (j2 - 1) (Sort.swp d i2 j2) (by omega) (by omega) (by omega) (by omega);rw [c8] at this;omega
  ·rw [De a0 a1 (by omega)]
   exact ⟨by simp only; omega, by simp only; omega, rfl⟩
theorem a19 {a b p : Nat} {d : Array Nat} (hab : a < b) : a < (Sort.partitionEqual ao d a b p).1 ∧ (Sort.partitionEqual ao d a b p).1 ≤ b ∧ (Sort.partitionEqual ao d a b p).2.size = d.size := by
 unfold Sort.partitionEqual;have := a28 (a := a) (b := b) (b - 1) (a + 1) (b - 1) (Sort.swp d a p) (Nat.le_refl _) (by omega) (by omega) (by omega);rw [c8] at this;omega
theorem a1a {d : Array Nat} {a b : Nat} (hab : a < b) : a ≤ (Sort.choosePivot ao d a b).1 ∧ (Sort.choosePivot ao d a b).1 < b := Sort.choosePivot_holds ao d a b hab
theorem Yn {a b p : Nat} {d : Array Nat} (hap : a ≤ p) (hpb : p < b) (hb : b ≤ d.size) : a ≤ (Sort.partition ao d a b p).1 ∧ (Sort.partition ao d a b p).1 < b ∧ (Sort.partition ao d a b p).2.2.size = d.size := by
 have h := Sort.partition_holds ao Ga d a b p hap hpb hb;exact ⟨h.1, h.2.1, h.2.2.1.1⟩
theorem E6 {a L M i0 : Nat} : ∀ (k t : Nat) (st : UInt64 × Array Nat), (bpR a L M i0 k t st).size = st.2.size
 | 0, _, _ => rfl
 | k + 1, t, st => by
  rw [bpR, E6 k (t + 1)];unfold Sort.breakStep;simp only;exact c8 _ _ _
theorem R3 {d : Array Nat} {a b : Nat} (h8 : 8 ≤ b - a) : (Sort.breakPatterns d a b).size = d.size := by
 rw [R0 d h8, E6]
def Av (d : Array Nat) (a b : Nat) (wb : Bool) : Array Nat := if !wb then Sort.breakPatterns d a b else d
def F0 (l : Nat) (wb : Bool) : Nat := if !wb then l - 1 else l
def Ax (wb wp : Bool) (h : Sort.Hint) : Bool := wb && wp && decide (h = .increasing)
section
variable {d d1 d4 : Array Nat} {a b l l1 p mid : Nat} {wb wp al : Bool} {h : Sort.Hint}
theorem Yq (hL : b - a ≤ 12) : Sort.pdq ao d a b l wb wp = Sort.insertionSort ao d a b := by
 rw [Sort.pdq, if_pos hL]
theorem U8 (hL : ¬ b - a ≤ 12) (hl : l = 0) : Sort.pdq ao d a b l wb wp = Sort.heapSort ao d a b := by
 rw [Sort.pdq, if_neg hL, if_pos hl]
theorem Ip (hL : ¬ b - a ≤ 12) (h50 : b - a < 50) (hl : ¬ l = 0) (h1 : Av d a b wb = d1) (hc : Sort.choosePivot ao d1 a b = (p, h)) (hh : h ≠ .decreasing) (hi : Ax wb wp h = true) (hp : (Sort.partialInsertionSort ao d1 a b).2 = true) :
  Sort.pdq ao d a b l wb wp = d1 := by
 unfold Av at h1;unfold Ax at hi;rw [Sort.pdq, if_neg hL, if_neg hl];simp only [h1, hc, hh, if_false, hi, if_true, hp];rw [ut h50]
theorem a18 (hL : ¬ b - a ≤ 12) (h50 : b - a < 50) (hl : ¬ l = 0) (h1 : Av d a b wb = d1) (hl1 : F0 l wb = l1) (hc : Sort.choosePivot ao d1 a b = (p, h)) (hh : h ≠ .decreasing) (hi : Ax wb wp h = false ∨ (Sort.partialInsertionSort ao d1 a b).2 = false)
  (hq : (decide (a > 0) && !ao d1[a - 1]! d1[p]!) = true) (hr : Sort.partitionEqual ao d1 a b p = (mid, d4)) (hg : a < mid ∧ mid ≤ b) : Sort.pdq ao d a b l wb wp = Sort.pdq ao d4 mid b l1 wb wp := by
 unfold Av at h1;unfold F0 at hl1;unfold Ax at hi
 have hd : (if (wb && wp && decide (h = Sort.Hint.increasing)) = true then Sort.partialInsertionSort ao d1 a b else (d1, false)) = (d1, false) := by
  rcases hi with e | e
  ·rw [e]; rfl
  ·rw [ut h50] at e ⊢
   simp only at e;rw [e];split <;> rfl
 conv => lhs; rw [Sort.pdq, if_neg hL, if_neg hl]
 simp only [h1, hl1, hc, hh, if_false, hd, hq, if_true, hr, Bool.false_eq_true];rw [dif_pos hg]
theorem U9 (hL : ¬ b - a ≤ 12) (h50 : b - a < 50) (hl : ¬ l = 0) (h1 : Av d a b wb = d1) (hl1 : F0 l wb = l1) (hc : Sort.choosePivot ao d1 a b = (p, h)) (hh : h ≠ .decreasing) (hi : Ax wb wp h = false ∨ (Sort.partialInsertionSort ao d1 a b).2 = false)
  (hq : (decide (a > 0) && !ao d1[a - 1]! d1[p]!) = false) (hr : Sort.partition ao d1 a b p = (mid, al, d4)) (hg : a ≤ mid ∧ mid < b) (hlr : mid - a < b - mid) : Sort.pdq ao d a b l wb wp = Sort.pdq ao (Sort.pdq ao d4 a mid l1 true true) (mid + 1) b l1 (decide (mid - a ≥ (b - a) / 8)) al := by
 unfold Av at h1;unfold F0 at hl1;unfold Ax at hi
 have hd : (if (wb && wp && decide (h = Sort.Hint.increasing)) = true then Sort.partialInsertionSort ao d1 a b else (d1, false)) = (d1, false) := by
  rcases hi with e | e
  ·rw [e]; rfl
  ·rw [ut h50] at e ⊢
   simp only at e;rw [e];split <;> rfl
 conv => lhs; rw [Sort.pdq, if_neg hL, if_neg hl]
 simp only [h1, hl1, hc, hh, if_false, hd, hq, hr, Bool.false_eq_true];rw [dif_pos hg, if_pos hlr]
theorem Po (hL : ¬ b - a ≤ 12) (h50 : b - a < 50) (hl : ¬ l = 0) (h1 : Av d a b wb = d1) (hl1 : F0 l wb = l1) (hc : Sort.choosePivot ao d1 a b = (p, h)) (hh : h ≠ .decreasing) (hi : Ax wb wp h = false ∨ (Sort.partialInsertionSort ao d1 a b).2 = false)
  (hq : (decide (a > 0) && !ao d1[a - 1]! d1[p]!) = false) (hr : Sort.partition ao d1 a b p = (mid, al, d4)) (hg : a ≤ mid ∧ mid < b) (hlr : ¬ mid - a < b - mid) : Sort.pdq ao d a b l wb wp = Sort.pdq ao (Sort.pdq ao d4 (mid + 1) b l1 true true) a mid l1 (decide (b - mid ≥ (b - a) / 8)) al := by
 unfold Av at h1;unfold F0 at hl1;unfold Ax at hi
 have hd : (if (wb && wp && decide (h = Sort.Hint.increasing)) = true then Sort.partialInsertionSort ao d1 a b else (d1, false)) = (d1, false) := by
  rcases hi with e | e
  ·rw [e]; rfl
  ·rw [ut h50] at e ⊢
   simp only at e;rw [e];split <;> rfl
 conv => lhs; rw [Sort.pdq, if_neg hL, if_neg hl]
 simp only [h1, hl1, hc, hh, if_false, hd, hq, hr, Bool.false_eq_true];rw [dif_pos hg, if_neg hlr]
end
end Go.Proofs.YtjgjohdeeeoeoaaGreatDoor
namespace Go.Proofs.YtjgjohdeeeoeoaaGreatDoor
open Go.RowKit
attribute [local go_sem] Oper.semAt_some
variable {x : Itm} {l : List Itm} {a i off : Nat} {w : World}
def Qq (g n : Nat) (D : Array Nat) (rest : List Value) (w : World) (e : Ending) (W : World) : Prop := e = .returned (.tuple #[]) ∧ SoW g w D rest W ∧ D.size = n
theorem Kg {ρ : Operand → Value} {o : Oper} {x y : Operand} {b : Nat} {m : Bool} (hm : decide (b ≤ a) = m) (ho : o.op = .binOp .geq 3 x y 3) (hx : ρ x = .int .i64 (a : Int)) (hy : ρ y = .int .i64 (b : Int)) : (execOp ρ o).run Tryz.prog w = .ok (.value (.bool m)) w := by
 have e : decide ((b : Int) ≤ (a : Int)) = m := by rw [← hm, Bool.eq_iff_iff]; simp
 unfold execOp;simp only [ho];go_simp
set_option maxRecDepth 100000 in
set_option maxHeartbeats 32000000 in
theorem Yp (g cap n : Nat) (rest : List Value) (hc : n ≤ cap) (h50 : n < 50) : ∀ (m a b l : Nat) (d : Array Nat) (w : World), b - a = m → UAt w g d rest → d.size = n → a ≤ b → b ≤ n → l ≤ 64 →
  Calls Tryz.prog 89 #[.slice (some ⟨g, 0, none⟩) n cap, .int .i64 (a : Int), .int .i64 (b : Int), .int .i64 (l : Int)] w (Qq g n (Sort.pdq ao d a b l true true) rest w) := by
 have HC : Hid (n ≤ cap) := zH hc;have c8 : Hid (n < 50) := zH h50;clear hc h50;intro m
 induction m using Nat.strongRecOn with
 | _ m ih =>
 intro a b l d w hm hU hn ab hb hl;have IH := zH ih;obtain ⟨D, hD⟩ : ∃ D, Sort.pdq ao d a b l true true = D := ⟨_, rfl⟩;rw [hD];have HD := zH hD;generalize hPost : Qq g n D rest w = Post;have c0 : Hid (∀ W, SoW g w D rest W → D.size = n → Post (.returned (.tuple #[])) W) := zH fun W h1 h2 => by rw [← hPost]; exact ⟨rfl, h1, h2⟩
 have HN := zH hn; have HB : Hid (a ≤ b ∧ b ≤ n ∧ l ≤ 64 ∧ b - a = m) := zH ⟨ab, hb, hl, hm⟩;have HS := zH (SoW.start hU);clear hD hPost hU hn ab hb hl hm ih;go_enter Tryz.func89, Tryz.ntmps89
 go_wp2_with fail
 go_loopw [1, 2, 3, 8, 9] (fun va vb vl vwb vwp wr => ∃ (a' b' l' : Nat) (wb wp : Bool) (dk : Array Nat), va = .int .i64 (a' : Int) ∧ vb = .int .i64 (b' : Int) ∧ vl = .int .i64 (l' : Int) ∧ vwb = .bool wb ∧ vwp = .bool wp ∧ a' ≤ b' ∧ b' ≤ n ∧ b' - a' ≤ m ∧ l' ≤ 64 ∧ dk.size = n ∧ Sort.pdq ao dk a' b' l' wb wp = D ∧ SoW g w dk rest wr) (fun va vb _ _ _ _ => (intOf vb - intOf va).toNat)
 case atStart => exact ⟨a, b, l, true, true, d, rfl, rfl, rfl, rfl, rfl, HB.out.1, HB.out.2.1, by have := HB.out; omega, HB.out.2.2.1, HN.out, HD.out, HS.out⟩
 case round =>
  clear HS HD HB HN;obtain ⟨a', b', l', wb, wp, dk, rfl, rfl, rfl, rfl, rfl, ab, ag, bs, an, a6, b4, hs⟩ := hrel;have cr := zH a6; have bn := zH b4; have HS := zH hs;have HB : Hid (a' ≤ b' ∧ b' ≤ n ∧ b' - a' ≤ m ∧ l' ≤ 64 ∧ n < 50 ∧ n ≤ cap) := zH ⟨ab, ag, bs, an, c8.out, HC.out⟩;have h50 := c8.out;have b3 := HC.out;obtain ⟨L, hL⟩ : ∃ L, b' - a' = L := ⟨_, rfl⟩;have c9 := zH hL;have cu : (b' : Int) - (a' : Int) = (L : Int) := (by omega);have cm := IntWalk.i64_in ((L : Int)) (by omega);by_cases h12 : L ≤ 12
  ·have j1 : (L : Int) ≤ 12 := by omega
   have a5 : Sort.insertionSort ao dk a' b' = D := (by rw [← b4]; exact (Yq (by omega)).symm);have bf : D.size = n := (by rw [← a5, (Sort.insertionSort_holds Ga dk a' b' ab (by omega)).1.1, a6]);have ad := Xy g cap a' b' n dk rest wr hs.at_ a6 b3 ab ag (by omega);rw [a5] at ad;have bx := zH ad; have bc := zH bf;clear ad bf a5 a6 b4 hs hL ab ag bs an h12
   go_wp2_with fail
   refine bx.out.mono ?_;rintro e X ⟨rfl, hx⟩;have HE := zH (c0.out X (HS.out.trans hx) bc.out);clear hx
   go_wp2_with fail
   first | exact HE.out | (go_end0; exact HE.out) | (go_ret; exact HE.out)
  have j1 : ¬ (L : Int) ≤ 12 := (by omega);by_cases hl0 : l' = 0
  ·subst hl0
   have a5 : Sort.heapSort ao dk a' b' = D := (by rw [← b4]; exact (U8 (by omega) rfl).symm);have bf : D.size = n := (by rw [← a5, (Sort.heapSort_holds Ga dk a' b' ab (by omega)).1.1, a6]);have ad := Sx g cap a' b' n dk rest wr hs.at_ a6 b3 (by omega) ag (by omega);rw [a5] at ad;have bx := zH ad; have bc := zH bf;clear ad bf a5 a6 b4 hs hL ab ag bs an h12
   go_wp2_with fail
   refine bx.out.mono ?_;rintro e X ⟨rfl, hx⟩;have HE := zH (c0.out X (HS.out.trans hx) bc.out);clear hx
   go_wp2_with fail
   first | exact HE.out | (go_end0; exact HE.out) | (go_ret; exact HE.out)
  have j2 : ((l' : Int) == 0) = false := (by simp; omega);have cs : ¬ (l' : Int) = 0 := (by omega);have bk : Hid (¬ b' - a' ≤ 12) := zH (by omega);have af : Hid (b' - a' < 50) := zH (by omega);have b9 : Hid (¬ l' = 0) := zH hl0;obtain ⟨d1, ax⟩ : ∃ x, Av dk a' b' wb = x := ⟨_, rfl⟩;obtain ⟨l1, b0⟩ : ∃ x, F0 l' wb = x := ⟨_, rfl⟩
  have ah : d1.size = n := by
   rw [← ax];unfold Av;split
   ·rw [R3 (by omega), a6]
   ·exact a6
  obtain ⟨⟨p, h⟩, bd⟩ : ∃ r, Sort.choosePivot ao d1 a' b' = r := ⟨_, rfl⟩;have ap := a1a (d := d1) (a := a') (b := b') (by omega)
  have ai : h ≠ .decreasing := by
   have := congrArg Prod.snd bd;rw [Ub (by omega) (by omega)] at this;simp only at this;rw [← this];split <;> simp
  rw [bd] at ap;simp only at ap
  have c1 : Hid (∀ W, SoW g w d1 rest W → Calls Tryz.prog 110 #[.slice (some ⟨g, 0, none⟩) n cap, .int .i64 (a' : Int), .int .i64 (b' : Int)] W fun e w' => e = .returned (.tuple #[.int .i64 (p : Int), .int .i64 ((zl h : Nat) : Int)]) ∧ SoW g w d1 rest w') := zH fun W hW => by
   have := Yt g cap a' b' n d1 rest W hW.at_ ah b3 (by omega) (by omega) ag (by omega);rw [bd] at this;exact this.mono fun e X ⟨e1, e2⟩ => ⟨e1, hW.trans e2⟩
  have b7 := zH ax; have bm := zH b0; have a2 := zH ah; have HP := zH bd; have ck := zH ap; have ae := zH ai;have j3 : ((zl h : Nat) : Int) ≠ 2 := (by cases h <;> first | exact absurd rfl ai | decide);have cl : (((zl h : Nat) : Int) == 2) = false := (by cases h <;> first | exact absurd rfl ai | decide);obtain ⟨hv, ak⟩ : ∃ x, zl h = x := ⟨_, rfl⟩;rw [ak] at c1 j3 cl;have ci := zH ak;have a4 : Hid (l1 ≤ 64) := zH (by rw [← b0]; unfold F0; split <;> omega);have bv := zH (Wm g cap a' b' n dk rest wr hs.at_ a6 b3 (by omega) ag (by omega));obtain ⟨pb, c6⟩ : ∃ x, (Sort.partialInsertionSort ao d1 a' b').2 = x := ⟨_, rfl⟩
  have av : Hid (∀ W, SoW g w d1 rest W → Calls Tryz.prog 112 #[.slice (some ⟨g, 0, none⟩) n cap, .int .i64 (a' : Int), .int .i64 (b' : Int)] W fun e w' => e = .returned (.bool pb) ∧ SoW g w d1 rest w') := zH fun W hW => by
   have := Ua g cap a' b' n d1 rest W hW.at_ ah b3 (by omega) (by omega) ag (by omega);rw [c6] at this;exact this.mono fun e X ⟨e1, e2⟩ => ⟨e1, hW.trans e2⟩
  have bz := zH c6;obtain ⟨ic, am⟩ : ∃ x, Ax wb wp h = x := ⟨_, rfl⟩;have bl := zH am;have br := HB.out;have b5 := ck.out;clear c6 am ax b0 ah bd ap ai a6 b4 hs hL ab ag bs an h12 hl0 ak h50 b3
  go_upto_if 35 with fail
  go_cut [3, 8] from 19 to 133 (fun s3 s8 wx => s3 = .int .i64 (l1 : Int) ∧ s8 = .bool wb ∧ SoW g w d1 rest wx)
  case first =>
   have ax := b7.out;have b0 := bm.out;cases wb
   case false =>
    have c4 := bv.out;rw [show Sort.breakPatterns dk a' b' = d1 from ax] at c4;have b6 := zH c4;have cv : (l' : Int) - 1 = (l1 : Int) := (by have h1 : l' - 1 = l1 := b0; have := b9.out; omega);have cn := IntWalk.i64_in ((l1 : Int)) (by have := a4.out; omega);clear c4 ax b0
    go_wp2_with fail
    refine b6.out.mono ?_;rintro e X1 ⟨rfl, cf⟩;have bo := zH (HS.out.trans cf);clear cf b6 bv HS
    go_wp2_with fail
    go_meet
    exact ⟨rfl, rfl, bo.out⟩
   case true =>
    obtain rfl : l' = l1 := b0;obtain rfl : dk = d1 := ax
    go_wp2_with fail
    go_meet
    exact ⟨rfl, rfl, HS.out⟩
  case rest =>
  obtain ⟨rfl, rfl, cd⟩ := hcut;have bo := zH cd;clear cd HS bv
  go_wp2_with fail
  refine (c1.out _ bo.out).mono ?_;rintro e X2 ⟨rfl, cg⟩;have bp := zH cg;clear cg c1 bo
  go_upto_region 15 with fail
  go_cut [8, 9, 12, 68] from 19 to 133 (fun s8 s9 s12 s68 wx => s8 = .bool wb ∧ s9 = .bool wp ∧ s12 = .int .i64 (hv : Int) ∧ s68 = .bool ic ∧ X2 = wx)
  case first =>
   have am := bl.out;cases wb
   case false =>
    obtain rfl : false = ic := am
    go_wp2_with fail
    go_meet
    exact ⟨rfl, rfl, rfl, rfl, rfl⟩
   case true =>
    cases wp
    case false =>
     obtain rfl : false = ic := am
     go_wp2_with fail
     go_meet
     exact ⟨rfl, rfl, rfl, rfl, rfl⟩
    case true =>
     have ak := ci.out;by_cases hinc : hv = 1
     ·obtain rfl : true = ic := by rw [← am]; rw [hinc] at ak; cases h <;> first | rfl | exact absurd ak (by decide)
      subst hinc;clear am ak
      go_wp2_with fail
      go_meet
      exact ⟨rfl, rfl, rfl, rfl, rfl⟩
     ·obtain rfl : false = ic := by rw [← am]; rw [← ak] at hinc; cases h <;> first | rfl | exact absurd rfl hinc
      have j4 : ((hv : Int) == 1) = false := (by simp; omega);have ct : ¬ (hv : Int) = 1 := (by omega);clear am ak hinc
      go_wp2_with fail
      go_meet
      exact ⟨rfl, rfl, rfl, rfl, rfl⟩
  case rest =>
  obtain ⟨rfl, rfl, rfl, rfl, rfl⟩ := hcut
  go_upto_if 68 with fail
  go_cut [3] from 19 to 133 (fun s3 wx => s3 = .int .i64 (l1 : Int) ∧ (ic = false ∨ pb = false) ∧ SoW g w d1 rest wx)
  case first =>
   cases ic
   case false =>
    go_wp2_with fail
    go_meet
    exact ⟨rfl, by simp, bp.out⟩
   case true =>
    cases pb
    case true =>
     have a5 : d1 = D := (by rw [← bn.out]; exact (Ip bk.out af.out b9.out b7.out HP.out ae.out bl.out bz.out).symm);have bc : Hid (D.size = n) := zH (by rw [← a5]; exact a2.out);have ch := zH a5;clear a5
     go_wp2_with fail
     refine (av.out X2 bp.out).mono ?_;rintro e X3 ⟨rfl, bg⟩;have HE := zH (c0.out X3 (by rw [← ch.out]; exact bg) bc.out);clear bg
     go_wp2_with fail
     first | exact HE.out | (go_end0; exact HE.out) | (go_ret; exact HE.out)
    case false =>
     go_wp2_with fail
     refine (av.out X2 bp.out).mono ?_;rintro e X3 ⟨rfl, bg⟩;have aq := zH bg;clear bg
     go_wp2_with fail
     go_meet
     exact ⟨rfl, by simp, aq.out⟩
  case rest =>
  obtain ⟨rfl, ad, ce⟩ := hcut;have au : Hid (Ax wb wp h = false ∨ (Sort.partialInsertionSort ao d1 a' b').2 = false) := zH (ad.elim (fun e => .inl (bl.out.trans e)) (fun e => .inr (bz.out.trans e)));have aq := zH ce;clear ce ad bp av bl bz
  go_upto_region 17 with fail
  obtain ⟨c, hc⟩ : ∃ c, (decide (a' > 0) && !ao d1[a' - 1]! d1[p]!) = c := ⟨_, rfl⟩;have HQ := zH hc;clear hc
  go_cut [1, 87] from 19 to 133 (fun s1 s87 wx => s1 = .int .i64 (a' : Int) ∧ s87 = .bool c ∧ SoW g w d1 rest wx)
  case first =>
   have hc := HQ.out;by_cases ha0 : 0 < a'
   ·obtain ⟨a1, rfl⟩ : ∃ a1, a' = a1 + 1 := ⟨a' - 1, by omega⟩
    obtain ⟨mm, c5⟩ : ∃ mm, ao d1[a1]! d1[p]! = mm := ⟨_, rfl⟩;have cj := zH c5;obtain rfl : (!mm) = c := by rw [← hc, Nat.add_sub_cancel, c5]; simp
    have q1 := aq.out.at_.cell (k := a1) (by rw [a2.out]; omega); have q2 := aq.out.at_.cell (k := p) (by rw [a2.out]; omega);clear hc c5 ha0
    go_big_quiet (first | (go_at_call 113; refine Calls.quiet_of_same (cy cj.out _)))
    have b2 := aq.out.drewN nq;generalize World.drewN _ nq = W8 at b2 ⊢;have c3 := zH b2;clear b2 q1 q2
    go_wp2_with fail
    go_meet
    exact ⟨by first | rfl | go_num, rfl, c3.out⟩
   ·obtain rfl : a' = 0 := by omega
    obtain rfl : false = c := by rw [← hc]; simp
    clear hc ha0
    go_big_quiet (first | (go_at_call 113; refine Calls.quiet_of_same (cy (by assumption) _)))
    have b2 := aq.out.drewN nq;generalize World.drewN _ nq = W8 at b2 ⊢;have c3 := zH b2;clear b2
    go_wp2_with fail
    go_meet
    exact ⟨by first | rfl | go_num, rfl, c3.out⟩
  case rest =>
  obtain ⟨rfl, rfl, bu⟩ := hcut;have bq := zH bu;have bt := bu.at_;cases c
  case true =>
   obtain ⟨⟨a0, d4⟩, hr⟩ : ∃ r, Sort.partitionEqual ao d1 a' b' p = r := ⟨_, rfl⟩;have a7 := a19 (d := d1) (a := a') (b := b') (p := p) (by omega);rw [hr] at a7;simp only at a7;have b1 := Ys g cap a' b' p n d1 rest _ bt a2.out br.2.2.2.2.2 b5.1 b5.2 br.2.1 (by omega);rw [hr] at b1;have bb := zH b1;have HG := zH a7;have ba : Hid (Sort.pdq ao d4 a0 b' l1 wb wp = D) := zH (by rw [← bn.out]; exact (a18 bk.out af.out b9.out b7.out bm.out HP.out ae.out au.out HQ.out hr ⟨a7.1, a7.2.1⟩).symm);clear b1 hr a7 bt bu aq
   go_wp2_with fail
   refine bb.out.mono ?_;rintro e X4 ⟨rfl, bh⟩;have ar := zH (bq.out.trans bh);have aj := HG.out;clear bh bb bq
   go_wp2_with fail
   go_roundw
   case rel => exact ⟨a0, b', l1, wb, wp, d4, rfl, rfl, rfl, rfl, rfl, by omega, by omega, by omega, a4.out, aj.2.2.trans a2.out, ba.out, ar.out⟩
   case measure => first | (simp [intOf]; done) | (simp [intOf]; omega)
  case false =>
   obtain ⟨⟨a0, al, d4⟩, hr⟩ : ∃ r, Sort.partition ao d1 a' b' p = r := ⟨_, rfl⟩;have a7 := Yn (d := d1) (a := a') (b := b') (p := p) b5.1 b5.2 (by rw [a2.out]; omega);rw [hr] at a7;simp only at a7;have b1 := U6 g cap a' b' p n d1 rest _ bt a2.out br.2.2.2.2.2 b5.1 b5.2 br.2.1 (by omega);rw [hr] at b1;have bb := zH b1; have HR := zH hr; have HG := zH a7;obtain ⟨x, hx⟩ : ∃ x, a0 - a' = x := ⟨_, rfl⟩;obtain ⟨y, hy⟩ : ∃ y, b' - a0 = y := ⟨_, rfl⟩;obtain ⟨q8, c7⟩ : ∃ q, L / 8 = q := ⟨_, rfl⟩;have cb := zH c7;have ca : Hid (L < 1000) := zH (by have := c9.out; omega);have cx : (a0 : Int) - (a' : Int) = (x : Int) := (by omega);have cp : (a0 : Int) - (a' : Int) = (x : Int) := (by omega);have co := IntWalk.i64_in ((x : Int)) (by omega);have cz : (b' : Int) - (a0 : Int) = (y : Int) := (by omega);have cq := IntWalk.i64_in ((y : Int)) (by omega);have cw := IntWalk.i64_in ((a0 : Int) + 1) (by omega);have aa : Hid (a0 - a' = x ∧ b' - a0 = y ∧ b' - a' = L ∧ L / 8 = q8) := zH ⟨hx, hy, c9.out, c7⟩;clear b1 hr a7 hx hy c7 bt bu aq
   go_wp2_with fail
   refine bb.out.mono ?_;rintro e X4 ⟨rfl, bh⟩;have ar := zH (bq.out.trans bh);clear bh bb bq;by_cases hxy : x < y
   ·have j5 : (x : Int) < (y : Int) := by omega
    obtain ⟨bj, a3⟩ : ∃ z, decide (q8 ≤ x) = z := ⟨_, rfl⟩;have bw := zH a3;have aj := HG.out;have az := IH.out (a0 - a') (by have := aa.out; omega) a' a0 l1 d4 X4 rfl ar.out.at_ (aj.2.2.trans a2.out) (by omega) (by omega) a4.out;obtain ⟨d5, ay⟩ : ∃ z, Sort.pdq ao d4 a' a0 l1 true true = z := ⟨_, rfl⟩;rw [ay] at az;have b8 := zH az
    have ba : Hid (Sort.pdq ao d5 (a0 + 1) b' l1 bj al = D) := zH (by
     rw [← bn.out, U9 bk.out af.out b9.out b7.out bm.out HP.out ae.out au.out HQ.out HR.out ⟨aj.1, aj.2.1⟩ (by have := aa.out; omega), ay, ← a3];congr 1
     rw [aa.out.2.2.1, aa.out.2.2.2, aa.out.1])
    clear az ay a3 hxy
    go_wp2_with (first | (refine a9 rfl (oh (b := 8) cb.out (by omega) (by have := ca.out; omega) rfl rfl rfl) ?_) | (refine a9 rfl (Kg bw.out rfl rfl rfl) ?_) | fail)
    refine b8.out.mono ?_;rintro e X5 ⟨rfl, bi, a8⟩;have c2 := zH (ar.out.trans bi); have aw := zH a8;clear bi a8 b8 ar
    go_wp2_with fail
    go_roundw
    case rel => exact ⟨a0 + 1, b', l1, bj, al, d5, by first | rfl | go_num, by first | rfl | go_num, rfl, rfl, rfl, by omega, by omega, by omega, a4.out, aw.out, ba.out, c2.out⟩
    case measure => first | (simp [intOf]; done) | (simp [intOf]; omega)
   ·have j5 : ¬ (x : Int) < (y : Int) := by omega
    obtain ⟨bj, a3⟩ : ∃ z, decide (q8 ≤ y) = z := ⟨_, rfl⟩;have bw := zH a3;have aj := HG.out;have az := IH.out (b' - (a0 + 1)) (by have := aa.out; omega) (a0 + 1) b' l1 d4 X4 rfl ar.out.at_ (aj.2.2.trans a2.out) (by omega) (by omega) a4.out;obtain ⟨d5, ay⟩ : ∃ z, Sort.pdq ao d4 (a0 + 1) b' l1 true true = z := ⟨_, rfl⟩;rw [ay] at az;have b8 := zH az
    have ba : Hid (Sort.pdq ao d5 a' a0 l1 bj al = D) := zH (by
     rw [← bn.out, Po bk.out af.out b9.out b7.out bm.out HP.out ae.out au.out HQ.out HR.out ⟨aj.1, aj.2.1⟩ (by have := aa.out; omega), ay, ← a3];congr 1
     rw [aa.out.2.2.1, aa.out.2.2.2, aa.out.2.1])
    clear az ay a3 hxy
    go_wp2_with (first | (refine a9 rfl (oh (b := 8) cb.out (by omega) (by have := ca.out; omega) rfl rfl rfl) ?_) | (refine a9 rfl (Kg bw.out rfl rfl rfl) ?_) | fail)
    refine b8.out.mono ?_;rintro e X5 ⟨rfl, bi, a8⟩;have c2 := zH (ar.out.trans bi); have aw := zH a8;clear bi a8 b8 ar
    go_wp2_with fail
    go_roundw
    case rel => exact ⟨a', a0, l1, bj, al, d5, by first | rfl | go_num, by first | rfl | go_num, rfl, rfl, rfl, by omega, by omega, by omega, a4.out, aw.out, ba.out, c2.out⟩
    case measure => first | (simp [intOf]; done) | (simp [intOf]; omega)
theorem Q3 {d : Array Nat} {D : Array Nat} (h : Sort.pdq ao d 0 d.size (Sort.bitsLen d.size) true true = D) : D.toList = d.toList.mergeSort (fun x y => decide (x ≤ y)) := by
 have hs := Sort.sort_sorts ao Ga d;have e : Sort.sort ao d = D := h;rw [e] at hs;have hu := Sort.sorted_unique_holds (lt := ao) Ga (fun x y h1 h2 => by simp only [ao, decide_eq_false_iff_not] at h1 h2; omega) d D hs.1 hs.2;rw [hu];congr 1
 funext x y
 simp only [ao];rw [Bool.eq_iff_iff];simp
set_option maxRecDepth 100000 in
theorem V9 (g cap n : Nat) (d : Array Nat) (rest : List Value) (w : World) (hU : UAt w g d rest) (hn : d.size = n) (hc : n ≤ cap) (h50 : n < 50) :
  Calls Tryz.prog 67 #[.slice (some ⟨g, 0, none⟩) n cap] w fun e w' => e = .returned (.tuple #[]) ∧ ∃ D : Array Nat, SoW g w D rest w' ∧ D.size = n ∧ D.toList = d.toList.mergeSort (fun x y => decide (x ≤ y)) := by
 have a1 : Sort.bitsLen n ≤ 64 := Nat.le_trans ((Sort.bitsLen_le_iff n 6).2 (by omega)) (by omega);have hp := Yp g cap n rest hc h50 n 0 n (Sort.bitsLen n) d w (by omega) hU hn (by omega) (Nat.le_refl _) a1;obtain ⟨D, hD⟩ : ∃ D, Sort.pdq ao d 0 n (Sort.bitsLen n) true true = D := ⟨_, rfl⟩;have a2 : D.toList = d.toList.mergeSort (fun x y => decide (x ≤ y)) := Q3 (by rw [hn]; exact hD);rw [hD] at hp;have a0 := Tk n (by omega) w;obtain ⟨l, hl⟩ : ∃ l, Sort.bitsLen n = l := ⟨_, rfl⟩;rw [hl] at hp a0;have HP := zH hp; have HL := zH a0;generalize hPost : (fun (e : Ending) (w' : World) => e = .returned (.tuple #[]) ∧ ∃ D : Array Nat, SoW g w D rest w' ∧ D.size = n ∧ D.toList = d.toList.mergeSort (fun x y => decide (x ≤ y))) = Post;have a4 : Hid (∀ W, SoW g w D rest W → D.size = n → Post (.returned (.tuple #[])) W) := zH fun W h1 h2 => by rw [← hPost]; exact ⟨rfl, D, h1, h2, a2⟩
 have a5 : IntKind.u64.wrap (n : Int) = (n : Int) := by rw [IntKind.wrap_u64]; omega
 clear hPost hU hn hc h50 a1 hp hD a2 a0 hl;go_enter Tryz.func67, Tryz.ntmps67
 go_wp2_with fail
 refine HL.out.mono ?_;rintro e w' ⟨rfl, rfl⟩
 go_wp2_with fail
 refine HP.out.mono ?_;rintro e X ⟨rfl, hx, a3⟩;have HE := zH (a4.out X hx a3);clear hx a3
 go_wp2_with fail
 first | exact HE.out | (go_end0; exact HE.out) | (go_ret; exact HE.out)
theorem Xz (w : World) : Calls Tryz.prog 107 #[.slice none 0 0, .int .i64 0, .int .i64 0] w fun e w' => e = .returned (.tuple #[]) ∧ w' = w := by
 go_enter Tryz.func107, Tryz.ntmps107
 go_wp2_with fail
 go_loopw [6] (fun v wr => v = .int .i64 1 ∧ wr = w) (fun _ _ => 0)
 case atStart => exact ⟨rfl, rfl⟩
 case round =>
  obtain ⟨rfl, rfl⟩ := hrel
  go_wp2_with fail
  first | exact ⟨rfl, rfl⟩ | (go_end0; exact ⟨rfl, rfl⟩)
theorem Yr (w : World) : Calls Tryz.prog 89 #[.slice none 0 0, .int .i64 0, .int .i64 0, .int .i64 0] w fun e w' => e = .returned (.tuple #[]) ∧ w' = w := by
 go_enter Tryz.func89, Tryz.ntmps89
 go_wp2_with fail
 go_loopw [1, 2, 3, 8, 9] (fun a b c d e wr => a = .int .i64 0 ∧ b = .int .i64 0 ∧ c = .int .i64 0 ∧ d = .bool true ∧ e = .bool true ∧ wr = w) (fun _ _ _ _ _ _ => 0)
 case atStart => exact ⟨rfl, rfl, rfl, rfl, rfl, rfl⟩
 case round =>
  obtain ⟨rfl, rfl, rfl, rfl, rfl, rfl⟩ := hrel
  go_wp2_with fail
  refine (Xz _).mono ?_;rintro e w' ⟨rfl, rfl⟩
  go_wp2_with fail
  exact bodyPost_ret (results_none rfl _ _ _) rfl ⟨rfl, rfl⟩
theorem Va (w : World) : Calls Tryz.prog 67 #[.slice none 0 0] w fun e w' => e = .returned (.tuple #[]) ∧ w' = w := by
 have HL := zH (Tk 0 (by omega) w);have a0 : IntKind.u64.wrap (0 : Int) = 0 := by rw [IntKind.wrap_u64]; rfl
 go_enter Tryz.func67, Tryz.ntmps67
 go_wp2_with fail
 refine HL.out.mono ?_;rintro e w' ⟨rfl, rfl⟩;rw [show Sort.bitsLen 0 = 0 from rfl]
 go_wp2_with fail
 refine (Yr _).mono ?_;rintro e w' ⟨rfl, rfl⟩
 go_wp2_with fail
 first | exact ⟨rfl, rfl⟩ | (go_end0; exact ⟨rfl, rfl⟩) | (go_ret; exact ⟨rfl, rfl⟩)
section
variable {β : Type} {T : MTy β}
abbrev t0 : Nat → Nat → Bool := fun x y => decide (x ≤ y)
def yz (T : MTy β) (S : List Nat → Prop) (w : World) (e : Ending) (w' : World) : Prop :=
 ∃ v ss, e = .returned v ∧ S ss ∧ w'.ownsRow w.heap.size 24 1 v ss.length ((ss.mergeSort t0).map T.kv) ∧ Below w.heap.size w w'
set_option maxRecDepth 100000 in
set_option maxHeartbeats 4000000 in
theorem J1 (hq : T.q = .u32) {gf : Nat} {lb : Array Value} (eg : ∀ args w, (callFunc gf args).run Tryz.prog w = .ok (.enter gf args) w) {S Sp : List Nat → Prop} (hS : ∀ ss, S ss → ss.length < 50) {N : Nat} (hN : N ≤ 1000000) (hseq : SeqStopsK Fence.wide 4 Tryz.prog gf lb (fun x : Nat => #[T.kv x]) KeepsWalks S Sp N w) :
  Calls Tryz.prog 36 #[.func (.func gf) #[] lb] w (yz T S w) := by
 have a3 : T.kv = UV := by funext x; unfold MTy.kv UV; rw [hq]
 have HA := zH (Rb eg hN hseq);generalize hPost : yz T S w = Post;have HP : Hid (∀ v ss W, S ss → W.ownsRow w.heap.size 24 1 v ss.length ((ss.mergeSort t0).map UV) → Below w.heap.size w W → Post (.returned v) W) := zH fun v ss W h1 h2 h3 => by rw [← hPost]; exact ⟨v, ss, rfl, h1, by rw [a3]; exact h2, h3⟩
 have a6 := zH hS;clear hPost hseq hS;go_enter Tryz.func36, Tryz.ntmps36
 go_wp2_with fail
 refine HA.out.mono ?_;rintro e W ⟨v, ss, rfl, a1, a0, hb⟩;rw [a3] at a0;have aa := zH a1; have a9 := zH hb;rcases a0.2 with ⟨rfl, hz⟩ | ⟨g, cap, cur, rfl, hge, hg, hc, hm, hs, ht⟩
 ·have a8 : ss = [] := List.eq_nil_of_length_eq_zero hz
  subst a8;have HE := zH (HP.out (.slice none 0 0) [] W a1 (by simpa using a0) hb);clear a0 hz a1 hb
  go_wp2_with fail
  refine (Va W).mono ?_;rintro e w' ⟨rfl, rfl⟩
  go_wp2_with fail
  first | exact HE.out | (go_ret; exact HE.out)
 ·have a7 := a6.out ss a1
  have a4 : cur.toList.take ss.length = ss.map UV := by simpa using ht
  have hU : UAt W g ss.toArray (cur.toList.drop ss.length) := by
   unfold UAt Blk;rw [show ss.toArray.toList = ss from rfl, ← a4, List.take_append_drop];simpa using hg
  obtain ⟨n, hn⟩ : ∃ n, ss.length = n := ⟨_, rfl⟩;have a5 := zH (V9 g cap n ss.toArray (cur.toList.drop ss.length) W hU (by simpa using hn) (by omega) (by omega))
  have a2 : Hid (∀ D W', SoW g W D (cur.toList.drop ss.length) W' → D.size = n → D.toList = ss.mergeSort t0 → Post (.returned (.slice (some ⟨g, 0, none⟩) n cap)) W') := zH (fun D W' h1 h2 h3 => by
   rw [← hn];refine HP.out _ ss W' a1 ⟨by simp, .inr ⟨g, cap, (D.toList.map UV ++ cur.toList.drop ss.length).toArray, rfl, hge, ?_, hc, hm, ?_, ?_⟩⟩ (hb.trans ?_)
   ·have := h1.at_
    unfold UAt Blk at this;simpa using this
   ·have e1 : D.toList.length = ss.length := by simp [h2, hn]
    have e2 : ss.length ≤ cur.size := by
     have := congrArg List.length a4;simp at this;omega
    simp only [List.size_toArray, List.length_append, List.length_map, List.length_drop, Array.length_toList] at *;omega
   ·have e1 : (D.toList.map UV).length = ss.length := by simp [h2, hn]
    rw [h3] at e1 ⊢;simp only [List.length_map] at e1 ⊢;rw [List.take_append_of_le_length (by simp)];exact List.take_of_length_le (by simp)
   ·have h5 := h1.chg
    exact ⟨h5.os, h5.tape, h5.output, h5.size, fun k hk => h5.block k (Nat.lt_of_lt_of_le hk hb.size) (fun e => by have e : k = g := e; omega)⟩)
  rw [hn];clear a0 a1 hb hg hU ht a4 a3
  go_wp2_with fail
  refine a5.out.mono ?_;rintro e W' ⟨rfl, D, h1, h2, h3⟩;have HE := zH (a2.out D W' h1 h2 h3);clear h1 h2 h3
  go_wp2_with fail
  first | exact HE.out | (go_ret; exact HE.out)
end
abbrev Spt := Option (Nat × Nat × Nat)
def SpV : Spt → Value
 | none => .slice none 0 0
 | some (g, o, n) => .slice (some ⟨g, o, none⟩) n n
def SpD : Spt → DataW Unit
 | none => .agg []
 | some (g, o, n) => .agg [.lit (.int .i64 (g : Int)), .lit (.int .i64 (o : Int)), .lit (.int .i64 (n : Int))]
theorem Wd : ∀ {a b : Spt}, SpV a = SpV b → a = b
 | none, none, _ => rfl
 | none, some _, h => by simp [SpV] at h
 | some _, none, h => by simp [SpV] at h
 | some (g, o, n), some (g', o', n'), h => by
  simp only [SpV, Value.slice.injEq, Option.some.injEq, Addr.mk.injEq] at h;obtain ⟨⟨h1, h2, -⟩, h3, -⟩ := h;subst h1 h2 h3;rfl
theorem Wc : ∀ {a b : Spt}, SpD a = SpD b → a = b
 | none, none, _ => rfl
 | none, some _, h => by simp [SpD] at h
 | some _, none, h => by simp [SpD] at h
 | some (g, o, n), some (g', o', n'), h => by
  simp only [SpD, DataW.agg.injEq, List.cons.injEq, DataW.lit.injEq, Lit.int.injEq, true_and, and_true] at h;obtain ⟨h1, h2, h3⟩ := h;obtain rfl : g = g' := by omega
  obtain rfl : o = o' := by omega
  obtain rfl : n = n' := by omega
  rfl
theorem a1m (h : a < 4294967296) : (Lit.int .u32 (a : Int)).wf = true := by
 have e1 : IntKind.u32.min = 0 := rfl;have e2 : IntKind.u32.max = 4294967295 := rfl;simp [Lit.wf, e1, e2];omega
theorem Y0 {a : Int} (h : (Lit.int .u32 a).wf = true) : ∃ n : Nat, a = (n : Int) ∧ n < 4294967296 := by
 have e1 : IntKind.u32.min = 0 := rfl;have e2 : IntKind.u32.max = 4294967295 := rfl;simp [Lit.wf, e1, e2] at h;exact ⟨a.toNat, by omega, by omega⟩
theorem Zm (w : World) : (zeroValue 55).run Tryz.prog w = .ok (.slice none 0 0) w := by kernel_rfl
def TU : MTy Spt where
 k := 24
 t := 96
 e := 55
 q := .u32
 top := 4294967296
 ev := SpV
 dv := SpD
 z := none
 hk := Tryz.underlying24
 ht := Tryz.underlying96
 hz := Zm
 je := Wd
 jd := Wc
 fit := a1m
 inv := Y0
def cq (off : Nat) (l : List Itm) : List Itm := l.filter (fun x => x.1 / 4 == off)
def jk (g o : Nat) (l : List Itm) : Nat → Option Spt := fun off => if cq off l = [] then none else some (some (g, o + l.findIdx (fun x => x.1 / 4 == off) * 45, (cq off l).length))
def AscI (l : List Itm) : Prop := l.Pairwise (fun x y => x.1 < y.1)
def fm (off : Nat) (l : List Itm) : Nat := (l.takeWhile (fun x => x.1 / 4 == off)).length
theorem zt (off : Nat) (l : List Itm) : fm off l ≤ l.length := (List.takeWhile_sublist _).length_le
theorem By (off : Nat) (l : List Itm) : l.take (fm off l) = l.takeWhile (fun x => x.1 / 4 == off) := by
 have h := List.takeWhile_append_dropWhile (p := fun x : Itm => x.1 / 4 == off) (l := l);unfold fm;generalize l.takeWhile (fun x => x.1 / 4 == off) = a at h ⊢;generalize l.dropWhile (fun x => x.1 / 4 == off) = b at h;rw [← h, List.take_left]
theorem Jf {α : Type} {p : α → Bool} {x : α} : ∀ {l : List α}, x ∈ l.takeWhile p → p x = true
 | [], h => by simp at h
 | y :: l, h => by
  rw [List.takeWhile_cons] at h;split at h
  ·rcases List.mem_cons.1 h with e | h
   ·subst e; assumption
   ·exact Jf h
  ·simp at h
theorem D6 {k : Nat} (hk : k < fm off l) (hx : l[k]? = some x) : x.1 / 4 = off := by
 have h1 : (l.take (fm off l))[k]? = some x := by rw [List.getElem?_take, if_pos hk]; exact hx
 rw [By] at h1;have := Jf (List.mem_of_getElem? h1);simpa using this
theorem ni {off : Nat} : ∀ {l : List Itm} {x : Itm}, l[fm off l]? = some x → x.1 / 4 ≠ off
 | [], x, h => by simp at h
 | y :: l, x, h => by
  by_cases hy : y.1 / 4 = off
  ·have e : fm off (y :: l) = fm off l + 1 := by simp [fm, hy]
   rw [e, List.getElem?_cons_succ] at h;exact ni h
  ·have e : fm off (y :: l) = 0 := by simp [fm, hy]
   rw [e, List.getElem?_cons_zero] at h;cases h;exact hy
theorem Lh {n : Nat} (h1 : ∀ k x, k < n → l[k]? = some x → x.1 / 4 = off) (hn : n ≤ l.length) (h2 : ∀ x, l[n]? = some x → x.1 / 4 ≠ off) : fm off l = n := by
 rcases Nat.lt_trichotomy (fm off l) n with h | h | h
 ·obtain ⟨x, hx⟩ : ∃ x, l[fm off l]? = some x := ⟨_, List.getElem?_eq_getElem (by omega)⟩
  exact absurd (h1 _ _ h hx) (ni hx)
 ·exact h
 ·have := zt off l
  obtain ⟨x, hx⟩ : ∃ x, l[n]? = some x := ⟨_, List.getElem?_eq_getElem (by omega)⟩;exact absurd (D6 h hx) (h2 x hx)
theorem AscI.lt (h : AscI l) {j : Nat} {y : Itm} (hij : i < j) (hi : l[i]? = some x) (hj : l[j]? = some y) : x.1 < y.1 := by
 obtain ⟨h1, e1⟩ := List.getElem?_eq_some_iff.1 hi;obtain ⟨h2, e2⟩ := List.getElem?_eq_some_iff.1 hj;rw [← e1, ← e2];exact List.pairwise_iff_getElem.1 h i j h1 h2 hij
theorem Io {g o : Nat} (hx : l[i]? = some x) (hnew : ∀ y ∈ l.take i, y.1 / 4 ≠ x.1 / 4) :
  jk g o (l.take (i + fm (x.1 / 4) (l.drop i))) = B1 (jk g o (l.take i)) (x.1 / 4) (some (g, o + i * 45, fm (x.1 / 4) (l.drop i))) := by
 obtain ⟨k, hk⟩ : ∃ k, fm (x.1 / 4) (l.drop i) = k := ⟨_, rfl⟩;have a3 : i < l.length := (List.getElem?_eq_some_iff.1 hx).1
 have ht : l.take (i + k) = l.take i ++ (l.drop i).takeWhile (fun y => y.1 / 4 == x.1 / 4) := by
  rw [List.take_add, ← hk, By]
 have a4 : 0 < k := by
  rw [← hk]
  have : l.drop i = x :: l.drop (i + 1) := by
   obtain ⟨h1, e1⟩ := List.getElem?_eq_some_iff.1 hx;rw [List.drop_eq_getElem_cons h1, e1]
  rw [this];simp [fm]
 have a1 : ((l.drop i).takeWhile (fun y => y.1 / 4 == x.1 / 4)).length = k := hk;have a0 : ∀ y ∈ (l.drop i).takeWhile (fun y => y.1 / 4 == x.1 / 4), y.1 / 4 = x.1 / 4 := fun y hy => by simpa using Jf hy
 rw [hk, ht];generalize (l.drop i).takeWhile (fun y => y.1 / 4 == x.1 / 4) = m at a1 a0;have a2 : (l.take i).length = i := by rw [List.length_take]; omega
 generalize l.take i = d at hnew a2
 funext off
 unfold jk B1;by_cases hq : off = x.1 / 4
 ·subst hq
  rw [if_pos rfl]
  have g1 : cq (x.1 / 4) d = [] := by
   unfold cq;rw [List.filter_eq_nil_iff];intro y hy;simpa using hnew y hy
  have g2 : cq (x.1 / 4) m = m := by
   unfold cq;rw [List.filter_eq_self];intro y hy;simpa using a0 y hy
  have g3 : cq (x.1 / 4) (d ++ m) = m := by
   unfold cq at *;rw [List.filter_append, g1, g2, List.nil_append]
  have g4 : (d ++ m).findIdx (fun y => y.1 / 4 == x.1 / 4) = i := by
   rw [List.findIdx_append, List.findIdx_eq_length.2 (fun y hy => by simpa using hnew y hy), a2];rw [if_neg (by omega)];cases m with
   | nil => simp at a1; omega
   | cons y m =>
    rw [List.findIdx_cons];simp [a0 y (List.mem_cons_self ..)]
  rw [g3, g4, a1];rw [if_neg (by intro e; rw [e] at a1; simp at a1; omega)]
 ·rw [if_neg hq]
  have g1 : cq off m = [] := by
   unfold cq;rw [List.filter_eq_nil_iff];intro y hy;have := a0 y hy;simp;omega
  have g2 : cq off (d ++ m) = cq off d := by
   unfold cq at *;rw [List.filter_append, g1, List.append_nil]
  rw [g2]
  dsimp only
  by_cases h0 : cq off d = []
  ·rw [if_pos h0, if_pos h0]
  ·rw [if_neg h0, if_neg h0]
   have g3 : (d ++ m).findIdx (fun y => y.1 / 4 == off) = d.findIdx (fun y => y.1 / 4 == off) := by
    rw [List.findIdx_append, if_pos];rw [List.findIdx_lt_length];obtain ⟨y, hy⟩ := List.exists_mem_of_ne_nil _ h0;unfold cq at hy;exact ⟨y, (List.mem_filter.1 hy).1, (List.mem_filter.1 hy).2⟩
   rw [g3]
theorem N9 (hasc : AscI l) (hx : l[i]? = some x) :
  ∀ z, l[i + fm (x.1 / 4) (l.drop i)]? = some z → ∀ y ∈ l.take (i + fm (x.1 / 4) (l.drop i)), y.1 / 4 ≠ z.1 / 4 := by
 intro z hz y hy;obtain ⟨k, hk⟩ : ∃ k, fm (x.1 / 4) (l.drop i) = k := ⟨_, rfl⟩
 have a1 : z.1 / 4 ≠ x.1 / 4 := by
  refine ni (l := l.drop i) ?_;rw [List.getElem?_drop];exact hz
 rw [hk] at hz hy;obtain ⟨j, hj⟩ := List.getElem?_of_mem hy
 have a0 : j < i + k := by
  have := (List.getElem?_eq_some_iff.1 hj).1;rw [List.length_take] at this;omega
 rw [List.getElem?_take, if_pos a0] at hj;have h1 := hasc.lt a0 hj hz
 have h2 : x.1 ≤ z.1 := by
  rcases Nat.eq_zero_or_pos k with e | e
  ·subst e
   rw [Nat.add_zero, hx] at hz;cases hz;exact Nat.le_refl _
  ·exact Nat.le_of_lt (hasc.lt (by omega) hx hz)
 have h3 : y.1 / 4 ≤ x.1 / 4 := by
  rcases Nat.lt_or_ge j i with h | h
  ·exact Nat.div_le_div_right (Nat.le_of_lt (hasc.lt h hj hx))
  ·refine Nat.le_of_eq (D6 (l := l.drop i) (k := j - i) (off := x.1 / 4) (by omega) ?_)
   rw [List.getElem?_drop, show i + (j - i) = j by omega];exact hj
 have h4 : x.1 / 4 ≤ z.1 / 4 := Nat.div_le_div_right h2;omega
end Go.Proofs.YtjgjohdeeeoeoaaGreatDoor
