/- The law's count of blocks, walked. -/
import Derived.Test.YtjgjohdeeeoeoaaGreatDoorM40
import Derived.Test.YtjgjohdeeeoeoaaGreatDoorM39
import Derived.Test.YtjgjohdeeeoeoaaGreatDoorM11
import Derived.Deep.Slices
set_option linter.all false
namespace Go.Proofs.YtjgjohdeeeoeoaaGreatDoor
open Go.RowKit
attribute [local go_sem] Oper.semAt_some
def B6 (w W : World) : Prop := w = W
set_option maxRecDepth 100000 in
set_option maxHeartbeats 16000000 in
theorem Gg (hv : List Ino) (hlen : hv.length = 256) (hok : ∀ n ∈ hv, n.OK) (g cap : Nat) (hc : 256 ≤ cap) (w : World) (hH : Jr w g hv) : Calls Tryz.prog 19 #[.slice (some ⟨g, 0, none⟩) 256 cap] w fun e w' => e = .returned (.int .i64 (vy hv : Int)) ∧ w' = w := by
 have ae := zH hlen; have ax := zH hok; have HC := zH hc; have HH := zH hH;generalize hPost : (fun (e : Ending) (w' : World) => e = .returned (.int .i64 (vy hv : Int)) ∧ w' = w) = Post;have ah : Hid (∀ z, vy hv = z → Post (.returned (.int .i64 (z : Int))) w) := zH fun z h => by rw [← hPost, h]; exact ⟨rfl, rfl⟩
 clear hlen hok hc hH hPost;go_enter Tryz.func19, Tryz.ntmps19
 go_wp2_with fail
 go_loopw [3, 4, 5] (fun lv gp i wr => ∃ k : Nat, k ≤ 8 ∧ i = .int .i64 (k : Int) ∧ lv = .int .i64 (lfC hv (8 * k) : Int) ∧ gp = .int .i64 (gpC hv k : Int) ∧ B6 w wr) (fun _ _ i _ => 8 - (intOf i).toNat)
 case atStart => exact ⟨0, by omega, rfl, rfl, rfl, rfl⟩
 case round =>
  obtain ⟨k, hk, rfl, rfl, rfl, hs⟩ := hrel;unfold B6 at hs;subst hs;have al := IntWalk.i64_in ((k : Int) + 1) (by omega);by_cases hlt : k < 8
  ·have HK := zH hlt
   obtain ⟨gp, a0⟩ : ∃ z, gpC hv k = z := ⟨_, rfl⟩;have ap := zH a0;have b3 : gp ≤ 8 := (by have := So hv k; omega);have b5 := IntWalk.i64_in ((gp : Int) + 1) (by omega);rw [a0];clear a0
   go_wp2_with fail
   have ai : decide ((k : Int) < 8) = true := decide_eq_true (by omega)
   try simp only [ai]
   clear hlt ai;go_loopw [3, 6, 7] (fun lv an i w2 => ∃ j : Nat, j ≤ 8 ∧ i = .int .i64 (j : Int) ∧ lv = .int .i64 (lfC hv (8 * k + j) : Int) ∧ an = .bool (gpK hv k j) ∧ B6 w w2) (fun _ _ i _ => 8 - (intOf i).toNat)
   case atStart => exact ⟨0, by omega, rfl, rfl, rfl, rfl⟩
   case round =>
    obtain ⟨j, hj, rfl, rfl, rfl, hs⟩ := hrel;unfold B6 at hs;subst hs;have ay := IntWalk.i64_in ((j : Int) + 1) (by omega);by_cases hjt : j < 8
    ·have HJ := zH hjt
     obtain ⟨lf, a1⟩ : ∃ z, lfC hv (8 * k + j) = z := ⟨_, rfl⟩;have av := zH a1;have b4 : lf ≤ 64 := (by have := Tm hv (8 * k + j); omega);have b6 := IntWalk.i64_in ((lf : Int) + 1) (by omega);obtain ⟨an, a3⟩ : ∃ z, gpK hv k j = z := ⟨_, rfl⟩;have am := zH a3;rw [a1, a3];clear a1 a3
     go_wp2_with fail
     have aj : decide ((j : Int) < 8) = true := decide_eq_true (by omega)
     try simp only [aj]
     clear hjt aj;go_loopw [8, 9] (fun is i w3 => ∃ m : Nat, m ≤ 4 ∧ i = .int .i64 (m : Int) ∧ is = .bool (Cc hv (8 * k + j) m) ∧ B6 w w3) (fun _ i _ => 4 - (intOf i).toNat)
     case atStart => exact ⟨0, by omega, rfl, rfl, rfl⟩
     case round =>
      obtain ⟨m, hm, rfl, rfl, hs⟩ := hrel;unfold B6 at hs;subst hs;have az := IntWalk.i64_in ((m : Int) + 1) (by omega);by_cases hmt : m < 4
      ·have a6 := Mb hv (8 * k + j) m
       obtain ⟨q, hq⟩ : ∃ q, hv[4 * (8 * k + j) + m]? = some q := ⟨_, List.getElem?_eq_getElem (by have := ae.out; have := HK.out; have := HJ.out; omega)⟩;have HQ := zH (ax.out q (List.mem_of_getElem? hq));have HR := zH (HH.out.2 _ q hq);have ak : nzB hv (4 * (8 * k + j) + m) = !eqI q zeroI := (by unfold nzB; rw [List.getD_eq_getElem?_getD, hq]; rfl);rw [ak] at a6;obtain ⟨nz, hz⟩ : ∃ z, (!eqI q zeroI) = z := ⟨_, rfl⟩;rw [hz] at a6;obtain ⟨ab, a2⟩ : ∃ z, Cc hv (8 * k + j) m = z := ⟨_, rfl⟩;rw [a2] at a6;rw [a2];have ag := zH a6; have aw := zH hz; have HM := zH hmt;have ar : Hid (4 * (8 * k + j) + m < 256 ∧ 256 ≤ cap) := zH ⟨by have := HK.out; have := HJ.out; omega, HC.out⟩;clear a6 hq ak hz a2;cases ab
       ·go_wp2_with (first | (refine aq (by rfl) (Km (c := 32) (a := k) (z := 32 * k) rfl (by have := HK.out; omega) rfl rfl rfl) ?_) | (refine aq (by rfl) (Km (c := 4) (a := j) (z := 4 * j) rfl (by have := HJ.out; omega) rfl rfl rfl) ?_) | (refine aq (by rfl) (Ka (c := 32 * k) (a := 4 * j) (z := 4 * (8 * k + j)) (by omega) (by have := HK.out; have := HJ.out; omega) rfl rfl rfl) ?_) | (refine aq (by rfl) (Ka (c := 4 * (8 * k + j)) (a := m) (z := 4 * (8 * k + j) + m) rfl (by have := HK.out; have := HJ.out; have := HM.out; omega) rfl rfl rfl) ?_) | (refine aq (by rfl) (yj rfl rfl rfl ar.out) ?_) | (refine aq (by rfl) (ez HQ.out HR.out rfl rfl) ?_) | (refine aq (by rfl) (qg rfl) ?_) | (refine aq (by rfl) (Xn aw.out HQ.out zeroI_ok rfl rfl rfl) ?_) | fail)
        go_roundw
        case rel => exact ⟨m + 1, by have := HM.out; omega, by go_num, by rw [ag.out]; rfl, rfl⟩
        case measure => simp [intOf]; have := HM.out; omega
       ·go_wp2_with fail
        go_roundw
        case rel => exact ⟨m + 1, by have := HM.out; omega, by go_num, by rw [ag.out]; rfl, rfl⟩
        case measure => simp [intOf]; have := HM.out; omega
      ·obtain rfl : m = 4 := by omega
       have au : Hid (lfB hv (8 * k + j) = Cc hv (8 * k + j) 4) := zH (Y8 ae.out (by have := HK.out; have := HJ.out; omega));have a5 := Tn hv (8 * k + j);have a4 := Sr hv k j;rw [av.out] at a5;rw [am.out] at a4;rw [au.out] at a5 a4;obtain ⟨ab, a2⟩ : ∃ z, Cc hv (8 * k + j) 4 = z := ⟨_, rfl⟩;rw [a2] at a5 a4;rw [a2];have af := zH a5; have ad := zH a4;clear a5 a4 a2 hmt hm az;cases ab
       ·go_wp2_with fail
        go_roundw
        case rel => exact ⟨j + 1, by have := HJ.out; omega, by go_num, by rw [show 8 * k + (j + 1) = 8 * k + j + 1 by omega, af.out]; rfl, by rw [ad.out]; simp, rfl⟩
        case measure => simp [intOf]; have := HJ.out; omega
       ·go_wp2_with fail
        go_roundw
        case rel => exact ⟨j + 1, by have := HJ.out; omega, by go_num, by rw [show 8 * k + (j + 1) = 8 * k + j + 1 by omega, af.out]; first | rfl | go_num, by rw [ad.out]; simp, rfl⟩
        case measure => simp [intOf]; have := HJ.out; omega
    ·obtain rfl : j = 8 := by omega
     have ao : Hid (gpB hv k = gpK hv k 8) := zH rfl;have a7 := Sq hv k;rw [ap.out, ao.out] at a7;obtain ⟨an, a3⟩ : ∃ z, gpK hv k 8 = z := ⟨_, rfl⟩;rw [a3] at a7;rw [a3];have aa := zH a7;clear a7 a3 hjt hj ay;cases an
     ·go_wp2_with fail
      go_roundw
      case rel => exact ⟨k + 1, by have := HK.out; omega, by go_num, by rw [show 8 * (k + 1) = 8 * k + 8 by omega], by rw [aa.out]; rfl, rfl⟩
      case measure => simp [intOf]; have := HK.out; omega
     ·go_wp2_with fail
      go_roundw
      case rel => exact ⟨k + 1, by have := HK.out; omega, by go_num, by rw [show 8 * (k + 1) = 8 * k + 8 by omega], by rw [aa.out]; first | rfl | go_num, rfl⟩
      case measure => simp [intOf]; have := HK.out; omega
  ·obtain rfl : k = 8 := by omega
   obtain ⟨gp, a0⟩ : ∃ z, gpC hv 8 = z := ⟨_, rfl⟩;obtain ⟨lf, a1⟩ : ∃ z, lfC hv (8 * 8) = z := ⟨_, rfl⟩;have a9 := Tm hv (8 * 8);have a8 := So hv 8;have hb := Wl hv;rw [show (64 : Nat) = 8 * 8 from rfl] at hb;rw [a0, a1] at hb;rw [a0] at a8 ⊢;rw [a1] at a9 ⊢;have b0 := IntWalk.i64_in ((lf : Int) + (gp : Int)) (by omega);have b1 := IntWalk.i64_in ((lf : Int) + (gp : Int) + 1) (by omega);by_cases h0 : gp = 0
   ·subst h0
    have HE := zH (ah.out 0 (by rw [hb]; rfl));clear hb a1 a0 a9 a8 b0 b1 hlt hk al
    go_wp2_with fail
    first | exact HE.out | (go_ret; exact HE.out)
   ·have b2 : ¬ ((gp : Int) = 0) := by omega
    have hE := ah.out (lf + gp + 1) (by rw [hb, if_neg h0]);rw [show ((lf + gp + 1 : Nat) : Int) = (lf : Int) + (gp : Int) + 1 by push_cast; rfl] at hE;have HE := zH hE;clear hb a1 a0 a9 a8 hlt hk al hE h0
    go_wp2_with fail
    first | exact HE.out | (go_ret; exact HE.out)
end Go.Proofs.YtjgjohdeeeoeoaaGreatDoor
namespace Go.Proofs.YtjgjohdeeeoeoaaGreatDoor
open Go.RowKit
variable {hv : List Ino} {i : Nat}
def uk (hv : List Ino) (i : Nat) : List Itm := if (df i && nzB hv i) = true then [(i, hv.getD i zeroI)] else []
def fx (hv : List Ino) (m : Nat) : List Itm := (List.range m).flatMap (uk hv)
theorem jx (hv : List Ino) (m : Nat) : fx hv (m + 1) = fx hv m ++ uk hv m := by simp [fx, List.range_succ]
theorem Ab {α : Type} (f : Nat → List α) : ∀ n, ((List.range n).flatMap fun a => (List.range 4).flatMap fun j => f (a * 4 + j)) = (List.range (n * 4)).flatMap f
 | 0 => rfl
 | n + 1 => by
  rw [List.range_succ (n := n), List.flatMap_append, Ab f n];rw [show (n + 1) * 4 = n * 4 + 1 + 1 + 1 + 1 by omega];simp only [List.range_succ, List.flatMap_append, List.range_zero, List.nil_append, List.flatMap_cons, List.flatMap_nil, List.append_nil, List.append_assoc, Nat.zero_add, Nat.add_zero, Nat.add_assoc]
theorem zq (_hl : hv.length = 256) : lh hv = fx hv 256 := by
 have h := Ab (uk hv) 64;have h2 : fx hv 256 = (List.range (64 * 4)).flatMap (uk hv) := rfl;rw [h2, ← h];unfold lh
 have : ∀ l : List Nat, (∀ a ∈ l, a < 64) → l.flatMap (fun off => j9 off (db hv off) 4) = l.flatMap fun a => (List.range 4).flatMap fun j => uk hv (a * 4 + j) := by
  intro l
  induction l with
  | nil => intro _; rfl
  | cons a l ih =>
   intro hm;rw [List.flatMap_cons, List.flatMap_cons, ih fun b hb => hm b (List.mem_cons_of_mem _ hb)];congr 1;have ha := hm a (List.mem_cons_self ..);unfold j9
   have : ∀ l2 : List Nat, (∀ j ∈ l2, j < 4) → l2.flatMap (fun j => D4 a j ((db hv a).getD j zeroI)) = l2.flatMap fun j => uk hv (a * 4 + j) := by
    intro l2
    induction l2 with
    | nil => intro _; rfl
    | cons j l2 ih2 =>
     intro hm2;rw [List.flatMap_cons, List.flatMap_cons, ih2 fun b hb => hm2 b (List.mem_cons_of_mem _ hb)];congr 1;have hj := hm2 j (List.mem_cons_self ..)
     have e : (db hv a).getD j zeroI = hv.getD (a * 4 + j) zeroI := by
      rw [List.getD_eq_getElem?_getD, uf hj, List.getD_eq_getElem?_getD, Nat.mul_comm 4 a]
     rw [e];unfold D4 uk nzB;simp only [Bool.and_eq_true, Bool.not_eq_true']
   exact this _ fun j hj => List.mem_range.1 hj
 exact this _ fun a ha => List.mem_range.1 ha
theorem zr (hv : List Ino) {a : Nat} : ∀ {b : Nat}, a ≤ b → ∃ r, fx hv b = fx hv a ++ r
 | 0, h => ⟨[], by rw [show a = 0 by omega, List.append_nil]⟩
 | b + 1, h => by
  rcases Nat.lt_or_ge b a with h1 | h1
  ·exact ⟨[], by rw [show a = b + 1 by omega, List.append_nil]⟩
  ·obtain ⟨r, hr⟩ := zr hv h1
   exact ⟨r ++ uk hv b, by rw [jx, hr, List.append_assoc]⟩
theorem T4 (hl : hv.length = 256) (hi : i < 256) (h0 : 0 < i) (hn : nzB hv i = true) : (lh hv)[(fx hv i).length]? = some (i, hv.getD i zeroI) ∧ (fx hv (i + 1)).length = (fx hv i).length + 1 := by
 have hk : df i = true := by unfold df; simp; omega
 have hp : uk hv i = [(i, hv.getD i zeroI)] := by unfold uk; rw [hk, hn]; rfl
 obtain ⟨r, hr⟩ := zr hv (show i + 1 ≤ 256 by omega);refine ⟨?_, by rw [jx, hp, List.length_append]; rfl⟩;rw [zq hl, hr, jx, hp, List.append_assoc, List.getElem?_append_right (Nat.le_refl _), Nat.sub_self];rfl
theorem Hz (hn : nzB hv i = false) : fx hv (i + 1) = fx hv i := by
 rw [jx];unfold uk;rw [hn];simp
theorem Bh (hv : List Ino) : ∀ m, (fx hv m).length ≤ m
 | 0 => by simp [fx]
 | m + 1 => by
  rw [jx, List.length_append];have h1 := Bh hv m;have h2 : (uk hv m).length ≤ 1 := (by unfold uk; split <;> simp);omega
end Go.Proofs.YtjgjohdeeeoeoaaGreatDoor
namespace Go.Proofs.YtjgjohdeeeoeoaaGreatDoor
open Go.ChangeShapes Go.WideShapes Go.ChangeAt Go.WideMaps Go.WideElems Go.RowKit Go.Deep
variable {cs : List Value} {fuel : Nat} {v : Value}
section
variable {H : Type} {enc : TypeId × Value → H} {W : World} {b' : Nat} {spare : Nat → Bool} {held : Bool}
theorem Wo : Tryz.prog.cellsOf 5 = 1 := by kernel_rfl
theorem Jz : Tryz.prog.cellsOf 23 = 1 := by kernel_rfl
theorem Wq : Tryz.prog.cellsOf 24 = 1 := by kernel_rfl
theorem Wr : Tryz.prog.cellsOf 28 = 41 := by kernel_rfl
set_option maxRecDepth 100000 in
theorem Mk {x : DataW H × List MemPlace} (h : DataW.trod enc Tryz.prog W b' spare held fuel 62 cs = some x) : ∃ q : Ino, q.OK ∧ cs = af q := by
 obtain ⟨xs, k, _, _, hl, a6, a0⟩ := DataW.trod_struct Tryz.underlying62 h;rw [Ws] at hl
 match xs, a6 with
 | [y0, y1, y2, y3], _ =>
  have g0 := a0 0 _ rfl;have g1 := a0 1 _ rfl;have g2 := a0 2 _ rfl;have g3 := a0 3 _ rfl;simp [Wo, Jz, Wq, Wr] at g0 g1 g2 g3;obtain ⟨z0, e0, _, w0⟩ := DataW.trod_int Tryz.underlying5 g0;obtain ⟨z1, e1, _, w1⟩ := DataW.trod_int Tryz.underlying23 g1;obtain ⟨z2, e2, _, w2⟩ := DataW.trod_int Tryz.underlying24 g2;obtain ⟨p, hp, e3⟩ := Ml g3;have b0 := bounds_u8 w0;have b1 := bounds_u16 w1;have b2 := bounds_u32 w2;refine ⟨⟨z0.toNat, z1.toNat, z2.toNat, p⟩, ⟨by show z0.toNat < _; omega, by show z1.toNat < _; omega, by show z2.toNat < _; omega, hp⟩, ?_⟩;have g : ∀ n m, cs.take n ++ (cs.drop n).take m = cs.take (n + m) := fun n m => by rw [List.take_add]
  have a5 : cs = cs.take 1 ++ ((cs.drop 1).take 1 ++ ((cs.drop 2).take 1 ++ (cs.drop 3).take 41)) := by
   simp only [← List.append_assoc];rw [g 1 1, g 2 1, g 3 41, List.take_of_length_le (by omega)]
  have a2 : (cs.drop 1).take 1 = [Value.int .u16 z1] := (by simpa using e1);have a3 : (cs.drop 2).take 1 = [Value.int .u32 z2] := (by simpa using e2);have a4 : (cs.drop 3).take 41 = a8 p := (by simpa using e3);have a1 : cs.take 1 = [Value.int .u8 z0] := (by simpa using e0);rw [a5, a1, a2, a3, a4];show _ = [Value.int .u8 ((z0.toNat : Nat) : Int), .int .u16 ((z1.toNat : Nat) : Int), .int .u32 ((z2.toNat : Nat) : Int)] ++ a8 p;rw [Int.toNat_of_nonneg b0.1, Int.toNat_of_nonneg b1.1, Int.toNat_of_nonneg b2.1];rfl
theorem Ea : Tryz.prog.cellsOf 64 = 45 := by kernel_rfl
theorem Mj : Tryz.prog.cellsOf 62 = 44 := by kernel_rfl
theorem Ra : Tryz.prog.cellsOf 59 = 1 := by kernel_rfl
theorem R9 : Tryz.prog.cellsOf 57 = 1 := by kernel_rfl
set_option maxRecDepth 100000 in
theorem Ec {x : DataW H × List MemPlace} (h : DataW.trod enc Tryz.prog W b' spare held fuel 64 cs = some x) : ∃ q : Itm, Itm.OK q ∧ cs = tcI q := by
 obtain ⟨xs, k, _, _, hl, a2, a0⟩ := DataW.trod_struct Tryz.underlying64 h;rw [Ea] at hl
 match xs, a2 with
 | [y0, y1], _ =>
  have g0 := a0 0 _ rfl;have g1 := a0 1 _ rfl;simp [Jz, Mj] at g0 g1;obtain ⟨z0, e0, _, w0⟩ := DataW.trod_int Tryz.underlying23 g0;obtain ⟨p, hp, e1⟩ := Mk g1;have b0 := bounds_u16 w0;refine ⟨(z0.toNat, p), ⟨by show z0.toNat < _; omega, hp⟩, ?_⟩;have ht : cs.tail.take 44 = cs.tail := List.take_of_length_le (by simp [hl]);have a1 : cs = cs.take 1 ++ cs.tail := (by rw [← List.drop_one, List.take_append_drop]);rw [ht] at e1;rw [a1, e0, e1];show [Value.int .u16 z0] ++ af p = Value.int .u16 ((z0.toNat : Nat) : Int) :: af p;rw [Int.toNat_of_nonneg b0.1];rfl
set_option maxRecDepth 100000 in
theorem Em {n' : Nat} {x' : DataW H × List MemPlace} (hf : DataW.trod enc Tryz.prog W b' spare held n' 57 [v] = some x') :
  ∃ (l : List Itm) (sp : Option Addr) (cap : Nat), v = .slice sp l.length cap ∧ l.length ≤ cap ∧ (∀ x ∈ l, Itm.OK x) ∧ SrcT W sp l := by
 rcases open_slice Tryz.underlying57 hf with ⟨hcs, hx⟩ | ⟨a, len, cap, m, n, D, Pl, hcs, _, hl, hm, hmm, hx, hcell⟩
 ·simp at hcs
  exact ⟨[], none, 0, hcs, by simp, by simp, fun h => by simp at h⟩
 ·simp at hcs
  have ad : len ≤ m := by rw [hmm]; split <;> omega
  have a1 : ∀ i, i < m → ∃ q : Itm, Itm.OK q ∧ ∀ j v, (tcI q)[j]? = some v → W.cell? (a.add (i * 45 + j)) = some v := by
   intro i hi;obtain ⟨a4, h1, h2⟩ := hcell i hi;rw [Ea] at h1;obtain ⟨_, a8, a5⟩ := World.cells?_some h1;obtain ⟨q, hq, e⟩ := Ec h2;refine ⟨q, hq, fun j v hj => ?_⟩;rw [← e] at hj;have ab : j < a4.length := (List.getElem?_eq_some_iff.1 hj).1;have hc := a5 j (by omega);rw [add_add, hj] at hc;exact hc
  have : Inhabited Itm := ⟨(0, zeroI)⟩;obtain ⟨q, hq⟩ := choose_lt a1;refine ⟨(List.range len).map q, some a, cap, by simpa using hcs, by simpa using hl, fun x hx => ?_, fun h0 => ?_⟩
  ·obtain ⟨i, hi, rfl⟩ := List.mem_map.1 hx
   exact (hq i (by have := List.mem_range.1 hi; omega)).1
  ·have a9 : 0 < len := by simpa using h0
   have a3 : (tcI (q 0))[0]? = some (.int .u16 ((q 0).1 : Int)) := rfl;obtain ⟨g, o, a2⟩ := a;have a0 : a2 = none := (by simpa [Addr.add] using World.cell?_spot ((hq 0 (by omega)).2 0 _ a3));subst a0;refine ⟨g, o, rfl, ?_, fun i x hi j v hj => ?_⟩
   ·have := (hq 0 (by omega)).2 0 _ a3
    rw [Addr.add_mid] at this;exact lj this
   ·obtain ⟨a6, a7⟩ := List.getElem?_eq_some_iff.1 hi
    have aa : i < len := (by simpa using a6);have e : x = q i := (by rw [← a7]; simp);subst e;have hc := (hq i (by omega)).2 j v hj;rw [Addr.add_mid] at hc;rw [Nat.add_assoc];exact hc
set_option maxRecDepth 100000 in
theorem He {x : DataW H × List MemPlace} (hlen : cs.length = 1) (h : DataW.trod enc Tryz.prog W b' spare held fuel 59 cs = some x) : ∃ q : AcU, Jo W q ∧ cs = yv q := by
 obtain ⟨xs, k, _, _, _, a1, a0⟩ := DataW.trod_struct Tryz.underlying59 h
 match xs, a1, cs, hlen with
 | [y0], _, [v0], _ =>
  have g0 := a0 0 _ rfl;simp [R9] at g0;obtain ⟨l0, a2, c0, e0, k0, o0, s0⟩ := Em g0;subst e0;exact ⟨⟨l0, a2, c0⟩, ⟨s0, k0, o0⟩, rfl⟩
set_option maxRecDepth 100000 in
theorem Ij {b : Nat} {d : DataW H} {p : List MemPlace} (ho : Value.okWide Tryz.prog W .any b 43 v) (h : DataW.Trod enc Tryz.prog W b' spare held 43 v d p) :
  ∃ (l : List AcU) (sp : Option Addr) (cap : Nat), v = .slice sp l.length cap ∧ l.length ≤ cap ∧ ActsU W sp l := by
 obtain ⟨a0, a2, cap, rfl⟩ := okWide_slice Tryz.underlying43 ho;obtain ⟨a7, hf⟩ := h;rcases open_slice Tryz.underlying43 hf with ⟨hcs, hx⟩ | ⟨a, len', cap', m, n, D, Pl, hcs, _, hl, hm, hmm, hx, hcell⟩
 ·simp [Value.cells] at hcs
  obtain ⟨rfl, rfl, rfl⟩ := hcs;exact ⟨[], none, 0, rfl, by simp, ⟨fun a ha => by simp at ha, fun h => absurd h (by simp)⟩⟩
 ·simp [Value.cells] at hcs
  obtain ⟨rfl, rfl, rfl⟩ := hcs;have ag : a2 ≤ m := (by rw [hmm]; split <;> omega)
  have a3 : ∀ i, i < m → ∃ q : AcU, Jo W q ∧ ∀ j v, (yv q)[j]? = some v → W.cell? (a.add (i * 1 + j)) = some v := by
   intro i hi;obtain ⟨a6, h1, h2⟩ := hcell i hi;rw [Ra] at h1;obtain ⟨_, ab, a8⟩ := World.cells?_some h1;obtain ⟨q, hq, e⟩ := He (by omega) h2;refine ⟨q, hq, fun j v hj => ?_⟩;rw [← e] at hj;have af : j < a6.length := (List.getElem?_eq_some_iff.1 hj).1;have hc := a8 j (by omega);rw [add_add, hj] at hc;exact hc
  obtain ⟨q, hq⟩ := choose_lt a3;refine ⟨(List.range a2).map q, some a, cap, by simp, by simpa using hl, fun x hx => ?_, fun h0 => ?_⟩
  ·obtain ⟨i, hi, rfl⟩ := List.mem_map.1 hx
   exact (hq i (by have := List.mem_range.1 hi; omega)).1
  ·have ad : 0 < a2 := by simpa using h0
   have a5 : (yv (q 0))[0]? = some (.slice (q 0).sp (q 0).l.length (q 0).cap) := rfl;obtain ⟨g, o, a4⟩ := a;have a1 : a4 = none := (by simpa [Addr.add] using World.cell?_spot ((hq 0 (by omega)).2 0 _ a5));subst a1;refine ⟨g, o, rfl, ?_, fun i x hi j v hj => ?_⟩
   ·have := (hq 0 (by omega)).2 0 _ a5
    rw [Addr.add_mid] at this;exact lj this
   ·obtain ⟨a9, aa⟩ := List.getElem?_eq_some_iff.1 hi
    have ae : i < a2 := (by simpa using a9);have e : x = q i := (by rw [← aa]; simp);subst e;have hc := (hq i (by omega)).2 j v hj;rw [Addr.add_mid, Nat.mul_one] at hc;rw [Nat.add_assoc];exact hc
end
end Go.Proofs.YtjgjohdeeeoeoaaGreatDoor
namespace Go.Proofs.YtjgjohdeeeoeoaaGreatDoor
open Go.RowKit
attribute [local go_sem] Oper.semAt_some
variable {x y : Itm} {o : Oper} {ρ : Operand → Value} {w : World}
theorem Ep : (Tryz.prog.fieldsOf 76).toList.map (fun f => (f.type, f.offset)) = [(23, 0), (68, 1)] := by kernel_rfl
theorem Yf : ((Tryz.prog.fieldsOf 76).toList.all fun f => f.name != "_") = true := by kernel_rfl
theorem El (h : x.2.OK) : (tcI x).toArray.extract 1 (1 + 44) = (af x.2).toArray := by
 have := am h;simp [tcI, List.extract_toArray, List.extract, this];exact List.take_of_length_le (by omega)
def Zt (x y : Itm) (f : TypeId × Nat) : Bool := match f.2 with | 0 => decide (x.1 = y.1) | _ => eqI x.2 y.2
theorem Fy (d : Nat) (hx : x.2.OK) (hy : y.2.OK) (W : World) : (Op.equalIn (d + 5) 76 (.agg (tcI x).toArray) (.agg (tcI y).toArray)).run Tryz.prog W = .ok (decide (x.1 = y.1) && eqI x.2 y.2) W := by
 rw [run_equalIn_struct W (d + 4) 76 _ _ (by kernel_rfl) (by kernel_rfl)]
 have e : (decide (x.1 = y.1) && eqI x.2 y.2) = (((Tryz.prog.fieldsOf 76).toList.map fun f => (f.type, f.offset)).all (Zt x y)) := by
  rw [Ep];simp [Zt]
 rw [e];refine fi _ _ _ W _ _ (fun f hm => ⟨?_, ?_⟩)
 ·have := List.all_eq_true.1 Yf f hm
  simpa using this
 have h1 : (f.type, f.offset) ∈ (Tryz.prog.fieldsOf 76).toList.map (fun f => (f.type, f.offset)) := List.mem_map.2 ⟨f, hm, rfl⟩;rw [Ep] at h1;simp only [List.mem_cons, Prod.mk.injEq, List.not_mem_nil, or_false] at h1;rcases h1 with ⟨e1, e2⟩ | ⟨e1, e2⟩ <;> rw [e1, e2]
 ·refine ⟨_, _, ay Tryz.underlying23 (v := .int .u16 (x.1 : Int)) rfl W, ay Tryz.underlying23 (v := .int .u16 (y.1 : Int)) rfl W, ?_⟩
  rw [run_equalIn_int W (d + 3) 23 .u16 .u16 _ _ Tryz.underlying23];refine congrArg (fun b => Result.ok b W) ?_;show _ = decide (x.1 = y.1);rw [Bool.eq_iff_iff];simp;omega
 ·refine ⟨_, _, ur _ _ W, ur _ _ W, ?_⟩
  rw [El hx, El hy];exact uz d hx hy W
theorem Xd {a b : Operand} (hx : x.2.OK) (hy : y.2.OK) (ho : o.op = .binOp .eql 76 a b 76) (ha : ρ a = .agg (tcI x).toArray) (hb : ρ b = .agg (tcI y).toArray) :
  (execOp ρ o).run Tryz.prog w = .ok (.value (.bool (decide (x.1 = y.1) && eqI x.2 y.2))) w := by
 have h' : (Op.equal 76 (.agg (tcI x).toArray) (.agg (tcI y).toArray)).run Tryz.prog w = .ok (decide (x.1 = y.1) && eqI x.2 y.2) w := Fy 9995 hx hy w
 have a0 : (binOp .eql 76 (.agg (tcI x).toArray) (.agg (tcI y).toArray)).run Tryz.prog w = .ok (.bool (decide (x.1 = y.1) && eqI x.2 y.2)) w := by
  show ((do pure (.bool ((← Op.equal 76 (.agg (tcI x).toArray) (.agg (tcI y).toArray)))) : Sem Value)).run Tryz.prog w = _;simp only [Sem.run_bind, h', Result.andThen_ok, Sem.run_pure]
 have hg : (eqGuard .eql 76 a b (.agg (tcI x).toArray) (.agg (tcI y).toArray)).run Tryz.prog w = .ok () w := by
  unfold eqGuard;go_simp
 unfold execOp;simp only [ho, ha, hb, Sem.run_bind, hg, a0, Result.andThen_ok, Sem.run_pure]
theorem Rp {x y : Operand} (ho : o.op = .build 68 #[(0, x), (1, y)]) (hx : ρ x = .int .u8 1) (hy : ρ y = .int .u16 1) : (execOp ρ o).run Tryz.prog w = .ok (.value (.agg (af tI).toArray)) w := by
 have hr : (Instr.build 68 #[(0, .int .u8 1), (1, .int .u16 1)]).run Tryz.prog w = .ok (.agg (af tI).toArray) w := run_build w 68 _ _ (by kernel_rfl);unfold execOp;simp only [ho];rw [show (Array.map (fun x : Nat × Operand => (x.1, ρ x.2)) #[(0, x), (1, y)]) = #[(0, .int .u8 1), (1, .int .u16 1)] by simp [hx, hy]];simp only [Sem.run_bind, hr, Result.andThen_ok, Sem.run_pure]
theorem Xv : (Tryz.prog.info? 76).map (fun i => (i.zero, i.size, i.bytes)) = some (some (.agg (tcI (0, zeroI)).toArray), 45, 72) := by kernel_rfl
theorem Xr : Instr.fill (fun i => some (i * 45, 45)) ((Array.range (2 * 45)).map ((Value.agg (tcI (0, zeroI)).toArray).cells[· % (Value.agg (tcI (0, zeroI)).toArray).cells.size]!)) [(0, .agg (tcI (1, tI)).toArray), (1, .agg (tcI (5, tI)).toArray)] = some (trI tl2).toArray := by kernel_rfl
theorem Sb {x y : Operand} (ho : o.op = .buildSlice 55 2 #[(0, x), (1, y)]) (hx : ρ x = .agg (tcI (1, tI)).toArray) (hy : ρ y = .agg (tcI (5, tI)).toArray) :
  (execOp ρ o).run Tryz.prog w = .ok (.value (.slice (some ⟨w.heap.size, 0, none⟩) 2 2)) (w.alloc (.cells (trI tl2).toArray 76)) := by
 have hr : (Instr.buildSlice 55 2 #[(0, .agg (tcI (1, tI)).toArray), (1, .agg (tcI (5, tI)).toArray)]).run Tryz.prog w = .ok (.slice (some ⟨w.heap.size, 0, none⟩) 2 2) (w.alloc (.cells (trI tl2).toArray 76)) := by
  obtain ⟨i, hi, h2⟩ := Option.map_eq_some_iff.1 Xv;simp only [Prod.mk.injEq] at h2;obtain ⟨hz, a0, _⟩ := h2;exact run_buildSlice (P := Tryz.prog) w 55 76 2 _ (trI tl2).toArray i _ Tryz.underlying55 hi hz (by rw [a0]; omega) (by rw [a0]; omega) (by rw [a0]; exact Xr)
 unfold execOp;simp only [ho];rw [show (Array.map (fun x : Nat × Operand => (x.1, ρ x.2)) #[(0, x), (1, y)]) = #[(0, .agg (tcI (1, tI)).toArray), (1, .agg (tcI (5, tI)).toArray)] by simp [hx, hy]];simp only [Sem.run_bind, hr, Result.andThen_ok];rfl
theorem a2m : Lim 3715 tS := ⟨by simp [tS], by simp [tS], by simp [tS], by omega, by simp [tS], by simp [tS], by simp [tS]⟩
theorem bokT : BlkOK tS := by
 have := Vs (s := sh0) (p := zeroP) Dt (fun b hb => by simp [sh0] at hb) ak;rw [tw1] at this;exact this
set_option maxRecDepth 100000 in
set_option maxHeartbeats 16000000 in
theorem ya (w : World) (hT : RTab w) : Calls Tryz.prog 6 #[] w fun e w' => e = .returned (.bool true) ∧ Below w.heap.size w w' := by
 have bp := zH (Sf w hT);generalize hPost : (fun e w' => e = Ending.returned (.bool true) ∧ Below w.heap.size w w') = Post;have HP : Hid (∀ w', Below w.heap.size w w' → Post (.returned (.bool true)) w') := zH fun w' h => by rw [← hPost]; exact ⟨rfl, h⟩
 obtain ⟨th, tm, ap⟩ := tw3;have an := zH ap;have bk := zH (fb kf);have cm := zH (fb zeroI_ok);have cl := zH (bh lx);have bf : Hid ((af tI).toArray.size = 44) := zH (by rw [List.size_toArray, am kf]);have ck : Hid ((af zeroI).toArray.size = 44) := zH (by rw [List.size_toArray, am zeroI_ok]);have cj : Hid ((a8 tqR).toArray.size = 41) := zH (by rw [List.size_toArray, aa lx]);clear hT hPost ap;go_enter Tryz.func6, Tryz.ntmps6
 go_upto_region 2 with fail
 refine (fun (k : ∀ W, Fr w w.heap.size sh0 [] W → Code.wp _ _ _ _ W) => k _ bp.out) ?_;intro W1 hW1;obtain ⟨D, hD⟩ : ∃ d, w.heap.size = d := ⟨_, rfl⟩;rw [hD] at hW1 ⊢;have b7 := zH hW1;clear hW1 bp hD
 go_upto_region 3 with (first | (refine a9 rfl (Rp rfl rfl rfl) ?_) | (refine wpList_store_row rfl 68 (.tmp 2) (.tmp 14) rfl W1.heap.size (af tI).toArray rfl rfl 68 _ (heap_alloc_new W1 _) bk.out (by rw [bf.out]; rfl) (fj tI) ?_) | fail)
 refine (fun (k : ∀ W, Fr w D sh0 [(W1.heap.size, af tI, 68)] W → Code.wp _ _ _ _ W) => k _ (b7.out.add (ar W1 _ (af tI) 68).2 (Nat.le_refl _) (ar W1 _ (af tI) 68).1)) ?_;intro W2 hW2;obtain ⟨g2, c1⟩ : ∃ g, W1.heap.size = g := ⟨_, rfl⟩;rw [c1] at hW2 ⊢;have ah := zH (hW2.at (g := g2) (cs := af tI) (t := 68) (by simp));have bo := zH (hW2.add ((Below.refl _ _).alloc (Nat.le_refl _) (.cells (trI tl2).toArray 76)) (Nat.le_refl _) (Blk.new W2 (trI tl2) 76));have ad := Kz bo.out zeroP ak tl2 Dt (v := .slice (some ⟨W2.heap.size, 0, none⟩) 2 2) (lb := [(W2.heap.size, trI tl2, 76)]) (by simp [tl2]) ⟨by kernel_rfl, .inr ⟨W2.heap.size, 2, trI tl2, rfl, rfl, by simp [tl2], by unfold maxLen; simp, by kernel_rfl, by kernel_rfl⟩⟩ (fun y hy => by simp at hy; subst hy; simp) a23 (by omega) (fun b hb => by simp [sh0] at hb);rw [tw1] at ad;have al := zH ad;clear hW2 c1 b7 ad bo
 go_wp2_with (first | (refine a9 rfl (bj rfl) ?_) | (refine a9 rfl (et kf ah.out rfl rfl) ?_) | (refine a9 rfl (n8 (f := 1) kf rfl rfl rfl) ?_) | (refine a9 rfl (n8 (f := 5) kf rfl rfl rfl) ?_) | (refine a9 rfl (Sb rfl rfl rfl) ?_) | fail)
 refine al.out.mono ?_;rintro e W4 ⟨rfl, bx, -, -⟩;have ay := zH bx;obtain ⟨gs, c7⟩ : ∃ g, W2.heap.size = g := ⟨_, rfl⟩;rw [c7] at ay ⊢;clear bx al ah c7
 go_upto_region 4 with (first | (refine wpList_store_row rfl 28 (.tmp 3) (.tmp 25) rfl W4.heap.size (a8 tqR).toArray rfl rfl 28 _ (heap_alloc_new W4 _) cl.out (by rw [cj.out]; rfl) (bb tqR) ?_) | fail)
 refine (fun (k : ∀ W, Fr w D tS [(W4.heap.size, a8 tqR, 28), (gs, trI tl2, 76), (g2, af tI, 68)] W → Code.wp _ _ _ _ W) => k _ (ay.out.add (ar W4 _ (a8 tqR) 28).2 (Nat.le_refl _) (ar W4 _ (a8 tqR) 28).1)) ?_;intro W5 hW5;obtain ⟨g3, c3⟩ : ∃ g, W4.heap.size = g := ⟨_, rfl⟩;rw [c3] at hW5 ⊢;have ae := zH hW5.drew;clear c3 ay;obtain ⟨L5, v5, h5, -⟩ := ae.out.call;obtain ⟨gm, a5, em, bu, b6⟩ := Ym h5.md.1 h5.okm (by show 0 < 4; omega);have c2 := h5.blk.cell (j := 2) rfl;rw [em] at c2;have bg := zH (b6 0 tq0 rfl);have bi := zH (b6 3 tqR rfl);have a3 := zH (ae.out.at (g := g3) (cs := a8 tqR) (t := 28) (by simp));have aq : Hid (W5.drew.cell? ⟨D, 2, none⟩ = some (.slice (some ⟨gm, 0, none⟩) 4 a5)) := zH c2;have aw : Hid (4 ≤ a5) := zH bu;clear h5 em bu b6 c2 hW5;refine gS (.take 0 (.take 1 (.take 2 (.take 3 (.take 4 (.take 5 (.take 6 (.take 7 (.take 8 (.take 9 (.take 10 (.take 11 (.take 12 (.take 13 (.take 14 (.take 15 (.take 16 (.take 17 (.take 18 (.take 19 (.take 20 (.take 21 (.take 22 (.take 23 (.take 24 (.take 25 (.take 26 (.take 27 (.take 28 (.take 29 (.nil))))))))))))))))))))))))))))))) (fun X => X = W5.drew) (rfl) ?_;refine gT (.int .i64 0) ?_;refine gT (.bool false) ?_;refine gT (.bool false) ?_;refine gT (.pointer (some ⟨D, 0, none⟩)) ?_;refine gT (.pointer (some ⟨D, 0, none⟩)) ?_;refine gT (.pointer (some ⟨D, 2, none⟩)) ?_;refine gU (.slice (some ⟨gm, 0, none⟩) 4 a5) rfl (fun X hX => by subst hX; exact ib rfl rfl aq.out) ?_;refine gT (.int .i64 4) ?_;refine gT (.bool false) ?_;refine gT (.bool false) ?_;refine gT (.bool false) ?_;refine gT (.pointer (some ⟨D, 0, none⟩)) ?_;refine gT (.pointer (some ⟨D, 0, none⟩)) ?_;refine gT (.pointer (some ⟨D, 2, none⟩)) ?_;refine gU (.slice (some ⟨gm, 0, none⟩) 4 a5) rfl (fun X hX => by subst hX; exact ib rfl rfl aq.out) ?_;refine gU (.pointer (some ⟨gm, 0, none⟩)) rfl (fun X hX => Lt (k := 0) rfl rfl rfl ⟨by omega, aw.out⟩) ?_;refine gT (.pointer (some ⟨gm, 0, none⟩)) ?_;refine gU (.int .u8 4) rfl (fun X hX => by subst hX; exact az Tryz.underlying5 rfl rfl (bg.out 0 _ rfl)) ?_;refine gT (.bool false) ?_;refine gT (.bool false) ?_;refine gT (.bool false) ?_;refine gT (.pointer (some ⟨D, 0, none⟩)) ?_;refine gT (.pointer (some ⟨D, 0, none⟩)) ?_;refine gT (.pointer (some ⟨D, 2, none⟩)) ?_;refine gU (.slice (some ⟨gm, 0, none⟩) 4 a5) rfl (fun X hX => by subst hX; exact ib rfl rfl aq.out) ?_;refine gU (.pointer (some ⟨gm, 123, none⟩)) rfl (fun X hX => Lt (k := 3) rfl rfl rfl ⟨by omega, aw.out⟩) ?_;refine gU (.agg (a8 tqR).toArray) rfl (fun X hX => by subst hX; exact c6 (ty := 28) (cs := a8 tqR) rfl rfl bi.out Tryz.underlying28 rfl (by rw [dw, aa lx])) ?_;refine gU (.agg (a8 tqR).toArray) rfl (fun X hX => by subst hX; exact ax lx a3.out rfl rfl) ?_;refine gU (.bool false) rfl (fun X hX => (Hm (w := X) rfl rfl rfl lx lx).trans (by rw [br]; rfl)) ?_;refine gT (.bool false) ?_;refine au ?_;clear bg bi a3 aq aw;obtain ⟨W6, bq⟩ : ∃ W, W5.drew = W := ⟨_, rfl⟩;rw [bq] at ae ⊢;clear bq;have a3 := zH (ae.out.at (g := g3) (cs := a8 tqR) (t := 28) (by simp));obtain ⟨ao, co, ab⟩ := an.out.get (num := 5) rfl;have a0 := Cx ae.out tqR lx 5 (by omega) a2m (by omega) bokT
 obtain ⟨a1, a2⟩ : gtE tS tqR 5 = 0 ∧ gtN tS tqR 5 = tI := by
  rcases ao with ⟨b1, b2⟩ | ⟨_, _, b3⟩
  ·rw [tw4] at b2
   exact ⟨b1, by injection b2⟩
  ·exact absurd rfl b3
 rw [a1, a2] at a0;obtain ⟨s7, cd⟩ : ∃ s7, gtS tS tqR 5 = s7 := ⟨_, rfl⟩;rw [cd] at a0 ab;have av := zH ab.bl;have a4 := zH a0;clear a0 a1 a2 ao ab cd
 go_wp2_with (first | (refine a9 rfl (ax lx a3.out rfl rfl) ?_) | fail)
 refine a4.out.mono ?_;rintro e W7 ⟨rfl, bz, c8⟩;have b8 := zH bz; have bc := zH c8;clear bz c8 a4 ae a3
 go_upto_region 7 with (first | (refine wpList_store_row rfl 68 (.tmp 5) (.tmp 62) rfl W7.heap.size (af tI).toArray rfl rfl 68 _ (heap_alloc_new W7 _) bk.out (by rw [bf.out]; rfl) (fj tI) ?_) | fail)
 refine (fun (k : ∀ W, Fr w D s7 [(W7.heap.size, af tI, 68), (g3, a8 tqR, 28), (gs, trI tl2, 76), (g2, af tI, 68)] W → Code.wp _ _ _ _ W) => k _ (b8.out.add (ar W7 _ (af tI) 68).2 (Nat.le_refl _) (ar W7 _ (af tI) 68).1)) ?_;intro W8 hW8;obtain ⟨g5, c4⟩ : ∃ g, W7.heap.size = g := ⟨_, rfl⟩;rw [c4] at hW8 ⊢;have ci := zH hW8;have a3 := zH (hW8.at (g := g3) (cs := a8 tqR) (t := 28) (by simp));have bm : Hid (IsTab s7.blocks tqR tV th tm) := zH (by rw [av.out.1]; exact an.out);have ai : Hid (BlkOK s7) := zH (bokT.same av.out);obtain ⟨ao, co, ab⟩ := bm.out.get (num := 2) rfl;have a0 := Cx hW8 tqR lx 2 (by omega) bc.out (by omega) ai.out
 obtain ⟨a1, a2⟩ : gtE s7 tqR 2 = 0 ∧ gtN s7 tqR 2 = zeroI := by
  rcases ao with ⟨b1, b2⟩ | ⟨_, _, b3⟩
  ·rw [tw5] at b2
   exact ⟨b1, by injection b2⟩
  ·exact absurd av.out.2 b3
 rw [a1, a2] at a0;obtain ⟨s9, ce⟩ : ∃ s9, gtS s7 tqR 2 = s9 := ⟨_, rfl⟩;rw [ce] at a0 ab;have b0 := zH ab.bl;have a4 := zH a0;clear c4 hW8 b8 bc a0 a1 a2 ao ab ce
 go_wp2_with (first | (refine a9 rfl (ax lx a3.out rfl rfl) ?_) | fail)
 refine a4.out.mono ?_;rintro e W9 ⟨rfl, c0, c9⟩;have b9 := zH c0; have bd := zH c9;clear c0 c9 a4 ci a3
 go_upto_region 8 with (first | (refine wpList_store_row rfl 68 (.tmp 7) (.tmp 69) rfl W9.heap.size (af zeroI).toArray rfl rfl 68 _ (heap_alloc_new W9 _) cm.out (by rw [ck.out]; rfl) (fj zeroI) ?_) | fail)
 refine (fun (k : ∀ W, Fr w D s9 [(W9.heap.size, af zeroI, 68), (g5, af tI, 68), (g3, a8 tqR, 28), (gs, trI tl2, 76), (g2, af tI, 68)] W → Code.wp _ _ _ _ W) => k _ (b9.out.add (ar W9 _ (af zeroI) 68).2 (Nat.le_refl _) (ar W9 _ (af zeroI) 68).1)) ?_;intro WA hWA;obtain ⟨g7, c5⟩ : ∃ g, W9.heap.size = g := ⟨_, rfl⟩;rw [c5] at hWA ⊢;have a3 := zH (hWA.at (g := g3) (cs := a8 tqR) (t := 28) (by simp));have bn : Hid (IsTab s9.blocks tqR tV th tm) := zH (by rw [b0.out.1]; exact bm.out);have a7 := Ky hWA bn.out (b0.out.2.trans av.out.2) bd.out (by omega) (ai.out.same b0.out);rw [tw6, bn.out.blocks, tw7] at a7;have ag := zH a7;clear c5 hWA b9 bd a7
 go_wp2_with (first | (refine a9 rfl (ax lx a3.out rfl rfl) ?_) | fail)
 refine ag.out.mono ?_;rintro e WB ⟨ov, nv, ob, nb, rs, sB, rfl, -, b5, -, cb, ca, -⟩
 obtain ⟨cp, b4, cn⟩ : ∃ sp cap, nv = .slice sp 4 cap := by
  rcases ca.2 with ⟨_, e, _⟩ | ⟨g, cap, cs, e, _⟩
  ·omega
  ·exact ⟨_, _, e⟩
 obtain ⟨go, a6, e1, bv, bt⟩ := OwnT.at (l := tl2) (b5.row cb (fun y hy => List.mem_append.2 (.inl hy))) Dt (by simp [tl2]);have e1 : ov = .slice (some ⟨go, 0, none⟩) 2 a6 := e1;subst cn e1;have ba := zH (bt 1 (5, tI) rfl);have ch : Hid (2 ≤ a6) := zH bv;have aj := zH b5;clear ag a3 cb ca bv bt b5
 go_upto_region 9 with fail
 obtain ⟨WE, bs⟩ : ∃ W, WB = W := ⟨_, rfl⟩;rw [bs] at ba aj ⊢;have ah : Hid (Blk WE.drew g2 (af tI) 68) := zH (aj.out.drew.at (by simp));have cf : Hid (Blk WE.drew g5 (af tI) 68) := zH (aj.out.drew.at (by simp));have cg : Hid (Blk WE.drew g7 (af zeroI) 68) := zH (aj.out.drew.at (by simp));have HE := zH (HP.out _ aj.out.drew.bel);clear bs HP;refine gS (.take 0 (.take 1 (.take 2 (.take 3 (.take 4 (.take 5 (.take 6 (.take 7 (.take 8 (.take 9 (.take 10 (.take 11 (.take 12 (.take 13 (.take 14 (.take 15 (.take 16 (.take 17 (.take 18 (.take 19 (.take 20 (.take 21 (.take 22 (.take 23 (.take 24 (.take 25 (.take 26 (.take 27 (.take 28 (.take 29 (.take 30 (.take 31 (.take 32 (.take 33 (.take 34 (.take 35 (.take 36 (.take 37 (.take 38 (.nil)))))))))))))))))))))))))))))))))))))))) (fun X => X = WE.drew) (rfl) ?_;refine gT (.int .i64 0) ?_;refine gT (.bool true) ?_;refine gT (.bool true) ?_;refine gU (.agg (af tI).toArray) rfl (fun X hX => by subst hX; exact et kf cf.out rfl rfl) ?_;refine gU (.agg (af tI).toArray) rfl (fun X hX => by subst hX; exact et kf ah.out rfl rfl) ?_;refine gU (.bool true) rfl (fun X hX => (Cm (w := X) kf kf rfl rfl rfl).trans (by rw [mz])) ?_;refine gT (.bool true) ?_;refine gT (.bool true) ?_;refine gT (.int .i64 0) ?_;refine gT (.bool true) ?_;refine gT (.bool true) ?_;refine gT (.bool true) ?_;refine gU (.agg (af zeroI).toArray) rfl (fun X hX => by subst hX; exact et zeroI_ok cg.out rfl rfl) ?_;refine gU (.agg (af zeroI).toArray) rfl (fun X hX => lc rfl) ?_;refine gU (.bool true) rfl (fun X hX => (Cm (w := X) zeroI_ok zeroI_ok rfl rfl rfl).trans (by rw [mz])) ?_;refine gT (.bool true) ?_;refine gT (.bool true) ?_;refine gT (.int .i64 0) ?_;refine gT (.bool true) ?_;refine gT (.bool true) ?_;refine gT (.bool true) ?_;refine gT (.slice (some ⟨go, 0, none⟩) 2 a6) ?_;refine gT (.int .i64 2) ?_;refine gT (.bool true) ?_;refine gT (.bool true) ?_;refine gT (.bool true) ?_;refine gT (.slice (some ⟨go, 0, none⟩) 2 a6) ?_;refine gU (.pointer (some ⟨go, 45, none⟩)) rfl (fun X hX => uc (k := 1) rfl rfl rfl ⟨by omega, ch.out⟩) ?_;refine gU (.agg (tcI (5, tI)).toArray) rfl (fun X hX => by subst hX; exact c6 (ty := 76) (cs := tcI (5, tI)) rfl rfl ba.out Tryz.underlying76 rfl (by rw [wv, bw kf])) ?_;refine gU (.agg (af tI).toArray) rfl (fun X hX => by subst hX; exact et kf ah.out rfl rfl) ?_;refine gU (.agg (tcI (5, tI)).toArray) rfl (fun X hX => n8 (f := 5) kf rfl rfl rfl) ?_;refine gU (.bool true) rfl (fun X hX => (Xd (w := X) (x := (5, tI)) (y := (5, tI)) kf kf rfl rfl rfl).trans (by rw [mz]; rfl)) ?_;refine gT (.bool true) ?_;refine gT (.bool true) ?_;refine gT (.slice cp 4 b4) ?_;refine gT (.int .i64 4) ?_;refine gT (.bool true) ?_;refine gT (.bool true) ?_;refine gT (.bool true) ?_;refine au ?_
 go_wp2_with fail
 first | exact HE.out | (go_ret; exact HE.out)
end Go.Proofs.YtjgjohdeeeoeoaaGreatDoor
