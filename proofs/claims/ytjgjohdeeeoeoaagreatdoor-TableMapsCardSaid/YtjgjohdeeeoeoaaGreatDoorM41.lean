/- The law's count of blocks, walked. -/
import Derived.Test.YtjgjohdeeeoeoaaGreatDoorM40
import Derived.Test.YtjgjohdeeeoeoaaGreatDoorM39
import Derived.Test.YtjgjohdeeeoeoaaGreatDoorM11
import Derived.Deep.Slices
namespace Go.Proofs.YtjgjohdeeeoeoaaGreatDoor
open Go.RowKit
attribute [local go_sem] Oper.semAt_some
def Bo (w W : World) : Prop := w = W
set_option maxRecDepth 100000 in
set_option maxHeartbeats 16000000 in
theorem F9 (hv : List Ino) (hlen : hv.length = 256) (hok : ∀ n ∈ hv, n.OK) (g cap : Nat) (hc : 256 ≤ cap) (w : World) (hH : Kb w g hv) : Calls Tryz.prog 19 #[.slice (some ⟨g, 0, none⟩) 256 cap] w fun e w' => e = .returned (.int .i64 (wg hv : Int)) ∧ w' = w := by
 have al := zH hlen; have am := zH hok; have HC := zH hc; have HH := zH hH;generalize hPost : (fun (e : Ending) (w' : World) => e = .returned (.int .i64 (wg hv : Int)) ∧ w' = w) = Post;have aa : Hid (∀ z, wg hv = z → Post (.returned (.int .i64 (z : Int))) w) := zH fun z h => by rw [← hPost, h]; exact ⟨rfl, rfl⟩
 clear hlen hok hc hH hPost;go_enter Tryz.func19, Tryz.ntmps19
 go_wp2_with fail
 go_loopw [3, 4, 5] (fun lv gp i wr => ∃ k : Nat, k ≤ 8 ∧ i = .int .i64 (k : Int) ∧ lv = .int .i64 (lfC hv (8 * k) : Int) ∧ gp = .int .i64 (gpC hv k : Int) ∧ Bo w wr) (fun _ _ i _ => 8 - (intOf i).toNat)
 case atStart => exact ⟨0, by omega, rfl, rfl, rfl, rfl⟩
 case round =>
  obtain ⟨k, hk, rfl, rfl, rfl, hs⟩ := hrel;unfold Bo at hs;subst hs;have ae := IntWalk.i64_in ((k : Int) + 1) (by omega);by_cases hlt : k < 8
  ·have HK := zH hlt
   obtain ⟨gp, a1⟩ : ∃ z, gpC hv k = z := ⟨_, rfl⟩;have b1 := zH a1;have b5 : gp ≤ 8 := (by have := Ti hv k; omega);have b2 := IntWalk.i64_in ((gp : Int) + 1) (by omega);rw [a1];clear a1
   go_wp2_with fail
   have ah : decide ((k : Int) < 8) = true := decide_eq_true (by omega)
   try simp only [ah]
   clear hlt ah;go_loopw [3, 6, 7] (fun lv an i w2 => ∃ j : Nat, j ≤ 8 ∧ i = .int .i64 (j : Int) ∧ lv = .int .i64 (lfC hv (8 * k + j) : Int) ∧ an = .bool (gpK hv k j) ∧ Bo w w2) (fun _ _ i _ => 8 - (intOf i).toNat)
   case atStart => exact ⟨0, by omega, rfl, rfl, rfl, rfl⟩
   case round =>
    obtain ⟨j, hj, rfl, rfl, rfl, hs⟩ := hrel;unfold Bo at hs;subst hs;have ax := IntWalk.i64_in ((j : Int) + 1) (by omega);by_cases hjt : j < 8
    ·have HJ := zH hjt
     obtain ⟨lf, a0⟩ : ∃ z, lfC hv (8 * k + j) = z := ⟨_, rfl⟩;have au := zH a0;have b4 : lf ≤ 64 := (by have := Tn hv (8 * k + j); omega);have b6 := IntWalk.i64_in ((lf : Int) + 1) (by omega);obtain ⟨an, a3⟩ : ∃ z, gpK hv k j = z := ⟨_, rfl⟩;have ao := zH a3;rw [a0, a3];clear a0 a3
     go_wp2_with fail
     have ad : decide ((j : Int) < 8) = true := decide_eq_true (by omega)
     try simp only [ad]
     clear hjt ad;go_loopw [8, 9] (fun is i w3 => ∃ m : Nat, m ≤ 4 ∧ i = .int .i64 (m : Int) ∧ is = .bool (Ch hv (8 * k + j) m) ∧ Bo w w3) (fun _ i _ => 4 - (intOf i).toNat)
     case atStart => exact ⟨0, by omega, rfl, rfl, rfl⟩
     case round =>
      obtain ⟨m, hm, rfl, rfl, hs⟩ := hrel;unfold Bo at hs;subst hs;have az := IntWalk.i64_in ((m : Int) + 1) (by omega);by_cases hmt : m < 4
      ·have a5 := Oc hv (8 * k + j) m
       obtain ⟨q, hq⟩ : ∃ q, hv[4 * (8 * k + j) + m]? = some q := ⟨_, List.getElem?_eq_getElem (by have := al.out; have := HK.out; have := HJ.out; omega)⟩;have HQ := zH (am.out q (List.mem_of_getElem? hq));have HR := zH (HH.out.2 _ q hq);have ag : nzB hv (4 * (8 * k + j) + m) = !eqI q zeroI := (by unfold nzB; rw [List.getD_eq_getElem?_getD, hq]; rfl);rw [ag] at a5;obtain ⟨nz, hz⟩ : ∃ z, (!eqI q zeroI) = z := ⟨_, rfl⟩;rw [hz] at a5;obtain ⟨ab, a2⟩ : ∃ z, Ch hv (8 * k + j) m = z := ⟨_, rfl⟩;rw [a2] at a5;rw [a2];have aj := zH a5; have ap := zH hz; have HM := zH hmt;have av : Hid (4 * (8 * k + j) + m < 256 ∧ 256 ≤ cap) := zH ⟨by have := HK.out; have := HJ.out; omega, HC.out⟩;clear a5 hq ag hz a2;cases ab
       ·go_wp2_with (first | (refine aq (by rfl) (Jq (c := 32) (a := k) (z := 32 * k) rfl (by have := HK.out; omega) rfl rfl rfl) ?_) | (refine aq (by rfl) (Jq (c := 4) (a := j) (z := 4 * j) rfl (by have := HJ.out; omega) rfl rfl rfl) ?_) | (refine aq (by rfl) (Lu (c := 32 * k) (a := 4 * j) (z := 4 * (8 * k + j)) (by omega) (by have := HK.out; have := HJ.out; omega) rfl rfl rfl) ?_) | (refine aq (by rfl) (Lu (c := 4 * (8 * k + j)) (a := m) (z := 4 * (8 * k + j) + m) rfl (by have := HK.out; have := HJ.out; have := HM.out; omega) rfl rfl rfl) ?_) | (refine aq (by rfl) (yt rfl rfl rfl av.out) ?_) | (refine aq (by rfl) (fa HQ.out HR.out rfl rfl) ?_) | (refine aq (by rfl) (rc rfl) ?_) | (refine aq (by rfl) (Wg ap.out HQ.out zeroI_ok rfl rfl rfl) ?_) | fail)
        go_roundw
        case rel => exact ⟨m + 1, by have := HM.out; omega, by go_num, by rw [aj.out]; rfl, rfl⟩
        case measure => simp [intOf]; have := HM.out; omega
       ·go_wp2_with fail
        go_roundw
        case rel => exact ⟨m + 1, by have := HM.out; omega, by go_num, by rw [aj.out]; rfl, rfl⟩
        case measure => simp [intOf]; have := HM.out; omega
      ·obtain rfl : m = 4 := by omega
       have ay : Hid (lfB hv (8 * k + j) = Ch hv (8 * k + j) 4) := zH (Xg al.out (by have := HK.out; have := HJ.out; omega));have a4 := Rj hv (8 * k + j);have a6 := R9 hv k j;rw [au.out] at a4;rw [ao.out] at a6;rw [ay.out] at a4 a6;obtain ⟨ab, a2⟩ : ∃ z, Ch hv (8 * k + j) 4 = z := ⟨_, rfl⟩;rw [a2] at a4 a6;rw [a2];have ai := zH a4; have ak := zH a6;clear a4 a6 a2 hmt hm az;cases ab
       ·go_wp2_with fail
        go_roundw
        case rel => exact ⟨j + 1, by have := HJ.out; omega, by go_num, by rw [show 8 * k + (j + 1) = 8 * k + j + 1 by omega, ai.out]; rfl, by rw [ak.out]; simp, rfl⟩
        case measure => simp [intOf]; have := HJ.out; omega
       ·go_wp2_with fail
        go_roundw
        case rel => exact ⟨j + 1, by have := HJ.out; omega, by go_num, by rw [show 8 * k + (j + 1) = 8 * k + j + 1 by omega, ai.out]; first | rfl | go_num, by rw [ak.out]; simp, rfl⟩
        case measure => simp [intOf]; have := HJ.out; omega
    ·obtain rfl : j = 8 := by omega
     have b0 : Hid (gpB hv k = gpK hv k 8) := zH rfl;have a7 := Ug hv k;rw [b1.out, b0.out] at a7;obtain ⟨an, a3⟩ : ∃ z, gpK hv k 8 = z := ⟨_, rfl⟩;rw [a3] at a7;rw [a3];have af := zH a7;clear a7 a3 hjt hj ax;cases an
     ·go_wp2_with fail
      go_roundw
      case rel => exact ⟨k + 1, by have := HK.out; omega, by go_num, by rw [show 8 * (k + 1) = 8 * k + 8 by omega], by rw [af.out]; rfl, rfl⟩
      case measure => simp [intOf]; have := HK.out; omega
     ·go_wp2_with fail
      go_roundw
      case rel => exact ⟨k + 1, by have := HK.out; omega, by go_num, by rw [show 8 * (k + 1) = 8 * k + 8 by omega], by rw [af.out]; first | rfl | go_num, rfl⟩
      case measure => simp [intOf]; have := HK.out; omega
  ·obtain rfl : k = 8 := by omega
   obtain ⟨gp, a1⟩ : ∃ z, gpC hv 8 = z := ⟨_, rfl⟩;obtain ⟨lf, a0⟩ : ∃ z, lfC hv (8 * 8) = z := ⟨_, rfl⟩;have a8 := Tn hv (8 * 8);have a9 := Ti hv 8;have hb := Wl hv;rw [show (64 : Nat) = 8 * 8 from rfl] at hb;rw [a1, a0] at hb;rw [a1] at a9 ⊢;rw [a0] at a8 ⊢;have aw := IntWalk.i64_in ((lf : Int) + (gp : Int)) (by omega);have ar := IntWalk.i64_in ((lf : Int) + (gp : Int) + 1) (by omega);by_cases h0 : gp = 0
   ·subst h0
    have HE := zH (aa.out 0 (by rw [hb]; rfl));clear hb a0 a1 a8 a9 aw ar hlt hk ae
    go_wp2_with fail
    first | exact HE.out | (go_ret; exact HE.out)
   ·have b3 : ¬ ((gp : Int) = 0) := by omega
    have hE := aa.out (lf + gp + 1) (by rw [hb, if_neg h0]);rw [show ((lf + gp + 1 : Nat) : Int) = (lf : Int) + (gp : Int) + 1 by push_cast; rfl] at hE;have HE := zH hE;clear hb a0 a1 a8 a9 hlt hk ae hE h0
    go_wp2_with fail
    first | exact HE.out | (go_ret; exact HE.out)
end Go.Proofs.YtjgjohdeeeoeoaaGreatDoor
namespace Go.Proofs.YtjgjohdeeeoeoaaGreatDoor
open Go.RowKit
variable {hv : List Ino} {i : Nat}
def ue (hv : List Ino) (i : Nat) : List Itm := if (de i && nzB hv i) = true then [(i, hv.getD i zeroI)] else []
def fx (hv : List Ino) (m : Nat) : List Itm := (List.range m).flatMap (ue hv)
theorem jw (hv : List Ino) (m : Nat) : fx hv (m + 1) = fx hv m ++ ue hv m := by simp [fx, List.range_succ]
theorem z6 {α : Type} (f : Nat → List α) : ∀ n, ((List.range n).flatMap fun a => (List.range 4).flatMap fun j => f (a * 4 + j)) = (List.range (n * 4)).flatMap f
 | 0 => rfl
 | n + 1 => by
  rw [List.range_succ (n := n), List.flatMap_append, z6 f n];rw [show (n + 1) * 4 = n * 4 + 1 + 1 + 1 + 1 by omega];simp only [List.range_succ, List.flatMap_append, List.range_zero, List.nil_append, List.flatMap_cons, List.flatMap_nil, List.append_nil, List.append_assoc, Nat.zero_add, Nat.add_zero, Nat.add_assoc]
theorem A7 (_hl : hv.length = 256) : li hv = fx hv 256 := by
 have h := z6 (ue hv) 64;have h2 : fx hv 256 = (List.range (64 * 4)).flatMap (ue hv) := rfl;rw [h2, ← h];unfold li
 have : ∀ l : List Nat, (∀ a ∈ l, a < 64) → l.flatMap (fun off => j9 off (db hv off) 4) = l.flatMap fun a => (List.range 4).flatMap fun j => ue hv (a * 4 + j) := by
  intro l
  induction l with
  | nil => intro _; rfl
  | cons a l ih =>
   intro hm;rw [List.flatMap_cons, List.flatMap_cons, ih fun b hb => hm b (List.mem_cons_of_mem _ hb)];congr 1;have ha := hm a (List.mem_cons_self ..);unfold j9
   have : ∀ l2 : List Nat, (∀ j ∈ l2, j < 4) → l2.flatMap (fun j => Dt a j ((db hv a).getD j zeroI)) = l2.flatMap fun j => ue hv (a * 4 + j) := by
    intro l2
    induction l2 with
    | nil => intro _; rfl
    | cons j l2 ih2 =>
     intro hm2;rw [List.flatMap_cons, List.flatMap_cons, ih2 fun b hb => hm2 b (List.mem_cons_of_mem _ hb)];congr 1;have hj := hm2 j (List.mem_cons_self ..)
     have e : (db hv a).getD j zeroI = hv.getD (a * 4 + j) zeroI := by
      rw [List.getD_eq_getElem?_getD, u9 hj, List.getD_eq_getElem?_getD, Nat.mul_comm 4 a]
     rw [e];unfold Dt ue nzB;simp only [Bool.and_eq_true, Bool.not_eq_true']
   exact this _ fun j hj => List.mem_range.1 hj
 exact this _ fun a ha => List.mem_range.1 ha
theorem Ag (hv : List Ino) {a : Nat} : ∀ {b : Nat}, a ≤ b → ∃ r, fx hv b = fx hv a ++ r
 | 0, h => ⟨[], by rw [show a = 0 by omega, List.append_nil]⟩
 | b + 1, h => by
  rcases Nat.lt_or_ge b a with h1 | h1
  ·exact ⟨[], by rw [show a = b + 1 by omega, List.append_nil]⟩
  ·obtain ⟨r, hr⟩ := Ag hv h1
   exact ⟨r ++ ue hv b, by rw [jw, hr, List.append_assoc]⟩
theorem V0 (hl : hv.length = 256) (hi : i < 256) (h0 : 0 < i) (hn : nzB hv i = true) : (li hv)[(fx hv i).length]? = some (i, hv.getD i zeroI) ∧ (fx hv (i + 1)).length = (fx hv i).length + 1 := by
 have hk : de i = true := by unfold de; simp; omega
 have hp : ue hv i = [(i, hv.getD i zeroI)] := by unfold ue; rw [hk, hn]; rfl
 obtain ⟨r, hr⟩ := Ag hv (show i + 1 ≤ 256 by omega);refine ⟨?_, by rw [jw, hp, List.length_append]; rfl⟩;rw [A7 hl, hr, jw, hp, List.append_assoc, List.getElem?_append_right (Nat.le_refl _), Nat.sub_self];rfl
theorem J3 (hn : nzB hv i = false) : fx hv (i + 1) = fx hv i := by
 rw [jw];unfold ue;rw [hn];simp
theorem Br (hv : List Ino) : ∀ m, (fx hv m).length ≤ m
 | 0 => by simp [fx]
 | m + 1 => by
  rw [jw, List.length_append];have h1 := Br hv m;have h2 : (ue hv m).length ≤ 1 := (by unfold ue; split <;> simp);omega
end Go.Proofs.YtjgjohdeeeoeoaaGreatDoor
namespace Go.Proofs.YtjgjohdeeeoeoaaGreatDoor
open Go.ChangeShapes Go.WideShapes Go.ChangeAt Go.WideMaps Go.WideElems Go.RowKit Go.Deep
variable {cs : List Value} {fuel : Nat} {v : Value}
section
variable {H : Type} {enc : TypeId × Value → H} {W : World} {b' : Nat} {spare : Nat → Bool} {held : Bool}
theorem Yh : Tryz.prog.cellsOf 5 = 1 := by kernel_rfl
theorem K2 : Tryz.prog.cellsOf 23 = 1 := by kernel_rfl
theorem Ys : Tryz.prog.cellsOf 24 = 1 := by kernel_rfl
theorem Zb : Tryz.prog.cellsOf 28 = 41 := by kernel_rfl
set_option maxRecDepth 100000 in
theorem Ph {x : DataW H × List MemPlace} (h : DataW.trod enc Tryz.prog W b' spare held fuel 62 cs = some x) : ∃ q : Ino, q.OK ∧ cs = af q := by
 obtain ⟨xs, k, _, _, hl, a3, a0⟩ := DataW.trod_struct Tryz.underlying62 h;rw [Wz] at hl
 match xs, a3 with
 | [y0, y1, y2, y3], _ =>
  have g0 := a0 0 _ rfl;have g1 := a0 1 _ rfl;have g2 := a0 2 _ rfl;have g3 := a0 3 _ rfl;simp [Yh, K2, Ys, Zb] at g0 g1 g2 g3;obtain ⟨z0, e0, _, w0⟩ := DataW.trod_int Tryz.underlying5 g0;obtain ⟨z1, e1, _, w1⟩ := DataW.trod_int Tryz.underlying23 g1;obtain ⟨z2, e2, _, w2⟩ := DataW.trod_int Tryz.underlying24 g2;obtain ⟨p, hp, e3⟩ := Ov g3;have b0 := bounds_u8 w0;have b1 := bounds_u16 w1;have b2 := bounds_u32 w2;refine ⟨⟨z0.toNat, z1.toNat, z2.toNat, p⟩, ⟨by show z0.toNat < _; omega, by show z1.toNat < _; omega, by show z2.toNat < _; omega, hp⟩, ?_⟩;have g : ∀ n m, cs.take n ++ (cs.drop n).take m = cs.take (n + m) := fun n m => by rw [List.take_add]
  have a4 : cs = cs.take 1 ++ ((cs.drop 1).take 1 ++ ((cs.drop 2).take 1 ++ (cs.drop 3).take 41)) := by
   simp only [← List.append_assoc];rw [g 1 1, g 2 1, g 3 41, List.take_of_length_le (by omega)]
  have a6 : (cs.drop 1).take 1 = [Value.int .u16 z1] := (by simpa using e1);have a2 : (cs.drop 2).take 1 = [Value.int .u32 z2] := (by simpa using e2);have a1 : (cs.drop 3).take 41 = a8 p := (by simpa using e3);have a5 : cs.take 1 = [Value.int .u8 z0] := (by simpa using e0);rw [a4, a5, a6, a2, a1];show _ = [Value.int .u8 ((z0.toNat : Nat) : Int), .int .u16 ((z1.toNat : Nat) : Int), .int .u32 ((z2.toNat : Nat) : Int)] ++ a8 p;rw [Int.toNat_of_nonneg b0.1, Int.toNat_of_nonneg b1.1, Int.toNat_of_nonneg b2.1];rfl
theorem Eo : Tryz.prog.cellsOf 64 = 45 := by kernel_rfl
theorem P0 : Tryz.prog.cellsOf 62 = 44 := by kernel_rfl
theorem R0 : Tryz.prog.cellsOf 59 = 1 := by kernel_rfl
theorem Ve : Tryz.prog.cellsOf 57 = 1 := by kernel_rfl
set_option maxRecDepth 100000 in
theorem Gk {x : DataW H × List MemPlace} (h : DataW.trod enc Tryz.prog W b' spare held fuel 64 cs = some x) : ∃ q : Itm, Itm.OK q ∧ cs = tcI q := by
 obtain ⟨xs, k, _, _, hl, a1, a0⟩ := DataW.trod_struct Tryz.underlying64 h;rw [Eo] at hl
 match xs, a1 with
 | [y0, y1], _ =>
  have g0 := a0 0 _ rfl;have g1 := a0 1 _ rfl;simp [K2, P0] at g0 g1;obtain ⟨z0, e0, _, w0⟩ := DataW.trod_int Tryz.underlying23 g0;obtain ⟨p, hp, e1⟩ := Ph g1;have b0 := bounds_u16 w0;refine ⟨(z0.toNat, p), ⟨by show z0.toNat < _; omega, hp⟩, ?_⟩;have ht : cs.tail.take 44 = cs.tail := List.take_of_length_le (by simp [hl]);have a2 : cs = cs.take 1 ++ cs.tail := (by rw [← List.drop_one, List.take_append_drop]);rw [ht] at e1;rw [a2, e0, e1];show [Value.int .u16 z0] ++ af p = Value.int .u16 ((z0.toNat : Nat) : Int) :: af p;rw [Int.toNat_of_nonneg b0.1];rfl
set_option maxRecDepth 100000 in
theorem Gq {n' : Nat} {x' : DataW H × List MemPlace} (hf : DataW.trod enc Tryz.prog W b' spare held n' 57 [v] = some x') :
  ∃ (l : List Itm) (sp : Option Addr) (cap : Nat), v = .slice sp l.length cap ∧ l.length ≤ cap ∧ (∀ x ∈ l, Itm.OK x) ∧ SrcT W sp l := by
 rcases open_slice Tryz.underlying57 hf with ⟨hcs, hx⟩ | ⟨a, len, cap, m, n, D, Pl, hcs, _, hl, hm, hmm, hx, hcell⟩
 ·simp at hcs
  exact ⟨[], none, 0, hcs, by simp, by simp, fun h => by simp at h⟩
 ·simp at hcs
  have ab : len ≤ m := by rw [hmm]; split <;> omega
  have a1 : ∀ i, i < m → ∃ q : Itm, Itm.OK q ∧ ∀ j v, (tcI q)[j]? = some v → W.cell? (a.add (i * 45 + j)) = some v := by
   intro i hi;obtain ⟨a5, h1, h2⟩ := hcell i hi;rw [Eo] at h1;obtain ⟨_, a4, a7⟩ := World.cells?_some h1;obtain ⟨q, hq, e⟩ := Gk h2;refine ⟨q, hq, fun j v hj => ?_⟩;rw [← e] at hj;have ad : j < a5.length := (List.getElem?_eq_some_iff.1 hj).1;have hc := a7 j (by omega);rw [add_add, hj] at hc;exact hc
  have : Inhabited Itm := ⟨(0, zeroI)⟩;obtain ⟨q, hq⟩ := choose_lt a1;refine ⟨(List.range len).map q, some a, cap, by simpa using hcs, by simpa using hl, fun x hx => ?_, fun h0 => ?_⟩
  ·obtain ⟨i, hi, rfl⟩ := List.mem_map.1 hx
   exact (hq i (by have := List.mem_range.1 hi; omega)).1
  ·have a9 : 0 < len := by simpa using h0
   have a3 : (tcI (q 0))[0]? = some (.int .u16 ((q 0).1 : Int)) := rfl;obtain ⟨g, o, a2⟩ := a;have a0 : a2 = none := (by simpa [Addr.add] using World.cell?_spot ((hq 0 (by omega)).2 0 _ a3));subst a0;refine ⟨g, o, rfl, ?_, fun i x hi j v hj => ?_⟩
   ·have := (hq 0 (by omega)).2 0 _ a3
    rw [Addr.add_mid] at this;exact l9 this
   ·obtain ⟨a6, a8⟩ := List.getElem?_eq_some_iff.1 hi
    have aa : i < len := (by simpa using a6);have e : x = q i := (by rw [← a8]; simp);subst e;have hc := (hq i (by omega)).2 j v hj;rw [Addr.add_mid] at hc;rw [Nat.add_assoc];exact hc
set_option maxRecDepth 100000 in
theorem Hx {x : DataW H × List MemPlace} (hlen : cs.length = 1) (h : DataW.trod enc Tryz.prog W b' spare held fuel 59 cs = some x) : ∃ q : AcU, Ll W q ∧ cs = yj q := by
 obtain ⟨xs, k, _, _, _, a2, a0⟩ := DataW.trod_struct Tryz.underlying59 h
 match xs, a2, cs, hlen with
 | [y0], _, [v0], _ =>
  have g0 := a0 0 _ rfl;simp [Ve] at g0;obtain ⟨l0, a1, c0, e0, k0, o0, s0⟩ := Gq g0;subst e0;exact ⟨⟨l0, a1, c0⟩, ⟨s0, k0, o0⟩, rfl⟩
set_option maxRecDepth 100000 in
theorem I2 {b : Nat} {d : DataW H} {p : List MemPlace} (ho : Value.okWide Tryz.prog W .any b 43 v) (h : DataW.Trod enc Tryz.prog W b' spare held 43 v d p) :
  ∃ (l : List AcU) (sp : Option Addr) (cap : Nat), v = .slice sp l.length cap ∧ l.length ≤ cap ∧ ActsU W sp l := by
 obtain ⟨a0, a2, cap, rfl⟩ := okWide_slice Tryz.underlying43 ho;obtain ⟨ab, hf⟩ := h;rcases open_slice Tryz.underlying43 hf with ⟨hcs, hx⟩ | ⟨a, len', cap', m, n, D, Pl, hcs, _, hl, hm, hmm, hx, hcell⟩
 ·simp [Value.cells] at hcs
  obtain ⟨rfl, rfl, rfl⟩ := hcs;exact ⟨[], none, 0, rfl, by simp, ⟨fun a ha => by simp at ha, fun h => absurd h (by simp)⟩⟩
 ·simp [Value.cells] at hcs
  obtain ⟨rfl, rfl, rfl⟩ := hcs;have af : a2 ≤ m := (by rw [hmm]; split <;> omega)
  have a3 : ∀ i, i < m → ∃ q : AcU, Ll W q ∧ ∀ j v, (yj q)[j]? = some v → W.cell? (a.add (i * 1 + j)) = some v := by
   intro i hi;obtain ⟨a7, h1, h2⟩ := hcell i hi;rw [R0] at h1;obtain ⟨_, a6, a9⟩ := World.cells?_some h1;obtain ⟨q, hq, e⟩ := Hx (by omega) h2;refine ⟨q, hq, fun j v hj => ?_⟩;rw [← e] at hj;have ag : j < a7.length := (List.getElem?_eq_some_iff.1 hj).1;have hc := a9 j (by omega);rw [add_add, hj] at hc;exact hc
  obtain ⟨q, hq⟩ := choose_lt a3;refine ⟨(List.range a2).map q, some a, cap, by simp, by simpa using hl, fun x hx => ?_, fun h0 => ?_⟩
  ·obtain ⟨i, hi, rfl⟩ := List.mem_map.1 hx
   exact (hq i (by have := List.mem_range.1 hi; omega)).1
  ·have ad : 0 < a2 := by simpa using h0
   have a5 : (yj (q 0))[0]? = some (.slice (q 0).sp (q 0).l.length (q 0).cap) := rfl;obtain ⟨g, o, a4⟩ := a;have a1 : a4 = none := (by simpa [Addr.add] using World.cell?_spot ((hq 0 (by omega)).2 0 _ a5));subst a1;refine ⟨g, o, rfl, ?_, fun i x hi j v hj => ?_⟩
   ·have := (hq 0 (by omega)).2 0 _ a5
    rw [Addr.add_mid] at this;exact l9 this
   ·obtain ⟨a8, aa⟩ := List.getElem?_eq_some_iff.1 hi
    have ae : i < a2 := (by simpa using a8);have e : x = q i := (by rw [← aa]; simp);subst e;have hc := (hq i (by omega)).2 j v hj;rw [Addr.add_mid, Nat.mul_one] at hc;rw [Nat.add_assoc];exact hc
end
end Go.Proofs.YtjgjohdeeeoeoaaGreatDoor
namespace Go.Proofs.YtjgjohdeeeoeoaaGreatDoor
open Go.RowKit
attribute [local go_sem] Oper.semAt_some
variable {x y : Itm} {o : Oper} {ρ : Operand → Value} {w : World}
theorem Fd : (Tryz.prog.fieldsOf 76).toList.map (fun f => (f.type, f.offset)) = [(23, 0), (68, 1)] := by kernel_rfl
theorem Yu : ((Tryz.prog.fieldsOf 76).toList.all fun f => f.name != "_") = true := by kernel_rfl
theorem El (h : x.2.OK) : (tcI x).toArray.extract 1 (1 + 44) = (af x.2).toArray := by
 have := am h;simp [tcI, List.extract_toArray, List.extract, this];exact List.take_of_length_le (by omega)
def Zt (x y : Itm) (f : TypeId × Nat) : Bool := match f.2 with | 0 => decide (x.1 = y.1) | _ => eqI x.2 y.2
theorem F7 (d : Nat) (hx : x.2.OK) (hy : y.2.OK) (W : World) : (Op.equalIn (d + 5) 76 (.agg (tcI x).toArray) (.agg (tcI y).toArray)).run Tryz.prog W = .ok (decide (x.1 = y.1) && eqI x.2 y.2) W := by
 rw [run_equalIn_struct W (d + 4) 76 _ _ (by kernel_rfl) (by kernel_rfl)]
 have e : (decide (x.1 = y.1) && eqI x.2 y.2) = (((Tryz.prog.fieldsOf 76).toList.map fun f => (f.type, f.offset)).all (Zt x y)) := by
  rw [Fd];simp [Zt]
 rw [e];refine fj _ _ _ W _ _ (fun f hm => ⟨?_, ?_⟩)
 ·have := List.all_eq_true.1 Yu f hm
  simpa using this
 have h1 : (f.type, f.offset) ∈ (Tryz.prog.fieldsOf 76).toList.map (fun f => (f.type, f.offset)) := List.mem_map.2 ⟨f, hm, rfl⟩;rw [Fd] at h1;simp only [List.mem_cons, Prod.mk.injEq, List.not_mem_nil, or_false] at h1;rcases h1 with ⟨e1, e2⟩ | ⟨e1, e2⟩ <;> rw [e1, e2]
 ·refine ⟨_, _, ay Tryz.underlying23 (v := .int .u16 (x.1 : Int)) rfl W, ay Tryz.underlying23 (v := .int .u16 (y.1 : Int)) rfl W, ?_⟩
  rw [run_equalIn_int W (d + 3) 23 .u16 .u16 _ _ Tryz.underlying23];refine congrArg (fun b => Result.ok b W) ?_;show _ = decide (x.1 = y.1);rw [Bool.eq_iff_iff];simp;omega
 ·refine ⟨_, _, vt _ _ W, vt _ _ W, ?_⟩
  rw [El hx, El hy];exact vd d hx hy W
theorem Z9 {a b : Operand} (hx : x.2.OK) (hy : y.2.OK) (ho : o.op = .binOp .eql 76 a b 76) (ha : ρ a = .agg (tcI x).toArray) (hb : ρ b = .agg (tcI y).toArray) :
  (execOp ρ o).run Tryz.prog w = .ok (.value (.bool (decide (x.1 = y.1) && eqI x.2 y.2))) w := by
 have h' : (Op.equal 76 (.agg (tcI x).toArray) (.agg (tcI y).toArray)).run Tryz.prog w = .ok (decide (x.1 = y.1) && eqI x.2 y.2) w := F7 9995 hx hy w
 have a0 : (binOp .eql 76 (.agg (tcI x).toArray) (.agg (tcI y).toArray)).run Tryz.prog w = .ok (.bool (decide (x.1 = y.1) && eqI x.2 y.2)) w := by
  show ((do pure (.bool ((← Op.equal 76 (.agg (tcI x).toArray) (.agg (tcI y).toArray)))) : Sem Value)).run Tryz.prog w = _;simp only [Sem.run_bind, h', Result.andThen_ok, Sem.run_pure]
 have hg : (eqGuard .eql 76 a b (.agg (tcI x).toArray) (.agg (tcI y).toArray)).run Tryz.prog w = .ok () w := by
  unfold eqGuard;go_simp
 unfold execOp;simp only [ho, ha, hb, Sem.run_bind, hg, a0, Result.andThen_ok, Sem.run_pure]
theorem R4 {x y : Operand} (ho : o.op = .build 68 #[(0, x), (1, y)]) (hx : ρ x = .int .u8 1) (hy : ρ y = .int .u16 1) : (execOp ρ o).run Tryz.prog w = .ok (.value (.agg (af tI).toArray)) w := by
 have hr : (Instr.build 68 #[(0, .int .u8 1), (1, .int .u16 1)]).run Tryz.prog w = .ok (.agg (af tI).toArray) w := run_build w 68 _ _ (by kernel_rfl);unfold execOp;simp only [ho];rw [show (Array.map (fun x : Nat × Operand => (x.1, ρ x.2)) #[(0, x), (1, y)]) = #[(0, .int .u8 1), (1, .int .u16 1)] by simp [hx, hy]];simp only [Sem.run_bind, hr, Result.andThen_ok, Sem.run_pure]
theorem Yx : (Tryz.prog.info? 76).map (fun i => (i.zero, i.size, i.bytes)) = some (some (.agg (tcI (0, zeroI)).toArray), 45, 72) := by kernel_rfl
theorem Yr : Instr.fill (fun i => some (i * 45, 45)) ((Array.range (2 * 45)).map ((Value.agg (tcI (0, zeroI)).toArray).cells[· % (Value.agg (tcI (0, zeroI)).toArray).cells.size]!)) [(0, .agg (tcI (1, tI)).toArray), (1, .agg (tcI (5, tI)).toArray)] = some (trI tl2).toArray := by kernel_rfl
theorem Rv {x y : Operand} (ho : o.op = .buildSlice 55 2 #[(0, x), (1, y)]) (hx : ρ x = .agg (tcI (1, tI)).toArray) (hy : ρ y = .agg (tcI (5, tI)).toArray) :
  (execOp ρ o).run Tryz.prog w = .ok (.value (.slice (some ⟨w.heap.size, 0, none⟩) 2 2)) (w.alloc (.cells (trI tl2).toArray 76)) := by
 have hr : (Instr.buildSlice 55 2 #[(0, .agg (tcI (1, tI)).toArray), (1, .agg (tcI (5, tI)).toArray)]).run Tryz.prog w = .ok (.slice (some ⟨w.heap.size, 0, none⟩) 2 2) (w.alloc (.cells (trI tl2).toArray 76)) := by
  obtain ⟨i, hi, h2⟩ := Option.map_eq_some_iff.1 Yx;simp only [Prod.mk.injEq] at h2;obtain ⟨hz, a0, _⟩ := h2;exact run_buildSlice (P := Tryz.prog) w 55 76 2 _ (trI tl2).toArray i _ Tryz.underlying55 hi hz (by rw [a0]; omega) (by rw [a0]; omega) (by rw [a0]; exact Yr)
 unfold execOp;simp only [ho];rw [show (Array.map (fun x : Nat × Operand => (x.1, ρ x.2)) #[(0, x), (1, y)]) = #[(0, .agg (tcI (1, tI)).toArray), (1, .agg (tcI (5, tI)).toArray)] by simp [hx, hy]];simp only [Sem.run_bind, hr, Result.andThen_ok];rfl
theorem a2o : Lim 3715 tS := ⟨by simp [tS], by simp [tS], by simp [tS], by omega, by simp [tS], by simp [tS], by simp [tS]⟩
theorem bokT : BlkOK tS := by
 have := Rw (s := sh0) (p := zeroP) C2 (fun b hb => by simp [sh0] at hb) ak;rw [tw1] at this;exact this
set_option maxRecDepth 100000 in
set_option maxHeartbeats 16000000 in
theorem y8 (w : World) (hT : RTab w) : Calls Tryz.prog 6 #[] w fun e w' => e = .returned (.bool true) ∧ Below w.heap.size w w' := by
 have bm := zH (S8 w hT);generalize hPost : (fun e w' => e = Ending.returned (.bool true) ∧ Below w.heap.size w w') = Post;have HP : Hid (∀ w', Below w.heap.size w w' → Post (.returned (.bool true)) w') := zH fun w' h => by rw [← hPost]; exact ⟨rfl, h⟩
 obtain ⟨th, tm, ag⟩ := tw3;have ai := zH ag;have ce := zH (ez kf);have cj := zH (ez zeroI_ok);have cm := zH (bh lg);have bo : Hid ((af tI).toArray.size = 44) := zH (by rw [List.size_toArray, am kf]);have ci : Hid ((af zeroI).toArray.size = 44) := zH (by rw [List.size_toArray, am zeroI_ok]);have cl : Hid ((a8 tqR).toArray.size = 41) := zH (by rw [List.size_toArray, aa lg]);clear hT hPost ag;go_enter Tryz.func6, Tryz.ntmps6
 go_upto_region 2 with fail
 refine (fun (k : ∀ W, Fr w w.heap.size sh0 [] W → Code.wp _ _ _ _ W) => k _ bm.out) ?_;intro W1 hW1;obtain ⟨D, hD⟩ : ∃ d, w.heap.size = d := ⟨_, rfl⟩;rw [hD] at hW1 ⊢;have bc := zH hW1;clear hW1 bm hD
 go_upto_region 3 with (first | (refine a9 rfl (R4 rfl rfl rfl) ?_) | (refine wpList_store_row rfl 68 (.tmp 2) (.tmp 14) rfl W1.heap.size (af tI).toArray rfl rfl 68 _ (heap_alloc_new W1 _) ce.out (by rw [bo.out]; rfl) (fk tI) ?_) | fail)
 refine (fun (k : ∀ W, Fr w D sh0 [(W1.heap.size, af tI, 68)] W → Code.wp _ _ _ _ W) => k _ (bc.out.add (ar W1 _ (af tI) 68).2 (Nat.le_refl _) (ar W1 _ (af tI) 68).1)) ?_;intro W2 hW2;obtain ⟨g2, bn⟩ : ∃ g, W1.heap.size = g := ⟨_, rfl⟩;rw [bn] at hW2 ⊢;have an := zH (hW2.at (g := g2) (cs := af tI) (t := 68) (by simp));have c5 := zH (hW2.add ((Below.refl _ _).alloc (Nat.le_refl _) (.cells (trI tl2).toArray 76)) (Nat.le_refl _) (Blk.new W2 (trI tl2) 76));have ad := Lc c5.out zeroP ak tl2 C2 (v := .slice (some ⟨W2.heap.size, 0, none⟩) 2 2) (lb := [(W2.heap.size, trI tl2, 76)]) (by simp [tl2]) ⟨by kernel_rfl, .inr ⟨W2.heap.size, 2, trI tl2, rfl, rfl, by simp [tl2], by unfold maxLen; simp, by kernel_rfl, by kernel_rfl⟩⟩ (fun y hy => by simp at hy; subst hy; simp) a2e (by omega) (fun b hb => by simp [sh0] at hb);rw [tw1] at ad;have ah := zH ad;clear hW2 bn bc ad c5
 go_wp2_with (first | (refine a9 rfl (bj rfl) ?_) | (refine a9 rfl (ew kf an.out rfl rfl) ?_) | (refine a9 rfl (ny (f := 1) kf rfl rfl rfl) ?_) | (refine a9 rfl (ny (f := 5) kf rfl rfl rfl) ?_) | (refine a9 rfl (Rv rfl rfl rfl) ?_) | fail)
 refine ah.out.mono ?_;rintro e W4 ⟨rfl, cb, -, -⟩;have b0 := zH cb;obtain ⟨gs, b8⟩ : ∃ g, W2.heap.size = g := ⟨_, rfl⟩;rw [b8] at b0 ⊢;clear cb ah an b8
 go_upto_region 4 with (first | (refine wpList_store_row rfl 28 (.tmp 3) (.tmp 25) rfl W4.heap.size (a8 tqR).toArray rfl rfl 28 _ (heap_alloc_new W4 _) cm.out (by rw [cl.out]; rfl) (bb tqR) ?_) | fail)
 refine (fun (k : ∀ W, Fr w D tS [(W4.heap.size, a8 tqR, 28), (gs, trI tl2, 76), (g2, af tI, 68)] W → Code.wp _ _ _ _ W) => k _ (b0.out.add (ar W4 _ (a8 tqR) 28).2 (Nat.le_refl _) (ar W4 _ (a8 tqR) 28).1)) ?_;intro W5 hW5;obtain ⟨g3, bk⟩ : ∃ g, W4.heap.size = g := ⟨_, rfl⟩;rw [bk] at hW5 ⊢;have ae := zH hW5.drew;clear bk b0;obtain ⟨L5, v5, h5, -⟩ := ae.out.call;obtain ⟨gm, a5, em, c3, b5⟩ := Yt h5.md.1 h5.okm (by show 0 < 4; omega);have c2 := h5.blk.cell (j := 2) rfl;rw [em] at c2;have c7 := zH (b5 0 tq0 rfl);have c0 := zH (b5 3 tqR rfl);have a4 := zH (ae.out.at (g := g3) (cs := a8 tqR) (t := 28) (by simp));have av : Hid (W5.drew.cell? ⟨D, 2, none⟩ = some (.slice (some ⟨gm, 0, none⟩) 4 a5)) := zH c2;have b6 : Hid (4 ≤ a5) := zH c3;clear h5 em c3 b5 c2 hW5;refine gS (.take 0 (.take 1 (.take 2 (.take 3 (.take 4 (.take 5 (.take 6 (.take 7 (.take 8 (.take 9 (.take 10 (.take 11 (.take 12 (.take 13 (.take 14 (.take 15 (.take 16 (.take 17 (.take 18 (.take 19 (.take 20 (.take 21 (.take 22 (.take 23 (.take 24 (.take 25 (.take 26 (.take 27 (.take 28 (.take 29 (.nil))))))))))))))))))))))))))))))) (fun X => X = W5.drew) (rfl) ?_;refine gT (.int .i64 0) ?_;refine gT (.bool false) ?_;refine gT (.bool false) ?_;refine gT (.pointer (some ⟨D, 0, none⟩)) ?_;refine gT (.pointer (some ⟨D, 0, none⟩)) ?_;refine gT (.pointer (some ⟨D, 2, none⟩)) ?_;refine gU (.slice (some ⟨gm, 0, none⟩) 4 a5) rfl (fun X hX => by subst hX; exact i9 rfl rfl av.out) ?_;refine gT (.int .i64 4) ?_;refine gT (.bool false) ?_;refine gT (.bool false) ?_;refine gT (.bool false) ?_;refine gT (.pointer (some ⟨D, 0, none⟩)) ?_;refine gT (.pointer (some ⟨D, 0, none⟩)) ?_;refine gT (.pointer (some ⟨D, 2, none⟩)) ?_;refine gU (.slice (some ⟨gm, 0, none⟩) 4 a5) rfl (fun X hX => by subst hX; exact i9 rfl rfl av.out) ?_;refine gU (.pointer (some ⟨gm, 0, none⟩)) rfl (fun X hX => K6 (k := 0) rfl rfl rfl ⟨by omega, b6.out⟩) ?_;refine gT (.pointer (some ⟨gm, 0, none⟩)) ?_;refine gU (.int .u8 4) rfl (fun X hX => by subst hX; exact az Tryz.underlying5 rfl rfl (c7.out 0 _ rfl)) ?_;refine gT (.bool false) ?_;refine gT (.bool false) ?_;refine gT (.bool false) ?_;refine gT (.pointer (some ⟨D, 0, none⟩)) ?_;refine gT (.pointer (some ⟨D, 0, none⟩)) ?_;refine gT (.pointer (some ⟨D, 2, none⟩)) ?_;refine gU (.slice (some ⟨gm, 0, none⟩) 4 a5) rfl (fun X hX => by subst hX; exact i9 rfl rfl av.out) ?_;refine gU (.pointer (some ⟨gm, 123, none⟩)) rfl (fun X hX => K6 (k := 3) rfl rfl rfl ⟨by omega, b6.out⟩) ?_;refine gU (.agg (a8 tqR).toArray) rfl (fun X hX => by subst hX; exact c6 (ty := 28) (cs := a8 tqR) rfl rfl c0.out Tryz.underlying28 rfl (by rw [dw, aa lg])) ?_;refine gU (.agg (a8 tqR).toArray) rfl (fun X hX => by subst hX; exact ax lg a4.out rfl rfl) ?_;refine gU (.bool false) rfl (fun X hX => (Ig (w := X) rfl rfl rfl lg lg).trans (by rw [br]; rfl)) ?_;refine gT (.bool false) ?_;refine au ?_;clear c7 c0 a4 av b6;obtain ⟨W6, bd⟩ : ∃ W, W5.drew = W := ⟨_, rfl⟩;rw [bd] at ae ⊢;clear bd;have a4 := zH (ae.out.at (g := g3) (cs := a8 tqR) (t := 28) (by simp));obtain ⟨al, cp, ab⟩ := ai.out.get (num := 5) rfl;have a0 := Dd ae.out tqR lg 5 (by omega) a2o (by omega) bokT
 obtain ⟨a1, a2⟩ : gtE tS tqR 5 = 0 ∧ gtN tS tqR 5 = tI := by
  rcases al with ⟨b1, b2⟩ | ⟨_, _, b3⟩
  ·rw [tw4] at b2
   exact ⟨b1, by injection b2⟩
  ·exact absurd rfl b3
 rw [a1, a2] at a0;obtain ⟨s7, ba⟩ : ∃ s7, gtS tS tqR 5 = s7 := ⟨_, rfl⟩;rw [ba] at a0 ab;have aq := zH ab.bl;have a3 := zH a0;clear a0 a1 a2 al ab ba
 go_wp2_with (first | (refine a9 rfl (ax lg a4.out rfl rfl) ?_) | fail)
 refine a3.out.mono ?_;rintro e W7 ⟨rfl, bg, cd⟩;have bi := zH bg; have bs := zH cd;clear bg cd a3 ae a4
 go_upto_region 7 with (first | (refine wpList_store_row rfl 68 (.tmp 5) (.tmp 62) rfl W7.heap.size (af tI).toArray rfl rfl 68 _ (heap_alloc_new W7 _) ce.out (by rw [bo.out]; rfl) (fk tI) ?_) | fail)
 refine (fun (k : ∀ W, Fr w D s7 [(W7.heap.size, af tI, 68), (g3, a8 tqR, 28), (gs, trI tl2, 76), (g2, af tI, 68)] W → Code.wp _ _ _ _ W) => k _ (bi.out.add (ar W7 _ (af tI) 68).2 (Nat.le_refl _) (ar W7 _ (af tI) 68).1)) ?_;intro W8 hW8;obtain ⟨g5, bv⟩ : ∃ g, W7.heap.size = g := ⟨_, rfl⟩;rw [bv] at hW8 ⊢;have ck := zH hW8;have a4 := zH (hW8.at (g := g3) (cs := a8 tqR) (t := 28) (by simp));have c9 : Hid (IsTab s7.blocks tqR tV th tm) := zH (by rw [aq.out.1]; exact ai.out);have aj : Hid (BlkOK s7) := zH (bokT.same aq.out);obtain ⟨al, cp, ab⟩ := c9.out.get (num := 2) rfl;have a0 := Dd hW8 tqR lg 2 (by omega) bs.out (by omega) aj.out
 obtain ⟨a1, a2⟩ : gtE s7 tqR 2 = 0 ∧ gtN s7 tqR 2 = zeroI := by
  rcases al with ⟨b1, b2⟩ | ⟨_, _, b3⟩
  ·rw [tw5] at b2
   exact ⟨b1, by injection b2⟩
  ·exact absurd aq.out.2 b3
 rw [a1, a2] at a0;obtain ⟨s9, bf⟩ : ∃ s9, gtS s7 tqR 2 = s9 := ⟨_, rfl⟩;rw [bf] at a0 ab;have aw := zH ab.bl;have a3 := zH a0;clear bv hW8 bi bs a0 a1 a2 al ab bf
 go_wp2_with (first | (refine a9 rfl (ax lg a4.out rfl rfl) ?_) | fail)
 refine a3.out.mono ?_;rintro e W9 ⟨rfl, bx, b7⟩;have b9 := zH bx; have c4 := zH b7;clear bx b7 a3 ck a4
 go_upto_region 8 with (first | (refine wpList_store_row rfl 68 (.tmp 7) (.tmp 69) rfl W9.heap.size (af zeroI).toArray rfl rfl 68 _ (heap_alloc_new W9 _) cj.out (by rw [ci.out]; rfl) (fk zeroI) ?_) | fail)
 refine (fun (k : ∀ W, Fr w D s9 [(W9.heap.size, af zeroI, 68), (g5, af tI, 68), (g3, a8 tqR, 28), (gs, trI tl2, 76), (g2, af tI, 68)] W → Code.wp _ _ _ _ W) => k _ (b9.out.add (ar W9 _ (af zeroI) 68).2 (Nat.le_refl _) (ar W9 _ (af zeroI) 68).1)) ?_;intro WA hWA;obtain ⟨g7, c8⟩ : ∃ g, W9.heap.size = g := ⟨_, rfl⟩;rw [c8] at hWA ⊢;have a4 := zH (hWA.at (g := g3) (cs := a8 tqR) (t := 28) (by simp));have bq : Hid (IsTab s9.blocks tqR tV th tm) := zH (by rw [aw.out.1]; exact c9.out);have a7 := Kn hWA bq.out (aw.out.2.trans aq.out.2) c4.out (by omega) (aj.out.same aw.out);rw [tw6, bq.out.blocks, tw7] at a7;have ao := zH a7;clear c8 hWA b9 c4 a7
 go_wp2_with (first | (refine a9 rfl (ax lg a4.out rfl rfl) ?_) | fail)
 refine ao.out.mono ?_;rintro e WB ⟨ov, nv, ob, nb, rs, sB, rfl, -, ay, -, bt, bp, -⟩
 obtain ⟨cf, b4, cn⟩ : ∃ sp cap, nv = .slice sp 4 cap := by
  rcases bp.2 with ⟨_, e, _⟩ | ⟨g, cap, cs, e, _⟩
  ·omega
  ·exact ⟨_, _, e⟩
 obtain ⟨go, a6, e1, bu, bz⟩ := OwnT.at (l := tl2) (ay.row bt (fun y hy => List.mem_append.2 (.inl hy))) C2 (by simp [tl2]);have e1 : ov = .slice (some ⟨go, 0, none⟩) 2 a6 := e1;subst cn e1;have ca := zH (bz 1 (5, tI) rfl);have ch : Hid (2 ≤ a6) := zH bu;have ap := zH ay;clear ao a4 bt bp bu bz ay
 go_upto_region 9 with fail
 obtain ⟨WE, c1⟩ : ∃ W, WB = W := ⟨_, rfl⟩;rw [c1] at ca ap ⊢;have an : Hid (Blk WE.drew g2 (af tI) 68) := zH (ap.out.drew.at (by simp));have co : Hid (Blk WE.drew g5 (af tI) 68) := zH (ap.out.drew.at (by simp));have cg : Hid (Blk WE.drew g7 (af zeroI) 68) := zH (ap.out.drew.at (by simp));have HE := zH (HP.out _ ap.out.drew.bel);clear c1 HP;refine gS (.take 0 (.take 1 (.take 2 (.take 3 (.take 4 (.take 5 (.take 6 (.take 7 (.take 8 (.take 9 (.take 10 (.take 11 (.take 12 (.take 13 (.take 14 (.take 15 (.take 16 (.take 17 (.take 18 (.take 19 (.take 20 (.take 21 (.take 22 (.take 23 (.take 24 (.take 25 (.take 26 (.take 27 (.take 28 (.take 29 (.take 30 (.take 31 (.take 32 (.take 33 (.take 34 (.take 35 (.take 36 (.take 37 (.take 38 (.nil)))))))))))))))))))))))))))))))))))))))) (fun X => X = WE.drew) (rfl) ?_;refine gT (.int .i64 0) ?_;refine gT (.bool true) ?_;refine gT (.bool true) ?_;refine gU (.agg (af tI).toArray) rfl (fun X hX => by subst hX; exact ew kf co.out rfl rfl) ?_;refine gU (.agg (af tI).toArray) rfl (fun X hX => by subst hX; exact ew kf an.out rfl rfl) ?_;refine gU (.bool true) rfl (fun X hX => (De (w := X) kf kf rfl rfl rfl).trans (by rw [nk])) ?_;refine gT (.bool true) ?_;refine gT (.bool true) ?_;refine gT (.int .i64 0) ?_;refine gT (.bool true) ?_;refine gT (.bool true) ?_;refine gT (.bool true) ?_;refine gU (.agg (af zeroI).toArray) rfl (fun X hX => by subst hX; exact ew zeroI_ok cg.out rfl rfl) ?_;refine gU (.agg (af zeroI).toArray) rfl (fun X hX => lu rfl) ?_;refine gU (.bool true) rfl (fun X hX => (De (w := X) zeroI_ok zeroI_ok rfl rfl rfl).trans (by rw [nk])) ?_;refine gT (.bool true) ?_;refine gT (.bool true) ?_;refine gT (.int .i64 0) ?_;refine gT (.bool true) ?_;refine gT (.bool true) ?_;refine gT (.bool true) ?_;refine gT (.slice (some ⟨go, 0, none⟩) 2 a6) ?_;refine gT (.int .i64 2) ?_;refine gT (.bool true) ?_;refine gT (.bool true) ?_;refine gT (.bool true) ?_;refine gT (.slice (some ⟨go, 0, none⟩) 2 a6) ?_;refine gU (.pointer (some ⟨go, 45, none⟩)) rfl (fun X hX => un (k := 1) rfl rfl rfl ⟨by omega, ch.out⟩) ?_;refine gU (.agg (tcI (5, tI)).toArray) rfl (fun X hX => by subst hX; exact c6 (ty := 76) (cs := tcI (5, tI)) rfl rfl ca.out Tryz.underlying76 rfl (by rw [wy, bw kf])) ?_;refine gU (.agg (af tI).toArray) rfl (fun X hX => by subst hX; exact ew kf an.out rfl rfl) ?_;refine gU (.agg (tcI (5, tI)).toArray) rfl (fun X hX => ny (f := 5) kf rfl rfl rfl) ?_;refine gU (.bool true) rfl (fun X hX => (Z9 (w := X) (x := (5, tI)) (y := (5, tI)) kf kf rfl rfl rfl).trans (by rw [nk]; rfl)) ?_;refine gT (.bool true) ?_;refine gT (.bool true) ?_;refine gT (.slice cf 4 b4) ?_;refine gT (.int .i64 4) ?_;refine gT (.bool true) ?_;refine gT (.bool true) ?_;refine gT (.bool true) ?_;refine au ?_
 go_wp2_with fail
 first | exact HE.out | (go_ret; exact HE.out)
end Go.Proofs.YtjgjohdeeeoeoaaGreatDoor
