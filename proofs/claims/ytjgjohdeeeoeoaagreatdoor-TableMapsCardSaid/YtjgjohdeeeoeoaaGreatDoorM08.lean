/- Bytes, filled, as the reference reckons them. -/
import Derived.Test.YtjgjohdeeeoeoaaGreatDoorM07
import Derived.Test.YtjgjohdeeeoeoaaGreatDoorM05
import Derived.Test.YtjgjohdeeeoeoaaGreatDoorM06
import Derived.ChangeKeysEq
set_option linter.all false
namespace Go.Proofs.YtjgjohdeeeoeoaaGreatDoor
open Go.RowKit
variable {l : List (BitVec 8)} {ms ns : List Pt} {j k : Nat} {p q : Pt} {t : TypeId} {v : Value} {w : World}
theorem OwnB.alloc {B : Nat} (h : OwnB w B v l) (o : Obj) : OwnB (w.alloc o) B v l := World.ownsRow.alloc h o
theorem gj {ops : Array Oper} {rest : List Oper} {o : Oper} {a : Act} {Q : Exit → Act → World → Prop} (hgd : o.guard = none) (s x : Operand)
  (ho : o.op = .call { callee := .builtin .append, args := #[s, x], argTypes := #[29, 29] }) (B : Nat) (v : Value) (l1 : List (BitVec 8)) (hs : a.eval s = v) (hown : OwnB w B v l1) (sp : Option Addr) (n2 cap : Nat) (l2 : List (BitVec 8)) (hx : a.eval x = .slice sp n2 cap) (hn2 : l2.length = n2) (hz : sp = none → cap = 0) (hsrc : SrcA w sp l2)
  (hl : l1.length + n2 ≤ 1000000) (hB : B ≤ w.heap.size) (h : ∀ v' w', OwnB w' B v' (l1 ++ l2) → w.grownBy w' v.ownBlock → wpList Tryz.prog ops Q rest (a.put o.dst v') w') : wpList Tryz.prog ops Q (o :: rest) a w := by
 obtain ⟨i0, hi, a1, a2, a3⟩ := info_parts po;subst hn2;by_cases hn : sp = none
 ·subst hn
  have h0 : l2 = [] := by
   rcases Nat.eq_zero_or_pos l2.length with h0 | h0
   ·exact List.eq_nil_of_length_eq_zero h0
   ·obtain ⟨_, _, he, _⟩ := hsrc h0; cases he
  subst h0;obtain rfl := hz rfl;exact wpList_append_own_none hgd s x 29 ho B 5 i0 1 Tryz.underlying29 hi v l1.length (l1.map V8) hs hown hx (h _ _ (by rw [List.append_nil]; exact hown) ⟨rfl, rfl, rfl, Nat.le_refl _, fun _ _ _ => rfl⟩)
 ·obtain ⟨ad, rfl⟩ := Option.ne_none_iff_exists'.1 hn
  refine wpList_append_own w hgd s x 29 ho B 5 i0 (.int .u8 0) 1 1 Tryz.underlying29 hi a1 a2 a3 rfl (by omega) v l1.length (l1.map V8) hs hown ad l2.length cap (l2.map V8) hx (by simp) ?_ (lp l2) (by unfold maxLen; omega) (by omega) hB ?_
  ·intro j v hv
   have hj : 0 < l2.length := by
    have := (List.getElem?_eq_some_iff.1 hv).1;simp at this; omega
   obtain ⟨g, o, he, hg, a0⟩ := hsrc hj;cases he;exact nu a0 j v hv
  ·intro v' w' hown' hg _
   refine h v' w' ?_ hg;unfold OwnB;rw [List.map_append, List.length_append];exact hown'
theorem M4 (w : World) (x : BitVec 8) : SrcA (w.alloc (.cells #[V8 x] 5)) (some ⟨w.heap.size, 0, none⟩) [x] := fun _ => by
 refine ⟨w.heap.size, 0, rfl, by simp, fun j hj => ?_⟩;have : j = 0 := by simp at hj; omega
 subst this;have h : Blk (w.alloc (.cells [V8 x].toArray 5)) w.heap.size [V8 x] 5 := Blk.new _ _ _;exact h.cell (j := 0) rfl
theorem Yl (w : World) (x : BitVec 8) (B : Nat) (hB : B ≤ w.heap.size) : OwnB (w.alloc (.cells #[V8 x] 5)) B (.slice (some ⟨w.heap.size, 0, none⟩) 1 1) [x] := by
 have h : Blk (w.alloc (.cells [V8 x].toArray 5)) w.heap.size [V8 x] 5 := Blk.new _ _ _;exact h.owns (n := 1) hB (Nat.le_refl _) (by unfold maxLen; simp)
def tl (n : Nat) : Nat → List (BitVec 8)
 | 0 => []
 | k + 1 => P1 n (7 - k) :: tl n k
theorem xl (n k : Nat) : (tl n k).length = k := by induction k with | zero => rfl | succ k ih => simp [tl, ih]
theorem a2n (n : Nat) : tl n 8 = (List.range 8).map (P1 n) := rfl
theorem Y7 (n k : Nat) (hk : k < 8) : P1 n (7 - k) = BitVec.ofNat 8 (8 * n / 2 ^ (8 * k)) := by
 unfold P1;rw [show 56 - 8 * (7 - k) = 8 * k by omega]
theorem a2h (x : Nat) : IntKind.u8.wrap ((x % 256 : Nat) : Int) = N8 (BitVec.ofNat 8 x) := by
 unfold N8;rw [IntKind.wrap_u8', BitVec.toNat_ofNat];omega
theorem Ud (n k : Nat) : 8 * n / 2 ^ (8 * k) / 256 = 8 * n / 2 ^ (8 * (k + 1)) := by
 rw [Nat.div_div_eq_div_mul, show 8 * (k + 1) = 8 * k + 8 by omega, Nat.pow_add]
theorem a1c (n k : Nat) (hn : n ≤ 100000) : 8 * n / 2 ^ (8 * k) ≤ 800000 := Nat.le_trans (Nat.div_le_self _ _) (by omega)
def Wb (bs : List (BitVec 8)) (w : World) (j m : Nat) (v : Value) (wr : World) : Prop :=
 (∃ sp1 cap1, v = .slice sp1 m cap1) ∧ OwnB wr w.heap.size v (bs ++ 128#8 :: List.replicate j 0#8) ∧ Below w.heap.size w wr
theorem Kw {bs : List (BitVec 8)} {w1 w2 : World} {o : Obj} {v' : Value} {m : Nat} (h : OwnB w1 w.heap.size v l) (hb : Below w.heap.size w w1) (ho : OwnB w2 w.heap.size v' (bs ++ 128#8 :: List.replicate j 0#8)) (hg : (w1.alloc o).grownBy w2 v.ownBlock) (hm : bs.length + 1 + j = m) : Wb bs w j m v' w2 := by
 refine ⟨?_, ho, (hb.alloc hb.size o).grown hg (by have := hb.size; simp; omega) (fun k hk => (h.lt k hk).1)⟩;obtain ⟨a1, a0, rfl, _⟩ := OwnB.form ho;exact ⟨a1, a0, by congr 1; simp; omega⟩
set_option maxRecDepth 100000 in
set_option maxHeartbeats 2000000 in
theorem Ho (bs : List (BitVec 8)) (sp : Option Addr) (cap : Nat) (w : World) (hl : bs.length ≤ 100000) (hc : bs.length ≤ cap) (hz : sp = none → cap = 0) (hS : SrcA w sp bs) :
  Calls Tryz.prog 155 #[.slice sp bs.length cap] w fun e w' => ∃ v, e = .returned v ∧ OwnB w' w.heap.size v (bs ++ fill bs.length) ∧ Below w.heap.size w w' := by
 obtain ⟨L, hL⟩ : ∃ L, bs.length = L := ⟨_, rfl⟩;have HL := zH hL;have HS := zH hS;have HZ := zH hz;have HC := zH hc;rw [hL] at hl ⊢;clear hL hS hz hc;obtain ⟨z, a4⟩ : ∃ z, si L = z := ⟨_, rfl⟩;have ak := zH a4;have aq : z < 64 := by rw [← a4]; exact zy L
 have a6 : Hid (∀ j m q : Nat, j ≤ z → L + 1 + j = m → m % 64 = q → (q = 56 ↔ j = z)) := zH (by
  intro j m q hj hm hq;unfold si at a4
  omega)
 clear a4;go_enter Tryz.func155, Tryz.ntmps155
 go_wp2_with (first
  | (at_builtin; refine mi rfl _ (.tmp 7) rfl rfl sp cap bs (by rw [HL.out]; rfl) HC.out HZ.out HS.out (by rw [HL.out]; omega) ?_; intro v w1 hown hb _; have HO := zH hown; have HB := zH hb; clear hown hb)
  | (at_builtin; (refine gj rfl (.tmp 9) (.tmp 10) rfl w.heap.size v bs rfl (HO.out.alloc _) (some ⟨w1.heap.size, 0, none⟩) 1 1 [128#8] rfl rfl (fun h => by cases h) (M4 w1 128#8) (by rw [HL.out]; omega) (by have := HB.out.size; simp; omega) ?_; intro v2 w2 ho hg; have aa : Hid (Wb bs w 0 (L + 1) v2 w2) := zH (Kw HO.out HB.out ho hg (by rw [HL.out])); clear ho hg HO HB))
  | fail)
 go_loopw [3] (fun v wr => ∃ j m : Nat, j ≤ z ∧ L + 1 + j = m ∧ Wb bs w j m v wr) (fun v _ => L + 100 - Zu v)
 case atStart => exact ⟨0, L + 1, by omega, rfl, aa.out⟩
 case round =>
  clear aa;obtain ⟨j, m, hj, hm, ⟨am, a7, rfl⟩, hO, hB⟩ := hrel;have HO := zH hO;have HB := zH hB;clear hO hB;obtain ⟨q, hq⟩ : ∃ q, m % 64 = q := ⟨_, rfl⟩;have a0 := a6.out j m q hj hm hq;have m1 : (m : Int).tmod 64 = (q : Int) := (by rw [Int.tmod_eq_emod_of_nonneg (by omega), ← hq]; simp);have an : m ≤ 100100 := (by omega);have HQ := zH hq;have HM := zH hm;clear hq hm;by_cases hlt : j < z
  ·have q1 : ¬ ((q : Int) = 56) := by omega
   have q2 : ((q : Int) == 56) = false := (by rw [beq_eq_false_iff_ne]; omega);clear a0
   go_wp2_with (first
    | (at_builtin; refine gj rfl (.tmp 16) (.tmp 17) rfl w.heap.size _ _ rfl (HO.out.alloc _) (some ⟨wr.heap.size, 0, none⟩) 1 1 [0#8] rfl rfl (fun h => by cases h) (M4 wr 0#8) (by have := HM.out; simp; rw [HL.out]; omega) (by have := HB.out.size; simp; omega) ?_; intro v2 w2 ho hg; have HN : Hid (Wb bs w (j + 1) (m + 1) v2 w2) := zH (Kw HO.out HB.out (by rw [List.append_assoc, List.cons_append, ← List.replicate_succ'] at ho; exact ho) hg (by have := HM.out; rw [HL.out]; omega)); clear ho hg HO HB)
    | fail)
   go_roundw
   case rel => exact ⟨j + 1, m + 1, by omega, by have := HM.out; omega, HN.out⟩
   case measure =>
    obtain ⟨⟨_, _, rfl⟩, _⟩ := HN.out;have := HM.out;simp [Zu]; omega
  ·obtain rfl : j = z := by omega
   obtain rfl : q = 56 := a0.2 rfl;have q2 : ((56 : Nat) : Int) == 56 := (by decide);clear a0 hlt hj;obtain ⟨wz, rfl⟩ : ∃ W : World, W = wr := ⟨_, rfl⟩;have x0 := IntWalk.u64_in (L : Int) (by omega);have x1 := IntWalk.u64_in ((L : Int) * 8) (by omega)
   go_wp2
   have a9 := HB.out.size;go_loopw [4, 5, 6] (fun n t i wr5 => ∃ k x : Nat, k ≤ 8 ∧ i = .int .i64 k ∧ n = .int .u64 (x : Int) ∧ 8 * L / 2 ^ (8 * k) = x ∧ OwnB wr5 wz.heap.size t (tl L k) ∧ Below wz.heap.size wz wr5) (fun _ _ i _ => 8 - (intOf i).toNat)
   case atStart => exact ⟨0, L * 8, by omega, rfl, by simp, by simp; omega, World.ownsRow_nil _ _ _ _, Below.refl _ _⟩
   case round =>
    clear x0 x1;obtain ⟨wo, rfl⟩ : ∃ W : World, W = wr := ⟨_, rfl⟩;obtain ⟨k, x, hk, rfl, rfl, hx, hT, a8⟩ := hrel;obtain ⟨ai, a2, rfl, al, _, ag, ah, _⟩ := OwnB.form hT;have a1 := a8.size;have ao : x ≤ 800000 := (by rw [← hx]; exact a1c L k hl);rw [xl] at al ⊢;have HX := zH hx; have HT := zH hT; have a5 := zH a8; have ad := zH ag; have af := zH ah;clear hx hT a8 ag ah;by_cases hlt : k < 8
    ·obtain ⟨r, hr⟩ : ∃ r, x % 256 = r := ⟨_, rfl⟩
     obtain ⟨y, hy⟩ : ∃ y, x / 256 = y := ⟨_, rfl⟩;obtain ⟨b, hb⟩ : ∃ b, BitVec.ofNat 8 x = b := ⟨_, rfl⟩;have r1 : (x : Int).tmod 256 = (r : Int) := (by rw [Int.tmod_eq_emod_of_nonneg (by omega), ← hr]; simp);have r2 : IntKind.u8.wrap (r : Int) = N8 b := (by rw [← hr, ← hb]; exact a2h x);have d1 : (x : Int).tdiv 256 = (y : Int) := (by rw [Int.tdiv_eq_ediv_of_nonneg (by omega), ← hy]; simp);have ap : y ≤ 800000 := (by omega);have d2 := IntWalk.u64_in (y : Int) (by omega);have d3 : (y : Int) % 18446744073709551616 = (y : Int) := (by omega);have aj : Hid (P1 L (7 - k) = b) := zH (by rw [Y7 L k hlt, HX.out, hb]);have HY : Hid (8 * L / 2 ^ (8 * (k + 1)) = y) := zH (by rw [← Ud, HX.out, hy]);clear hr hb hy
     go_wp2_with (first
      | (at_builtin; refine gj rfl (.tmp 30) (.tmp 31) rfl wz.heap.size _ [b] rfl (Yl wo b _ a1) ai k a2 (tl L k) rfl (xl _ _) af.out (ad.out.grown ((Below.refl _ _).alloc (Nat.le_refl _) _)) (by simp; omega) (by simp; omega) ?_; intro v3 w3 ho hg; have HN : Hid (OwnB w3 wz.heap.size v3 (tl L (k + 1)) ∧ Below wz.heap.size wz w3) := zH ⟨by rw [tl, aj.out]; exact ho, (a5.out.alloc a1 _).grown hg (by simp; omega) (fun j hj => by cases hj; exact a1)⟩; clear ho hg)
      | fail)
     go_roundw
     case rel => exact ⟨k + 1, y, by omega, by go_num, rfl, HY.out, HN.out.1, HN.out.2⟩
     case measure => simp [intOf]; omega
    ·obtain rfl : k = 8 := by omega
     have ab : Hid (OwnB wo w.heap.size (.slice am m a7) (bs ++ 128#8 :: List.replicate j 0#8)) := zH (HO.out.below a5.out (Nat.le_refl _));have ae : Hid (Below w.heap.size w wo) := zH (HB.out.trans (a5.out.mono a9));have a3 := ae.out.size
     go_wp2_with (first
      | (at_builtin; refine gj rfl (.tmp 35) (.tmp 36) rfl w.heap.size _ _ rfl ab.out ai 8 a2 (tl L 8) rfl (xl _ _) af.out ad.out (by have := HM.out; simp; rw [HL.out]; omega) a3 ?_; intro v3 w3 ho hg; have HN := zH ho; have HG := zH hg; clear ho hg)
      | fail)
     go_ret;refine ⟨_, rfl, ?_, ae.out.grown HG.out a3 (fun j hj => (ab.out.lt j hj).1)⟩
     have e : bs ++ fill L = (bs ++ 128#8 :: List.replicate j 0#8) ++ tl L 8 := by
      unfold fill Kv zg;rw [ak.out, a2n, List.append_assoc]
     rw [e]; exact HN.out
def Zq (w W : World) : Prop := Blk W w.heap.size (List.replicate 32 Z8) 25 ∧ Words (w.heap.size + 1) 0 H0.list W ∧ Below w.heap.size w W ∧ W.heap.size = w.heap.size + 2
theorem G9 (w : World) (z xs : Array Value) (hz : z = (List.replicate 32 Z8).toArray) (hx : xs = (H0.list.map V32).toArray) : Zq w ((w.alloc (.cells z 25)).alloc (.cells xs 24)) := by
 subst hz;refine ⟨(Blk.new _ _ _).alloc _, ?_, ((Below.refl _ _).alloc (Nat.le_refl _) _).alloc (by simp) _, by simp⟩;have h := C0 (w := w.alloc (.cells (List.replicate 32 Z8).toArray 25)) hx
 rwa [World.size_alloc] at h
theorem Si (m : List (BitVec 8)) : (m ++ fill m.length).length % 64 = 0 := by
 unfold fill;rw [List.length_append, oi];unfold si;omega
theorem Cf (m : List (BitVec 8)) (k : Nat) (h : 64 * k + 64 ≤ m.length) : (Bb m k).length = 64 := by unfold Bb; simp; omega
theorem Mm (m : List (BitVec 8)) (k j : Nat) (hj : j < 64) : (Bb m k).getD j 0 = m.getD (64 * k + j) 0 := by
 unfold Bb;simp [List.getD_eq_getElem?_getD, hj]
theorem a0e (y : BitVec 32) : (N32 y).tdiv (256 : Int) % (4294967296 : Int) = N32 (y >>> 8) := by
 have h0 := lm y;have h1 := Ts y;have h2 := a00 y 8;rw [← h2, Int.tdiv_eq_ediv_of_nonneg h0];omega
theorem Y9 (y : BitVec 32) (r : Nat) (hr : y.toNat % 256 = r) : IntKind.u8.wrap (r : Int) = N8 (lo8 y) := by
 rw [← a13];unfold N32;rw [IntKind.wrap_u8', IntKind.wrap_u8'];omega
theorem Dc (l : List (BitVec 32)) (i : Nat) (hi : i < 4 * l.length) : (bt l).getD i 0 = lo8 (l.getD (i / 4) 0 >>> (24 - 8 * (i % 4))) := by
 have hs := B0 l (i / 4) (by omega)
 have hp : ∀ n, n ≤ l.length → (bt l).take (4 * n) = bt (l.take n) := by
  intro n hn
  conv => lhs; rw [← List.take_append_drop n l]
  unfold bt;rw [List.flatMap_append, List.take_append_of_le_length (by have := cg (l.take n); unfold bt at this; rw [this]; simp; omega), List.take_of_length_le (by have := cg (l.take n); unfold bt at this; rw [this]; simp; omega)]
 have h1 : (bt l)[i]? = ((bt l).take (4 * (i / 4 + 1)))[i]? := by rw [List.getElem?_take, if_pos (by omega)]
 have a0 : (bt (l.take (i / 4))).length = 4 * (i / 4) := by rw [cg]; simp; omega
 rw [List.getD_eq_getElem?_getD, h1, hp _ (by omega), hs, List.getElem?_append_right (by omega), a0];have h3 : i - 4 * (i / 4) = i % 4 := by omega
 rw [h3];simp [wbs, wb, show i % 4 < 4 by omega]
theorem Vj (s : St) : s.list.length = 8 := rfl
structure SmAt (m : List (BitVec 8)) (w2 : World) (k : Nat) (v : Value) (wr : World) : Prop where
 h : ∃ gs cs, v = .slice (some ⟨gs, 0, none⟩) 8 cs ∧ gs < wr.heap.size ∧ Words gs 0 (z5 k m).list wr
 b : Below w2.heap.size w2 wr
def Qn (l : List (BitVec 32)) (G : Nat) (wz : World) (i : Nat) (wr : World) : Prop :=
 Blk wr G (((bt l).take i).map V8 ++ List.replicate (32 - i) Z8) 25 ∧ Below wz.heap.size wz wr
theorem Im (l : List (BitVec 32)) (wo : World) (z : Array Value) (hz : z = (List.replicate 32 Z8).toArray) : Qn l wo.heap.size wo 0 (wo.alloc (.cells z 25)) := by
 subst hz;refine ⟨?_, (Below.refl _ _).alloc (Nat.le_refl _) _⟩;simp only [List.take_zero, List.map_nil, List.nil_append, Nat.sub_zero];exact Blk.new _ _ _
theorem Pf {l : List (BitVec 32)} {wo wr : World} (h : Qn l wo.heap.size wo j wr) (hl : l.length = 8) (hj : j < 32) (b : BitVec 8) (hb : (bt l).getD j 0 = b) : Qn l wo.heap.size wo (j + 1) (wr.setCell ⟨wo.heap.size, j, none⟩ (V8 b)) := by
 obtain ⟨h1, h2⟩ := h;have a0 := cg l;refine ⟨?_, h2.setCell (Nat.le_refl _) _⟩;have := h1.set j (V8 b);rw [Pz (((bt l).take j).map V8) (32 - j) (32 - (j + 1)) Z8 (V8 b) j (by simp; omega) (by omega)] at this;rw [List.take_succ_eq_append_getElem (by omega), List.map_append, List.map_singleton];have e : (bt l)[j]'(by omega) = b := by rw [← hb]; simp [List.getD_eq_getElem?_getD, show j < (bt l).length by omega]
 rw [e]; exact this
set_option maxRecDepth 100000 in
set_option maxHeartbeats 1000000 in
theorem Is (bs : List (BitVec 8)) (sp : Option Addr) (cap : Nat) (w : World) (hl : bs.length ≤ 5000) (hc : bs.length ≤ cap) (hz : sp = none → cap = 0) (hS : SrcA w sp bs) :
  Calls Tryz.prog 154 #[.slice sp bs.length cap] w fun e w' => e = .returned (.agg ((od bs).map V8).toArray) ∧ Below w.heap.size w w' := by
 obtain ⟨L, hL⟩ : ∃ L, bs.length = L := ⟨_, rfl⟩;have HL := zH hL;have HS := zH hS;have HZ := zH hz;have HC := zH hc;rw [hL] at hl ⊢;clear hL hS hz hc;go_enter Tryz.func154, Tryz.ntmps154
 go_wp2_with fail
 refine (fun (k : ∀ W1, Zq w W1 → Calls Tryz.prog 155 _ W1 _) => k _ (G9 w _ _ rfl rfl)) ?_;intro W1 hst;have hf := Ho bs sp cap W1 (by rw [HL.out]; omega) HC.out HZ.out (HS.out.below hst.2.2.1 (Nat.le_refl _));rw [HL.out] at hf;refine hf.mono ?_;rintro e w2 ⟨vf, rfl, ad, a5⟩;obtain ⟨m, hm⟩ : ∃ m, bs ++ fill L = m := ⟨_, rfl⟩;have a1 := Si bs;rw [HL.out, hm] at a1;have aw : m.length ≤ 6000 := by rw [← hm]; unfold fill; rw [List.length_append, oi, HL.out]; have := zy L; omega
 have a7 : 0 < m.length := by rw [← hm]; unfold fill; rw [List.length_append, oi]; omega
 have HM : Hid (∃ _ : Unit, bs ++ fill L = m) := zH ⟨(), hm⟩;rw [hm] at ad;obtain ⟨M, hM⟩ : ∃ M, m.length = M := ⟨_, rfl⟩;obtain ⟨n, hn⟩ : ∃ n, M = 64 * n := ⟨M / 64, by omega⟩;obtain ⟨ba, cf, rfl, al, ab, ax, _, _⟩ := OwnB.form ad;obtain ⟨gf, of, rfl, av, a0⟩ := ax a7;rw [hM] at al aw a1 a7 a0 ⊢;have ai := zH hM;have a4 := zH a0;have ao : Hid (Below w.heap.size w w2) := zH (hst.2.2.1.trans (a5.mono (by have := hst.2.2.2; omega)));have ah : Hid (Blk w2 w.heap.size (List.replicate 32 Z8) 25) := zH (hst.1.below a5 (by have := hst.2.2.2; omega));have ag : Hid (SmAt m w2 0 (.slice (some ⟨w.heap.size + 1, 0, none⟩) 8 8) w2) := zH ⟨⟨_, _, rfl, by have := hst.2.2.2; have := a5.size; omega, hst.2.1.below a5 (by have := hst.2.2.2; omega)⟩, Below.refl _ _⟩;have az : w.heap.size < w2.heap.size := ah.out.lt;have b3 : Hid (W1.heap.size = w.heap.size + 2) := zH hst.2.2.2;have ay : w.heap.size + 1 = w.heap.size + 1 := rfl;have a9 := zH hn;have b5 : 0 < M := a7;clear hf ad hm hM a0 hst a5 ay a1 hn a7;unfold maxLen at ab
 go_wp2
 go_loopw [3, 5] (fun v at0 wr => ∃ k a : Nat, k ≤ n ∧ a = 64 * k ∧ at0 = .int .i64 a ∧ SmAt m w2 k v wr) (fun _ at0 _ => M - (intOf at0).toNat)
 case atStart => exact ⟨0, 0, by omega, rfl, rfl, ag.out⟩
 case round =>
  clear ag;obtain ⟨k, a, hk, ha, rfl, ⟨gs, cs, rfl, am, an⟩, hb⟩ := hrel;obtain ⟨wo, rfl⟩ : ∃ W : World, W = wr := ⟨_, rfl⟩;have aa := zH an;have HB := zH hb;have ae := hb.size;have a3 := zH ha;clear an hb ha;by_cases hlt : k < n
  ·have ar : a + 64 ≤ M := by have h1 := a3.out; have h2 := a9.out; omega
   obtain ⟨b2, s1, s2, s3⟩ := Q2 (some ⟨gf, of, none⟩) M cf a 64 ar al;have e2 : b2 = some ⟨gf, of + a, none⟩ := (by rw [s2 (by omega)]; simp [Addr.add_mid]);subst e2;have b1 : ∀ W : World, (Instr.sliceAt 29 (.slice (some ⟨gf, of, none⟩) M cf) (some (.int .i64 (a : Int))) (some (.int .i64 ((a : Int) + 64))) none).run Tryz.prog W = .ok (.slice (some ⟨gf, of + a, none⟩) 64 (cf - a)) W := s1;have b4 := IntWalk.i64_in ((a : Int) + 64) (by omega);have g1 : (a : Int) < (M : Int) := (by omega);clear s1 s2 s3
   go_wp2_with fail
   have ht := Vi (z5 k m) (Bb m k) (Cf m k (by rw [ai.out]; have h1 := a3.out; omega)) gs 0 cs gf (of + a) (cf - a) wo am aa.out (by omega) (fun j hj => by
    rw [Mm m k j hj, ← a3.out, Nat.add_assoc of a j]
    exact (HB.out.cell (p := ⟨gf, of + (a + j), none⟩) av).trans (a4.out (a + j) (by omega)))
   refine ht.mono ?_;rintro e w3 ⟨v3, rfl, a8⟩
   have HN : Hid (SmAt m w2 (k + 1) v3 w3) := zH (by
    obtain ⟨g3, c3, rfl, _, _, au⟩ := uq a8.1 (by rw [Vj]; omega)
    exact ⟨⟨g3, c3, rfl, au, da a8.1⟩, HB.out.trans (a8.2.mono ae)⟩)
   clear a8 ht b1
   go_wp2
   go_roundw
   case rel => exact ⟨k + 1, a + 64, by omega, by have h1 := a3.out; omega, by go_num, HN.out⟩
   case measure => simp [intOf]; omega
  ·obtain rfl : k = n := by omega
   have g1 : ¬ ((a : Int) < (M : Int)) := (by have h1 := a3.out; have h2 := a9.out; omega);obtain ⟨l, a6⟩ : ∃ l, (z5 k m).list = l := ⟨_, rfl⟩;have a2 : l.length = 8 := (by rw [← a6]; rfl)
   have HD : Hid (∃ _ : Unit, od bs = bt l) := zH ⟨(), by
    obtain ⟨_, hm⟩ := HM.out;unfold od full
    rw [HL.out, hm, ai.out, a9.out, show 64 * k / 64 = k by omega, a6]⟩
   have HW : Hid (Words gs 0 l wo) := zH (by rw [← a6]; exact aa.out);clear a6 aa HM
   go_wp2
   refine (fun (k : ∀ W1, Qn l wo.heap.size wo 0 W1 → Code.wp _ _ _ _ W1) => k _ (Im l wo _ rfl)) ?_;intro W5 ho0;have aj := zH ho0;clear ho0 g1;go_loopw [7] (fun i wr => ∃ k : Nat, k ≤ 32 ∧ i = .int .i64 k ∧ Qn l wo.heap.size wo k wr) (fun i _ => 32 - (intOf i).toNat)
   case atStart => exact ⟨0, by omega, rfl, aj.out⟩
   case round =>
    clear aj;obtain ⟨j, hj, rfl, hO⟩ := hrel;have HO := zH hO;by_cases hlt : j < 32
    ·obtain ⟨q, hq⟩ : ∃ q, j / 4 = q := ⟨_, rfl⟩
     obtain ⟨r, hr⟩ : ∃ r, j % 4 = r := ⟨_, rfl⟩;have t1 : (j : Int).tdiv 4 = (q : Int) := (by rw [Int.tdiv_eq_ediv_of_nonneg (by omega), ← hq]; simp);have t2 : (j : Int).tmod 4 = (r : Int) := (by rw [Int.tmod_eq_emod_of_nonneg (by omega), ← hr]; simp);have b8 : q < 8 := (by omega);have b9 : r < 4 := (by omega);have t3 := IntWalk.i64_in (q : Int) (by omega);obtain ⟨x0, af⟩ : ∃ x, l.getD q 0 = x := ⟨_, rfl⟩
     have cx : wr.cell? ⟨gs, q, none⟩ = some (V32 x0) := by
      have h := (HW.out.below hO.2 am) q (by omega);rw [Nat.zero_add, af] at h; exact h
     have HX : Hid (∃ _ : Unit, (bt l).getD j 0 = lo8 (x0 >>> (24 - 8 * r))) := zH ⟨(), by rw [Dc l j (by omega), hq, hr, af]⟩;obtain ⟨vc, cw⟩ := hO.1.has j (by simp [cg, a2]; omega);have fw := hO.1.free j;have hG : wo.heap.size < wr.heap.size := hO.1.lt;have qj : (j : Int) < 32 := (by omega);clear hq hr af hO
     go_wp2
     go_loop [8, 9] (fun x kk => ∃ i : Nat, r ≤ i ∧ i ≤ 3 ∧ kk = .int .i64 i ∧ x = V32 (x0 >>> (8 * (i - r)))) (fun _ kk => 3 - (intOf kk).toNat)
     case atStart => exact ⟨r, Nat.le_refl _, by omega, rfl, by simp⟩
     case round =>
      obtain ⟨i, b6, b7, rfl, rfl⟩ := hrel;obtain ⟨y, hy⟩ : ∃ y, x0 >>> (8 * (i - r)) = y := ⟨_, rfl⟩;rw [hy];have HY : Hid (∃ _ : Unit, x0 >>> (8 * (i - r)) = y) := zH ⟨(), hy⟩;clear hy;have b0 := lm y;by_cases hli : i < 3
      ·have hd := a0e y
       go_wp2
       go_round
       case rel =>
        refine ⟨i + 1, by omega, by omega, by go_num, ?_⟩;obtain ⟨_, hy⟩ := HY.out;have e : x0 >>> (8 * (i + 1 - r)) = y >>> 8 := (by rw [show 8 * (i + 1 - r) = 8 * (i - r) + 8 by omega, BitVec.shiftRight_add, hy]);rw [e]
        first | rfl | rw [hd]
       case measure => simp [intOf]; omega
      ·obtain rfl : i = 3 := by omega
       obtain ⟨b, hb⟩ : ∃ b, lo8 y = b := ⟨_, rfl⟩;obtain ⟨p, hp⟩ : ∃ p, y.toNat % 256 = p := ⟨_, rfl⟩;have p1 : (N32 y).tmod 256 = (p : Int) := (by rw [Int.tmod_eq_emod_of_nonneg b0, ← hp]; unfold N32; simp);have p2 : N32 y % 256 = (p : Int) := (by rw [← hp]; unfold N32; simp);have p3 := Y9 y p hp;rw [hb] at p3
       have ap : Hid (∃ _ : Unit, (bt l).getD j 0 = b) := zH ⟨(), by
        obtain ⟨_, h1⟩ := HX.out;obtain ⟨_, hy⟩ := HY.out
        rw [h1, ← hb, ← hy, show 8 * (3 - r) = 24 - 8 * r by omega]⟩
       clear hb hp hli
       go_wp2
       go_roundw
       case rel =>
        obtain ⟨_, h1⟩ := ap.out;exact ⟨j + 1, by omega, by go_num, Pf HO.out a2 hlt b h1⟩
       case measure => simp [intOf]; omega
    ·obtain rfl : j = 32 := by omega
     have h1 : Blk wr wo.heap.size ((bt l).map V8) 25 := by
      have h := hO.1;rw [List.take_of_length_le (by rw [cg]; omega)] at h;simpa using h
     have H1 := zH h1;have ak : Hid (Blk wr w.heap.size (List.replicate 32 Z8) 25) := zH ((ah.out.below HB.out az).below hO.2 (by omega));have aq : Hid (Below w.heap.size w wr) := zH ((ao.out.trans (HB.out.mono (by omega))).trans (hO.2.mono (by omega)));clear h1 hO hlt hj
     go_wp2_with (first
      | (refine wpList_load_row rfl 25 (.tmp 6) rfl wo.heap.size rfl 25 _ _ _ H1.out Tryz.underlying25 rfl (Iy l a2) ?_)
      | (refine wpList_store_row rfl 25 (.tmp 2) (.tmp 48) rfl w.heap.size _ rfl rfl 25 _ ak.out (Iy l a2) (by simp [cg, a2]) (A0 V8 (fun _ => rfl) _) ?_)
      | fail)
     obtain ⟨_, hd⟩ := HD.out;exact bodyPost_ret (results_cell_row Tryz.results154 _ _ w.heap.size 25 _ _ _ rfl (ak.out.row _) Tryz.underlying25 rfl (Iy l a2)) rfl ⟨by rw [hd], cz aq.out (Nat.le_refl _) _⟩
theorem bb (p : Pt) : (a8 p).toArray.all (·.oneCell') = true := by
 rw [Array.all_eq_true_iff_forall_mem];intro v hv;simp only [a8, i5, List.mem_toArray, List.mem_cons, List.mem_append, List.mem_map, List.not_mem_nil, or_false] at hv;rcases hv with (rfl | rfl | rfl | rfl | rfl) | ⟨x, _, rfl⟩ | ⟨x, _, rfl⟩ <;> rfl
theorem bh (hp : p.OK) : (Tryz.prog.info? 28).map (·.size) = some (a8 p).toArray.size := by rw [dw]; simp [aa hp]
theorem Yo (hp : p.OK) (h : Bs) (hh : h.length = 32) : (a8 p).take 5 ++ h.map V8 ++ (a8 p).drop (5 + (h.map V8).length) = a8 { p with hash := h } := by
 have e : a8 p = i5 p ++ (p.hash.map V8 ++ p.ats.map U16) := rfl;rw [e, List.take_left' (by rfl), show 5 + (h.map V8).length = 5 + 32 by simp [hh], ← List.drop_drop, List.drop_left' (by rfl), List.drop_left' (by simp [hp.hash])];simp [a8, i5]
def ah (ns : List Pt) : List Value := ns.flatMap a8
structure NOK (ns : List Pt) : Prop where
 len : ns.length = 8
 ok : ∀ p ∈ ns, p.OK
theorem mr : ∀ {ns : List Pt}, (∀ p ∈ ns, p.OK) → (ah ns).length = 41 * ns.length
 | [], _ => rfl
 | p :: ns, h => by
  have ih := mr (ns := ns) (fun q hq => h q (by simp [hq]));have h1 := aa (h p (by simp));simp only [ah, List.flatMap_cons, List.length_append, List.length_cons] at *;omega
theorem NOK.cells (h : NOK ns) : (ah ns).length = 328 := by rw [mr h.ok, h.len]
theorem NOK.size (h : NOK ns) : (ah ns).toArray.size = 328 := by rw [List.size_toArray, h.cells]
theorem NOK.at (h : NOK ns) (hk : ns[k]? = some p) : p.OK := h.ok p (List.mem_of_getElem? hk)
theorem NOK.get (h : NOK ns) (hk : k < 8) : ∃ p, ns[k]? = some p := ⟨_, List.getElem?_eq_getElem (by rw [h.len]; exact hk)⟩
theorem t7 (a b : List Pt) : ah (a ++ b) = ah a ++ ah b := by simp [ah]
theorem xy (p : Pt) (b : List Pt) : ah (p :: b) = a8 p ++ ah b := by simp [ah]
theorem Vb {α : Type} {l : List α} {x : α} (h : l[k]? = some x) : l = l.take k ++ (x :: l.drop (k + 1)) := by
 obtain ⟨hk, e⟩ := List.getElem?_eq_some_iff.1 h;rw [← e, ← List.drop_eq_getElem_cons hk, List.take_append_drop]
theorem ox (h : ∀ p ∈ ns, p.OK) (hk : ns[k]? = some p) : ah ns = ah (ns.take k) ++ (a8 p ++ ah (ns.drop (k + 1))) ∧ (ah (ns.take k)).length = 41 * k := by
 obtain ⟨hl, _⟩ := List.getElem?_eq_some_iff.1 hk;constructor
 ·conv => lhs; rw [Vb hk]
  rw [t7, xy]
 ·rw [mr (fun q hq => h q (List.mem_of_mem_take hq)), List.length_take, Nat.min_eq_left (Nat.le_of_lt hl)]
theorem a1f {α : Type} {l : List α} (h : k < l.length) (x : α) : l.set k x = l.take k ++ (x :: l.drop (k + 1)) := by
 rw [List.set_eq_take_append_cons_drop, if_pos h]
theorem Ib (h : ∀ p ∈ ns, p.OK) (hk : k < ns.length) (hq : q.OK) : splice (ah ns) (41 * k) (a8 q) = ah (ns.set k q) := by
 obtain ⟨p, hp⟩ : ∃ p, ns[k]? = some p := ⟨_, List.getElem?_eq_getElem hk⟩;obtain ⟨e, hl⟩ := ox h hp;have a0 := h p (List.mem_of_getElem? hp);unfold splice;rw [e, List.take_left' hl, ← List.drop_drop, List.drop_left' hl, List.drop_left' (by rw [aa hq, aa a0]), a1f hk, t7, xy]
theorem NOK.set (h : NOK ns) (k : Nat) (hq : q.OK) : NOK (ns.set k q) :=
 ⟨by rw [List.length_set, h.len], fun p hp => by
  rcases List.mem_or_eq_of_mem_set hp with h1 | h1
  ·exact h.ok p h1
  ·rw [h1]; exact hq⟩
def holes : List Pt := List.replicate 8 zeroP
theorem holes_ok : NOK holes := ⟨rfl, fun p hp => by rw [List.eq_of_mem_replicate hp]; exact ak⟩
theorem gz (h : ∀ p ∈ ns, p.OK) : (ah ns).toArray.all (·.oneCell') = true := by
 rw [Array.all_eq_true_iff_forall_mem];intro v hv;simp only [List.mem_toArray, ah, List.mem_flatMap] at hv;obtain ⟨p, _, hp⟩ := hv;exact Array.all_eq_true_iff_forall_mem.1 (bb p) v (by simpa using hp)
theorem Do : (Tryz.prog.info? 170).map (·.size) = some 328 := by kernel_rfl
theorem mg (h : NOK ns) : (Tryz.prog.info? 170).map (·.size) = some (ah ns).toArray.size := by rw [h.size]; exact Do
instance decPt : DecidableEq Pt := fun _ _ => decidable_of_iff _ rj
theorem A4 (xs : Array Value) (off : Nat) (W : World) : (Go.part 28 xs off).run Tryz.prog W = .ok (.agg (xs.extract off (off + 41))) W := by
 obtain ⟨i, h1, h2⟩ := Option.map_eq_some_iff.1 dw;have a1 : (sizeOf 28).run Tryz.prog W = .ok 41 W := by simp [sizeOf, typeInfo, h1, h2]
 have a0 : (isAgg 28).run Tryz.prog W = .ok true W := by
  unfold isAgg;rw [Sem.run_bind, run_underlying Tryz.underlying28 W]; rfl
 unfold Go.part;simp only [Sem.run_bind, a0, Result.andThen_ok, a1, if_true];rfl
theorem Cu (h : ∀ p ∈ ns, p.OK) (hk : ns[k]? = some p) : (ah ns).toArray.extract (k * 41) (k * 41 + 41) = (a8 p).toArray := by
 obtain ⟨e, hl⟩ := ox h hk;apply Array.toList_inj.1;rw [Array.toList_extract, List.extract_eq_take_drop];simp only;rw [e, show k * 41 = 41 * k by omega, List.drop_left' hl, show 41 * k + 41 - 41 * k = 41 by omega, List.take_left' (aa (h p (List.mem_of_getElem? hk)))]
theorem E9 : Tryz.prog.cellsOf 28 = 41 := by kernel_rfl
theorem Di (hu : Tryz.prog.underlying t = some (.array 8 28)) (h : NOK ns) (hk : ns[k]? = some p) (W : World) : (Instr.index t (.agg (ah ns).toArray) (.int .i64 (k : Int))).run Tryz.prog W = .ok (.agg (a8 p).toArray) W := by
 obtain ⟨i, h1, h2⟩ := Option.map_eq_some_iff.1 dw;have a1 : (sizeOf 28).run Tryz.prog W = .ok 41 W := by simp [sizeOf, typeInfo, h1, h2]
 obtain ⟨hl, _⟩ := List.getElem?_eq_some_iff.1 hk;rw [h.len] at hl;have h0 : (0 : Int) ≤ k := by omega
 have a0 : (k : Int) < (8 : Nat) := by omega
 have hx := Cu h.ok hk;unfold Instr.index;simp only [asIntOf, Sem.run_bind, Sem.run_pure, Result.andThen_ok, run_underlying hu W];rw [if_pos ⟨h0, a0⟩];simp only [Sem.run_bind, a1, Result.andThen_ok, A4, Int.toNat_natCast, hx]
theorem N5 (h : ns.length = 8) (h' : ms.length = 8) : ((List.range 8).all fun j => eqP (ns.getD j zeroP) (ms.getD j zeroP)) = decide (ns = ms) := by
 rw [Bool.eq_iff_iff, List.all_eq_true, decide_eq_true_iff];constructor
 ·intro H
  apply List.ext_getElem (by rw [h, h']);intro j h1 h2;have := rj.1 (H j (List.mem_range.2 (by omega)));simpa [List.getD_eq_getElem?_getD, h1, h2] using this
 ·rintro rfl j _
  exact br _
theorem Us (d : Nat) (hp : p.OK) (hq : q.OK) (W : World) : (Op.equalIn (d + 3) 28 (.agg (a8 p).toArray) (.agg (a8 q).toArray)).run Tryz.prog W = .ok (eqP p q) W := by
 rw [run_equalIn_struct W (d + 2) 28 _ _ (by kernel_rfl) (by kernel_rfl)]
 have e : eqP p q = (((Tryz.prog.fieldsOf 28).toList.map fun f => (f.type, f.offset)).all (Mq p q)) := by
  rw [rz];simp [Mq, eqP, Bool.and_assoc]
 rw [e];refine fi _ _ _ W _ _ (fun f hm => ⟨?_, ?_⟩)
 ·have := List.all_eq_true.1 Ia f hm
  simpa using this
 have h1 : (f.type, f.offset) ∈ (Tryz.prog.fieldsOf 28).toList.map (fun f => (f.type, f.offset)) := List.mem_map.2 ⟨f, hm, rfl⟩;rw [rz] at h1;simp only [List.mem_cons, Prod.mk.injEq, List.not_mem_nil, or_false] at h1
 have hi : ∀ (t : TypeId) (k : IntKind) (a b : Nat), Tryz.prog.underlying t = some (.int k) → (Op.equalIn (d + 2) t (.int k (a : Int)) (.int k (b : Int))).run Tryz.prog W = .ok (decide (a = b)) W := fun t k a b ht => by
  rw [run_equalIn_int W (d + 1) t k k _ _ ht];refine congrArg (fun b => Result.ok b W) ?_;rw [Bool.eq_iff_iff];simp;omega
 rcases h1 with ⟨e1, e2⟩ | ⟨e1, e2⟩ | ⟨e1, e2⟩ | ⟨e1, e2⟩ | ⟨e1, e2⟩ | ⟨e1, e2⟩ | ⟨e1, e2⟩ <;> rw [e1, e2]
 ·exact ⟨_, _, ay Tryz.underlying5 (v := .int .u8 (p.kind : Int)) rfl W, ay Tryz.underlying5 (v := .int .u8 (q.kind : Int)) rfl W, hi _ _ _ _ Tryz.underlying5⟩
 ·exact ⟨_, _, ay Tryz.underlying5 (v := .int .u8 (p.level : Int)) rfl W, ay Tryz.underlying5 (v := .int .u8 (q.level : Int)) rfl W, hi _ _ _ _ Tryz.underlying5⟩
 ·exact ⟨_, _, ay Tryz.underlying23 (v := .int .u16 (p.obj : Int)) rfl W, ay Tryz.underlying23 (v := .int .u16 (q.obj : Int)) rfl W, hi _ _ _ _ Tryz.underlying23⟩
 ·exact ⟨_, _, ay Tryz.underlying24 (v := .int .u32 (p.off : Int)) rfl W, ay Tryz.underlying24 (v := .int .u32 (q.off : Int)) rfl W, hi _ _ _ _ Tryz.underlying24⟩
 ·exact ⟨_, _, ay Tryz.underlying22 (v := .int .u64 (p.birth : Int)) rfl W, ay Tryz.underlying22 (v := .int .u64 (q.birth : Int)) rfl W, hi _ _ _ _ Tryz.underlying22⟩
 ·refine ⟨_, _, fq Tryz.underlying25 p5 _ _ W, fq Tryz.underlying25 p5 _ _ W, ?_⟩
  rw [nc hp, nc hq];exact Cj hp.hash hq.hash d W
 ·refine ⟨_, _, fq Tryz.underlying26 js _ _ W, fq Tryz.underlying26 js _ _ W, ?_⟩
  rw [ry hp, ry hq];exact Ci hp.len hq.len d W
theorem Z0 (hu : Tryz.prog.underlying t = some (.array 8 28)) (h : NOK ns) (h' : NOK ms) (W : World) : (Op.equalIn 10000 t (.agg (ah ns).toArray) (.agg (ah ms).toArray)).run Tryz.prog W = .ok (decide (ns = ms)) W := by
 obtain ⟨i, h1, h2⟩ := Option.map_eq_some_iff.1 dw;rw [run_equalIn_array W 9999 _ _ hu h1, ← N5 h.len h'.len];refine m0 _ _ _ _ _ W _ _ (fun j hj => ?_);have a0 : j < 8 := List.mem_range.1 hj;obtain ⟨p, hp⟩ := h.get a0;obtain ⟨q, hq⟩ := h'.get a0;refine ⟨.agg (a8 p).toArray, .agg (a8 q).toArray, ?_, ?_, ?_⟩
 ·rw [A4, E9, Cu h.ok hp]
 ·rw [A4, E9, Cu h'.ok hq]
 ·rw [List.getD_eq_getElem?_getD, List.getD_eq_getElem?_getD, hp, hq]
  exact Us 9996 (h.at hp) (h'.at hq) W
end Go.Proofs.YtjgjohdeeeoeoaaGreatDoor
