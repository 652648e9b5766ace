/- Bytes, filled, as the reference reckons them. -/
import Derived.Test.YtlibdcgpjglcpaaDoorHRtk
namespace Go.Proofs.YtlibdcgpjglcpaaDoor
open Go.RowKit

theorem OwnB.alloc {w : World} {B : Nat} {v : Value} {l : List (BitVec 8)} (h : OwnB w B v l) (o : Obj) : OwnB (w.alloc o) B v l := World.ownsRow.alloc h o
/-- 'append(v, b...)', v the call's own. -/
theorem wpList_append_src {w : World} {ops : Array Oper} {rest : List Oper} {o : Oper} {a : Act} {Q : Exit → Act → World → Prop} (hgd : o.guard = none) (s x : Operand)
    (ho : o.op = .call { callee := .builtin .append, args := #[s, x], argTypes := #[29, 29] }) (B : Nat) (v : Value) (l1 : List (BitVec 8)) (hs : a.eval s = v) (hown : OwnB w B v l1) (sp : Option Addr) (n2 cap : Nat) (l2 : List (BitVec 8)) (hx : a.eval x = .slice sp n2 cap) (hn2 : l2.length = n2) (hz : sp = none → cap = 0) (hsrc : SrcA w sp l2)
    (hl : l1.length + n2 ≤ 1000000) (hB : B ≤ w.heap.size) (h : ∀ v' w', OwnB w' B v' (l1 ++ l2) → w.grownBy w' v.ownBlock → wpList Tryd.prog ops Q rest (a.put o.dst v') w') : wpList Tryd.prog ops Q (o :: rest) a w := by
  obtain ⟨i0, hi, hz0, hz1, hz2⟩ := info_parts infoB
  subst hn2
  by_cases hn : sp = none
  · subst hn
    have h0 : l2 = [] := by
      rcases Nat.eq_zero_or_pos l2.length with h0 | h0
      · exact List.eq_nil_of_length_eq_zero h0
      · obtain ⟨_, _, he, _⟩ := hsrc h0; cases he
    subst h0
    obtain rfl := hz rfl
    exact wpList_append_own_none hgd s x 29 ho B 5 i0 1 Tryd.underlying29 hi v l1.length (l1.map V8) hs hown hx (h _ _ (by rw [List.append_nil]; exact hown) ⟨rfl, rfl, rfl, Nat.le_refl _, fun _ _ _ => rfl⟩)
  · obtain ⟨ad, rfl⟩ := Option.ne_none_iff_exists'.1 hn
    refine wpList_append_own w hgd s x 29 ho B 5 i0 (.int .u8 0) 1 1 Tryd.underlying29 hi hz0 hz1 hz2 rfl (by omega) v l1.length (l1.map V8) hs hown ad l2.length cap (l2.map V8) hx (by simp) ?_ (one_v8 l2) (by unfold maxLen; omega) (by omega) hB ?_
    · intro j v hv
      have hj : 0 < l2.length := by
        have := (List.getElem?_eq_some_iff.1 hv).1
        simp at this; omega
      obtain ⟨g, o, he, hg, hcl⟩ := hsrc hj
      cases he
      exact src_cell hcl j v hv
    · intro v' w' hown' hg _
      refine h v' w' ?_ hg
      unfold OwnB
      rw [List.map_append, List.length_append]
      exact hown'
theorem src_one (w : World) (x : BitVec 8) : SrcA (w.alloc (.cells #[V8 x] 5)) (some ⟨w.heap.size, 0, none⟩) [x] := fun _ => by
  refine ⟨w.heap.size, 0, rfl, by simp, fun j hj => ?_⟩
  have : j = 0 := by simp at hj; omega
  subst this
  have h : Blk (w.alloc (.cells [V8 x].toArray 5)) w.heap.size [V8 x] 5 := Blk.new _ _ _
  exact h.cell (j := 0) rfl
theorem own_one (w : World) (x : BitVec 8) (B : Nat) (hB : B ≤ w.heap.size) : OwnB (w.alloc (.cells #[V8 x] 5)) B (.slice (some ⟨w.heap.size, 0, none⟩) 1 1) [x] := by
  have h : Blk (w.alloc (.cells [V8 x].toArray 5)) w.heap.size [V8 x] 5 := Blk.new _ _ _
  exact h.owns (n := 1) hB (Nat.le_refl _) (by unfold maxLen; simp)

/-- The last k bytes of a count of bits. -/
def tl (n : Nat) : Nat → List (BitVec 8)
  | 0 => []
  | k + 1 => lenb n (7 - k) :: tl n k
theorem tl_length (n k : Nat) : (tl n k).length = k := by induction k with | zero => rfl | succ k ih => simp [tl, ih]
theorem tl_8 (n : Nat) : tl n 8 = (List.range 8).map (lenb n) := rfl
theorem lenb_at (n k : Nat) (hk : k < 8) : lenb n (7 - k) = BitVec.ofNat 8 (8 * n / 2 ^ (8 * k)) := by
  unfold lenb
  rw [show 56 - 8 * (7 - k) = 8 * k by omega]
theorem wrap8 (x : Nat) : IntKind.u8.wrap ((x % 256 : Nat) : Int) = N8 (BitVec.ofNat 8 x) := by
  unfold N8
  rw [IntKind.wrap_u8', BitVec.toNat_ofNat]
  omega
theorem powStepR (n k : Nat) : 8 * n / 2 ^ (8 * k) / 256 = 8 * n / 2 ^ (8 * (k + 1)) := by
  rw [Nat.div_div_eq_div_mul, show 8 * (k + 1) = 8 * k + 8 by omega, Nat.pow_add]
theorem pow_le (n k : Nat) (hn : n ≤ 100000) : 8 * n / 2 ^ (8 * k) ≤ 800000 := Nat.le_trans (Nat.div_le_self _ _) (by omega)

def FlAt (bs : List (BitVec 8)) (w : World) (j m : Nat) (v : Value) (wr : World) : Prop :=
  (∃ sp1 cap1, v = .slice sp1 m cap1) ∧ OwnB wr w.heap.size v (bs ++ 128#8 :: List.replicate j 0#8) ∧ Below w.heap.size w wr
theorem flAt_mk {bs l : List (BitVec 8)} {w w1 w2 : World} {o : Obj} {v v' : Value} {j m : Nat} (h : OwnB w1 w.heap.size v l) (hb : Below w.heap.size w w1) (ho : OwnB w2 w.heap.size v' (bs ++ 128#8 :: List.replicate j 0#8)) (hg : (w1.alloc o).grownBy w2 v.ownBlock) (hm : bs.length + 1 + j = m) : FlAt bs w j m v' w2 := by
  refine ⟨?_, ho, (hb.alloc hb.size o).grown hg (by have := hb.size; simp; omega) (fun k hk => (h.lt k hk).1)⟩
  obtain ⟨sp1, cap1, rfl, _⟩ := OwnB.form ho
  exact ⟨sp1, cap1, by congr 1; simp; omega⟩

set_option maxRecDepth 100000 in
set_option maxHeartbeats 2000000 in
theorem filled_any (bs : List (BitVec 8)) (sp : Option Addr) (cap : Nat) (w : World) (hl : bs.length ≤ 100000) (hc : bs.length ≤ cap) (hz : sp = none → cap = 0) (hS : SrcA w sp bs) :
    Calls Tryd.prog 61 #[.slice sp bs.length cap] w fun e w' => ∃ v, e = .returned v ∧ OwnB w' w.heap.size v (bs ++ fill bs.length) ∧ Below w.heap.size w w' := by
  obtain ⟨L, hL⟩ : ∃ L, bs.length = L := ⟨_, rfl⟩
  have HL := Lib.hid hL
  have HS := Lib.hid hS
  have HZ := Lib.hid hz
  have HC := Lib.hid hc
  rw [hL] at hl ⊢
  clear hL hS hz hc
  obtain ⟨z, hzz⟩ : ∃ z, noughts L = z := ⟨_, rfl⟩
  have HNZ := Lib.hid hzz
  have hzl : z < 64 := by rw [← hzz]; exact noughts_lt L
  have HNZ2 : Hid (∀ j m q : Nat, j ≤ z → L + 1 + j = m → m % 64 = q → (q = 56 ↔ j = z)) := Lib.hid (by
    intro j m q hj hm hq
    unfold noughts at hzz
    omega)
  clear hzz
  go_enter Tryd.func61, Tryd.ntmps61
  go_wp2_with (first
    | (at_builtin; refine wpList_append_nil rfl _ (.tmp 7) rfl rfl sp cap bs (by rw [HL.out]; rfl) HC.out HZ.out HS.out (by rw [HL.out]; omega) ?_; intro v w1 hown hb _; have HO := Lib.hid hown; have HB := Lib.hid hb; clear hown hb)
    | (at_builtin; (refine wpList_append_src rfl (.tmp 9) (.tmp 10) rfl w.heap.size v bs rfl (HO.out.alloc _) (some ⟨w1.heap.size, 0, none⟩) 1 1 [128#8] rfl rfl (fun h => by cases h) (src_one w1 128#8) (by rw [HL.out]; omega) (by have := HB.out.size; simp; omega) ?_; intro v2 w2 ho hg; have HF0 : Hid (FlAt bs w 0 (L + 1) v2 w2) := Lib.hid (flAt_mk HO.out HB.out ho hg (by rw [HL.out])); clear ho hg HO HB))
    | fail)
  go_loopw [3] (fun v wr => ∃ j m : Nat, j ≤ z ∧ L + 1 + j = m ∧ FlAt bs w j m v wr) (fun v _ => L + 100 - lenOf v)
  case atStart => exact ⟨0, L + 1, by omega, rfl, HF0.out⟩
  case round =>
    clear HF0
    obtain ⟨j, m, hj, hm, ⟨sp1, cap1, rfl⟩, hO, hB⟩ := hrel
    have HO := Lib.hid hO
    have HB := Lib.hid hB
    clear hO hB
    obtain ⟨q, hq⟩ : ∃ q, m % 64 = q := ⟨_, rfl⟩
    have hiff := HNZ2.out j m q hj hm hq
    have m1 : (m : Int).tmod 64 = (q : Int) := by rw [Int.tmod_eq_emod_of_nonneg (by omega), ← hq]; simp
    have hm2 : m ≤ 100100 := by omega
    have HQ := Lib.hid hq
    have HM := Lib.hid hm
    clear hq hm
    by_cases hlt : j < z
    · have q1 : ¬ ((q : Int) = 56) := by omega
      have q2 : ((q : Int) == 56) = false := by rw [beq_eq_false_iff_ne]; omega
      clear hiff
      go_wp2_with (first
        | (at_builtin; refine wpList_append_src rfl (.tmp 16) (.tmp 17) rfl w.heap.size _ _ rfl (HO.out.alloc _) (some ⟨wr.heap.size, 0, none⟩) 1 1 [0#8] rfl rfl (fun h => by cases h) (src_one wr 0#8) (by have := HM.out; simp; rw [HL.out]; omega) (by have := HB.out.size; simp; omega) ?_; intro v2 w2 ho hg; have HN : Hid (FlAt bs w (j + 1) (m + 1) v2 w2) := Lib.hid (flAt_mk HO.out HB.out (by rw [List.append_assoc, List.cons_append, ← List.replicate_succ'] at ho; exact ho) hg (by have := HM.out; rw [HL.out]; omega)); clear ho hg HO HB)
        | fail)
      go_roundw
      case rel => exact ⟨j + 1, m + 1, by omega, by have := HM.out; omega, HN.out⟩
      case measure =>
        obtain ⟨⟨_, _, rfl⟩, _⟩ := HN.out
        have := HM.out
        simp [lenOf]; omega
    · obtain rfl : j = z := by omega
      obtain rfl : q = 56 := hiff.2 rfl
      have q2 : ((56 : Nat) : Int) == 56 := by decide
      clear hiff hlt hj
      obtain ⟨wz, rfl⟩ : ∃ W : World, W = wr := ⟨_, rfl⟩
      have x0 := IntWalk.u64_in (L : Int) (by omega)
      have x1 := IntWalk.u64_in ((L : Int) * 8) (by omega)
      go_wp2
      have hszw := HB.out.size
      go_loopw [4, 5, 6] (fun n t i wr5 => ∃ k x : Nat, k ≤ 8 ∧ i = .int .i64 k ∧ n = .int .u64 (x : Int) ∧ 8 * L / 2 ^ (8 * k) = x ∧ OwnB wr5 wz.heap.size t (tl L k) ∧ Below wz.heap.size wz wr5) (fun _ _ i _ => 8 - (intOf i).toNat)
      case atStart => exact ⟨0, L * 8, by omega, rfl, by simp, by simp; omega, World.ownsRow_nil _ _ _ _, Below.refl _ _⟩
      case round =>
        clear x0 x1
        obtain ⟨wo, rfl⟩ : ∃ W : World, W = wr := ⟨_, rfl⟩
        obtain ⟨k, x, hk, rfl, rfl, hx, hT, hb5⟩ := hrel
        obtain ⟨sp2, cap2, rfl, hc2, _, hs2, hz2, _⟩ := OwnB.form hT
        have hsz5 := hb5.size
        have hxl : x ≤ 800000 := by rw [← hx]; exact pow_le L k hl
        rw [tl_length] at hc2 ⊢
        have HX := Lib.hid hx; have HT := Lib.hid hT; have HB5 := Lib.hid hb5; have HS2 := Lib.hid hs2; have HZ2 := Lib.hid hz2
        clear hx hT hb5 hs2 hz2
        by_cases hlt : k < 8
        · obtain ⟨r, hr⟩ : ∃ r, x % 256 = r := ⟨_, rfl⟩
          obtain ⟨y, hy⟩ : ∃ y, x / 256 = y := ⟨_, rfl⟩
          obtain ⟨b, hb⟩ : ∃ b, BitVec.ofNat 8 x = b := ⟨_, rfl⟩
          have r1 : (x : Int).tmod 256 = (r : Int) := by rw [Int.tmod_eq_emod_of_nonneg (by omega), ← hr]; simp
          have r2 : IntKind.u8.wrap (r : Int) = N8 b := by rw [← hr, ← hb]; exact wrap8 x
          have d1 : (x : Int).tdiv 256 = (y : Int) := by rw [Int.tdiv_eq_ediv_of_nonneg (by omega), ← hy]; simp
          have hyl : y ≤ 800000 := by omega
          have d2 := IntWalk.u64_in (y : Int) (by omega)
          have d3 : (y : Int) % 18446744073709551616 = (y : Int) := by omega
          have HLB : Hid (lenb L (7 - k) = b) := Lib.hid (by rw [lenb_at L k hlt, HX.out, hb])
          have HY : Hid (8 * L / 2 ^ (8 * (k + 1)) = y) := Lib.hid (by rw [← powStepR, HX.out, hy])
          clear hr hb hy
          go_wp2_with (first
            | (at_builtin; refine wpList_append_src rfl (.tmp 30) (.tmp 31) rfl wz.heap.size _ [b] rfl (own_one wo b _ hsz5) sp2 k cap2 (tl L k) rfl (tl_length _ _) HZ2.out (HS2.out.grown ((Below.refl _ _).alloc (Nat.le_refl _) _)) (by simp; omega) (by simp; omega) ?_; intro v3 w3 ho hg; have HN : Hid (OwnB w3 wz.heap.size v3 (tl L (k + 1)) ∧ Below wz.heap.size wz w3) := Lib.hid ⟨by rw [tl, HLB.out]; exact ho, (HB5.out.alloc hsz5 _).grown hg (by simp; omega) (fun j hj => by cases hj; exact hsz5)⟩; clear ho hg)
            | fail)
          go_roundw
          case rel => exact ⟨k + 1, y, by omega, by go_num, rfl, HY.out, HN.out.1, HN.out.2⟩
          case measure => simp [intOf]; omega
        · obtain rfl : k = 8 := by omega
          have HOB : Hid (OwnB wo w.heap.size (.slice sp1 m cap1) (bs ++ 128#8 :: List.replicate j 0#8)) := Lib.hid (HO.out.below HB5.out (Nat.le_refl _))
          have HW5 : Hid (Below w.heap.size w wo) := Lib.hid (HB.out.trans (HB5.out.mono hszw))
          have hwsz := HW5.out.size
          go_wp2_with (first
            | (at_builtin; refine wpList_append_src rfl (.tmp 35) (.tmp 36) rfl w.heap.size _ _ rfl HOB.out sp2 8 cap2 (tl L 8) rfl (tl_length _ _) HZ2.out HS2.out (by have := HM.out; simp; rw [HL.out]; omega) hwsz ?_; intro v3 w3 ho hg; have HN := Lib.hid ho; have HG := Lib.hid hg; clear ho hg)
            | fail)
          go_ret
          refine ⟨_, rfl, ?_, HW5.out.grown HG.out hwsz (fun j hj => (HOB.out.lt j hj).1)⟩
          have e : bs ++ fill L = (bs ++ 128#8 :: List.replicate j 0#8) ++ tl L 8 := by
            unfold fill fillK fillHead
            rw [HNZ.out, tl_8, List.append_assoc]
          rw [e]; exact HN.out
end Go.Proofs.YtlibdcgpjglcpaaDoor
