/- The law's leaves. -/
import Derived.Test.YtfcjeceoedfldaaDoorM31
import Derived.Test.YtfcjeceoedfldaaDoorM30
import Derived.Test.YtfcjeceoedfldaaDoorM14
import Derived.Deep.Slices
namespace Go.Proofs.YtfcjeceoedfldaaDoor
open Go.RowKit

attribute [local go_sem] Oper.semAt_some

theorem tl_skipV {ops : Array Oper} {rest : List Oper} {o : Oper} {a : Act} {Q : Exit → Act → World → Prop} {w : World} {u : Value} (hu : u = undef) (hw : Region.wanted o (yielded ops a.tmps) = false)
    (hK : wpList Tryd.prog ops Q rest (a.put o.dst u) w) : wpList Tryd.prog ops Q (o :: rest) a w := by subst hu; exact tl_skip hw hK
section
variable {ρ : Operand → Value} {o : Oper} {x y : Operand} {w : World}
theorem ex_ldBy {ad : Addr} {v : Value} (ho : o.op = .load 41 x) (hx : ρ x = .pointer (some ad)) (hc : w.cell? ad = some v) : (execOp ρ o).run Tryd.prog w = .ok (.value v) w := by
  unfold execOp; simp only [ho]; go_simp
theorem ex_ldBo {ad : Addr} {v : Value} (ho : o.op = .load 4 x) (hx : ρ x = .pointer (some ad)) (hc : w.cell? ad = some v) : (execOp ρ o).run Tryd.prog w = .ok (.value v) w := by
  unfold execOp; simp only [ho]; go_simp
theorem ex_iaBy {g o' n cap k : Nat} (ho : o.op = .indexAddr 41 x y) (hx : ρ x = .slice (some ⟨g, o', none⟩) n cap) (hy : ρ y = .int .i64 (k : Int)) (hk : k < n ∧ n ≤ cap) :
    (execOp ρ o).run Tryd.prog w = .ok (.value (.pointer (some ⟨g, o' + k, none⟩))) w := by
  have h1 : ¬ n ≤ k := by omega
  unfold execOp
  simp only [ho]
  go_simp
theorem ex_cv8i {b : BitVec 8} (ho : o.op = .convert 5 3 x) (hx : ρ x = V8 b) : (execOp ρ o).run Tryd.prog w = .ok (.value (.int .i64 (b.toNat : Int))) w := by
  have e : IntKind.i64.wrap (b.toNat : Int) = (b.toNat : Int) := IntWalk.i64_in _ (by have := b.isLt; omega)
  unfold execOp
  simp only [ho]
  rw [hx]
  simp only [V8, N8]
  go_simp
theorem ex_rem64 {n : Nat} (hn : n < 256) (ho : o.op = .binOp .rem 3 x (.const (.int .i64 64)) 3) (hc : ρ (.const (.int .i64 64)) = .int .i64 64) (hx : ρ x = .int .i64 (n : Int)) : (execOp ρ o).run Tryd.prog w = .ok (.value (.int .i64 ((n % 64 : Nat) : Int))) w := by
  unfold execOp
  simp only [ho, hx, hc]
  simp [go_sem]
  exact Int.tmod_eq_emod_of_nonneg (by omega)
theorem ex_shrU {a : Int} {k : Nat} {t : TypeId} (hk : k < 64) (ho : o.op = .binOp .shr 33 x y t) (hx : ρ x = .int .u64 a) (hy : ρ y = .int .i64 (k : Int)) : (execOp ρ o).run Tryd.prog w = .ok (.value (.int .u64 (a / 2 ^ k))) w := by
  have h := shift_shr_u64 (x := a) (yk := .i64) (y := (k : Int)) (by omega) (by omega)
  unfold execOp
  simp only [ho, hx, hy]
  simp only [go_sem, h]
  go_simp
theorem ex_andU {a : Int} {t : TypeId} (ho : o.op = .binOp .and 33 x y t) (hx : ρ x = .int .u64 a) (hy : ρ y = .int .u64 1) : (execOp ρ o).run Tryd.prog w = .ok (.value (.int .u64 (bits .and .u64 a 1))) w := by
  unfold execOp
  simp only [ho, hx, hy]
  go_simp
end
/-- Leaves as the law makes them: rising, below k; each pointer new, a hole, or what was there. -/
structure LvL (n : Nat) (h : List Pt) (k : Nat) (ls : List Lf) : Prop where
  asc : ls.Pairwise (fun a b => a.1 < b.1)
  lt : ∀ x ∈ ls, x.1 < k
  at_ : ∀ x ∈ ls, x.2 = zeroP ∨ x.2 = leafP (n + 1) x.1 ∨ h[x.1]? = some x.2
  len : ls.length ≤ k
theorem LvL.mono {n : Nat} {h : List Pt} {k : Nat} {ls : List Lf} (l : LvL n h k ls) : LvL n h (k + 1) ls := ⟨l.asc, fun x hx => Nat.lt_succ_of_lt (l.lt x hx), l.at_, Nat.le_succ_of_le l.len⟩
theorem LvL.snoc {n : Nat} {h : List Pt} {k : Nat} {ls : List Lf} (l : LvL n h k ls) {p : Pt} (hp : p = zeroP ∨ p = leafP (n + 1) k ∨ h[k]? = some p) : LvL n h (k + 1) (ls ++ [(k, p)]) := by
  refine ⟨?_, fun x hx => ?_, fun x hx => ?_, by rw [List.length_append]; have := l.len; simp; omega⟩
  · rw [List.pairwise_append]
    refine ⟨l.asc, List.pairwise_singleton _ _, fun a ha b hb => ?_⟩
    rw [List.mem_singleton] at hb
    subst hb
    exact l.lt a ha
  · rcases List.mem_append.1 hx with hx | hx
    · exact Nat.lt_succ_of_lt (l.lt x hx)
    · rw [List.mem_singleton] at hx; subst hx; exact Nat.lt_succ_self _
  · rcases List.mem_append.1 hx with hx | hx
    · exact l.at_ x hx
    · rw [List.mem_singleton] at hx; subst hx; exact hp
/-- What stands while leaves goes on. -/
structure LvS (w : World) (acs : List Value) (ov : Value) (ls : List Lf) (X : World) : Prop where
  bel : Below w.heap.size w X
  box : Blk X w.heap.size acs 43
  out : OwnL X (w.heap.size + 1) ov ls
theorem LvS.below {w : World} {acs : List Value} {ov : Value} {ls : List Lf} {X Y : World} (h : LvS w acs ov ls X) (hb : Below X.heap.size X Y) : LvS w acs ov ls Y :=
  ⟨h.bel.trans (hb.mono h.bel.size), h.box.below hb h.box.lt, owns_chg h.out (Chg.of_below (F := fun _ => False) hb) (fun _ _ h => h)⟩
/-- A leaf is appended. -/
theorem LvS.app {w : World} {acs : List Value} {ov : Value} {ls : List Lf} {X Y : World} (h : LvS w acs ov ls X) {x : Lf} (hx : x.2.OK) (hl : ls.length < 1000000) {g : Nat} {t : TypeId} (hb : Below X.heap.size X Y) (hg : Blk Y g (lcells x) t) (ty : TypeId) :
    ∃ v' w', (Builtin.append_ #[39, 39] ty #[ov, .slice (some ⟨g, 0, none⟩) 1 1]).run Tryd.prog Y = .ok v' w' ∧ LvS w acs v' (ls ++ [x]) w' := by
  have h' := h.below hb
  have hsz := h'.box.lt
  obtain ⟨v', w', hr, ho, hgr, _⟩ := ownL_app h'.out (by omega) hl hx hg ty
  refine ⟨v', w', hr, ?_, ?_, ho⟩
  · refine ⟨hgr.os.trans h'.bel.os, hgr.tape.trans h'.bel.tape, hgr.output.trans h'.bel.output, Nat.le_trans h'.bel.size hgr.size, fun k hk => ?_⟩
    rw [hgr.block k (Nat.lt_of_lt_of_le hk h'.bel.size) (fun e => by have := (h'.out.lt k e.symm).1; omega)]
    exact h'.bel.block k hk
  · unfold Blk
    rw [hgr.block _ hsz (fun e => by have := (h'.out.lt _ e.symm).1; omega)]
    exact h'.box
theorem LvS.row {w : World} {acs : List Value} {ov : Value} {ls : List Lf} {X : World} (h : LvS w acs ov ls X) {g : Nat} (hne : ov.ownBlock ≠ some g) (hA : w.heap.size < g) (c : Array Value) : LvS w acs ov ls (X.setRow g c) :=
  ⟨below_row h.bel (by omega) c, h.box.rowOther (by omega) c, owns_chg h.out (chgR X g c) (fun g' hg e => hne (by rw [hg]; exact congrArg some e))⟩
def LvPost (w : World) (n : Nat) (h : List Pt) (e : Ending) (Y : World) : Prop := ∃ ov ls, e = .returned ov ∧ Below w.heap.size w Y ∧ OwnL Y w.heap.size ov ls ∧ LvL n h 64 ls
theorem own_base {X : World} {B B' : Nat} {v : Value} {l : List Lf} (h : OwnL X B v l) (hB : B' ≤ B) : OwnL X B' v l := by
  obtain ⟨h1, h2⟩ := h
  refine ⟨h1, ?_⟩
  rcases h2 with h2 | ⟨g, cap, cur, e, hb, h3⟩
  · exact .inl h2
  · exact .inr ⟨g, cap, cur, e, by omega, h3⟩
set_option maxRecDepth 100000 in
set_option maxHeartbeats 16000000 in
theorem leaves_go (offs : List (BitVec 8)) (spo : Option Addr) (no co : Nat) (hno : offs.length = no ∧ no ≤ co) (hco : no < 1000000) (H : Int) (sm : Bool) (n : Nat) (hn : n < 1000) (h : List Pt) (hl : h.length = 64) (hok : ∀ p ∈ h, p.OK) (gh ch : Nat) (hch : 64 ≤ ch) (w : World) (hS : SrcA w spo offs) (hv : SrcM w (.slice (some ⟨gh, 0, none⟩) 64 ch) h) :
    Calls Tryd.prog 7 #[.agg #[.slice spo no co, .int .u64 H, .bool sm], .int .i64 (n : Int), .slice (some ⟨gh, 0, none⟩) 64 ch] w (LvPost w n h) := by
  have HNO := Lib.hid hno; have HCO := Lib.hid hco; have HN := Lib.hid hn; have HL := Lib.hid hl; have HOK := Lib.hid hok; have HCH := Lib.hid hch; have HSO := Lib.hid hS; have HV := Lib.hid hv
  obtain ⟨acs, hacs⟩ : ∃ a : List Value, [Value.slice spo no co, Value.int .u64 H, Value.bool sm] = a := ⟨_, rfl⟩
  have hb0 : Below w.heap.size w (w.alloc (.cells acs.toArray 43)) := (Below.refl _ _).alloc (Nat.le_refl _) _
  have HS0 : Hid (LvS w acs (.slice none 0 0) [] (w.alloc (.cells acs.toArray 43))) := Lib.hid ⟨hb0, Blk.new _ _ _, World.ownsRow_nil _ _ _ _⟩
  have HA0 : Hid (acs[0]? = some (.slice spo no co)) := Lib.hid (by rw [← hacs]; rfl)
  have HA1 : Hid (acs[1]? = some (.int .u64 H)) := Lib.hid (by rw [← hacs]; rfl)
  have HA2 : Hid (acs[2]? = some (.bool sm)) := Lib.hid (by rw [← hacs]; rfl)
  generalize hPost : LvPost w n h = Post
  have HPO : Hid (∀ e Y, LvPost w n h e Y → Post e Y) := Lib.hid fun e Y hh => by rw [← hPost]; exact hh
  obtain ⟨A, hA⟩ : ∃ a, w.heap.size = a := ⟨_, rfl⟩
  have HA := Lib.hid hA
  obtain ⟨U, hU⟩ : ∃ u, u = undef := ⟨_, rfl⟩
  have HU := Lib.hid hU
  have HSZ := Lib.hid (size_pc zeroP_ok)
  clear hno hco hn hl hok hch hS hv hb0 hPost hA hU
  go_enter Tryd.func7, Tryd.ntmps7
  go_upto_region 1 with fail
  refine (fun (k : ∀ W, LvS w acs (.slice none 0 0) [] W → Code.wp _ _ _ _ W) => k _ (by have := HS0.out; rw [← hacs] at this ⊢; exact this)) ?_
  intro W0 hW0
  rw [HA.out]
  have HS := Lib.hid hW0
  clear hW0 HS0 hacs
  go_wp2_with fail
  go_loopw [7, 8] (fun ov i wr => ∃ (k : Nat) (ls : List Lf), k ≤ 64 ∧ i = .int .i64 (k : Int) ∧ LvL n h k ls ∧ LvS w acs ov ls wr) (fun _ i _ => 64 - (intOf i).toNat)
  case atStart => exact ⟨0, [], by omega, rfl, ⟨List.Pairwise.nil, fun x hx => by simp at hx, fun x hx => by simp at hx, Nat.le_refl _⟩, HS.out⟩
  case round =>
    clear HS
    obtain ⟨k, ls, hk, rfl, hll, hs⟩ := hrel
    have HLL := Lib.hid hll; have HS := Lib.hid hs
    obtain ⟨spv, capv, hov, -⟩ := owns_form hs.out
    subst hov
    clear hll hs
    have wk1 := IntWalk.i64_in ((k : Int) + 1) (by omega)
    by_cases hlt : k < 64
    · obtain ⟨q, hq⟩ : ∃ q, h[k]? = some q := ⟨_, List.getElem?_eq_getElem (by have := HL.out; omega)⟩
      have HQ : Hid q.OK := Lib.hid (HOK.out q (List.mem_of_getElem? hq))
      have HQK := Lib.hid hq
      have HKB : Hid (k < 64 ∧ 64 ≤ ch) := Lib.hid ⟨hlt, HCH.out⟩
      have hwk : IntKind.u32.wrap (k : Int) = (k : Int) := by rw [IntKind.wrap_u32]; omega
      have hwn : IntKind.u64.wrap (n : Int) = (n : Int) := by rw [IntKind.wrap_u64]; have := HN.out; omega
      have hwn1 : IntKind.u64.wrap ((n : Int) + 1) = ((n + 1 : Nat) : Int) := by rw [IntKind.wrap_u64]; have := HN.out; omega
      have j0 : (k : Int) < 64 := by omega
      have j1 : decide ((k : Int) < 64) = true := by simpa using j0
      clear hq
      go_wp2_with fail
      (try rw [j1])
      go_loopw [9, 10] (fun b j wr => ∃ (i : Nat) (z : Bool), i ≤ no ∧ j = .int .i64 (i : Int) ∧ b = .bool z ∧ LvS w acs (.slice spv ls.length capv) ls wr) (fun _ j _ => no - (intOf j).toNat)
      case atStart => exact ⟨0, false, by omega, rfl, rfl, HS.out⟩
      case round =>
        clear HS
        obtain ⟨i, z, hi, rfl, rfl, hs⟩ := hrel
        have HS := Lib.hid hs
        have HB : Hid (Blk wr A acs 43) := Lib.hid (by have := hs.box; rw [HA.out] at this; exact this)
        clear hs
        have wk2 := IntWalk.i64_in ((i : Int) + 1) (by have := HCO.out; omega)
        by_cases hil : i < no
        · have HIB : Hid (i < no ∧ no ≤ co) := Lib.hid ⟨hil, HNO.out.2⟩
          obtain ⟨go, oo, rfl, hgo, hcells⟩ := HSO.out (by have := HNO.out.1; omega)
          obtain ⟨b, hb⟩ : ∃ b, offs.getD i 0 = b := ⟨_, rfl⟩
          have HCE : Hid (∀ X, LvS w acs (.slice spv ls.length capv) ls X → X.cell? ⟨go, oo + i, none⟩ = some (V8 b)) := Lib.hid fun X hX => by
            have := hcells i (by have := HNO.out.1; omega)
            rw [hb] at this
            rw [hX.bel.cell (p := ⟨go, oo + i, none⟩) hgo]
            exact this
          have HBS : Hid (∀ X, LvS w acs (.slice spv ls.length capv) ls X → Blk X A acs 43) := Lib.hid fun X hX => by have := hX.box; rw [HA.out] at this; exact this
          have hbl : b.toNat < 256 := b.isLt
          obtain ⟨bn, hbn⟩ : ∃ m, b.toNat = m := ⟨_, rfl⟩
          have HBN := Lib.hid hbn
          rw [hbn] at hbl
          clear hgo hcells hb hbn
          go_upto_region 9 with (first | (refine wpL_val rfl (ex_ldBy rfl rfl (HB.out.cell HA0.out)) ?_) | fail)
          have hx0 := HS.out
          cases z
          · refine wp_region_list ?_
            refine tl_val (S := LvS w acs (.slice spv ls.length capv) ls) (.bool false) (by rfl) hx0 (fun X hX => by first | rfl | go_simp) ?_
            (try simp only [Act.put, List.setIfInBounds_toArray, List.set_cons_zero, List.set_cons_succ])
            refine tl_val (S := LvS w acs (.slice spv ls.length capv) ls) (.bool false) (by rfl) hx0 (fun X hX => by first | rfl | go_simp) ?_
            (try simp only [Act.put, List.setIfInBounds_toArray, List.set_cons_zero, List.set_cons_succ])
            refine tl_val (S := LvS w acs (.slice spv ls.length capv) ls) (.pointer (some ⟨A, 0, none⟩)) (by rfl) hx0 (fun X hX => by first | rfl | go_simp) ?_
            (try simp only [Act.put, List.setIfInBounds_toArray, List.set_cons_zero, List.set_cons_succ])
            refine tl_val (S := LvS w acs (.slice spv ls.length capv) ls) (.slice (some ⟨go, oo, none⟩) no co) (by rfl) hx0 (fun X hX => ex_ldBy rfl rfl ((HBS.out X hX).cell HA0.out)) ?_
            (try simp only [Act.put, List.setIfInBounds_toArray, List.set_cons_zero, List.set_cons_succ])
            refine tl_val (S := LvS w acs (.slice spv ls.length capv) ls) (.int .i64 (i : Int)) (by rfl) hx0 (fun X hX => by first | rfl | go_simp) ?_
            (try simp only [Act.put, List.setIfInBounds_toArray, List.set_cons_zero, List.set_cons_succ])
            refine tl_val (S := LvS w acs (.slice spv ls.length capv) ls) (.pointer (some ⟨go, oo + i, none⟩)) (by rfl) hx0 (fun X hX => ex_iaBy rfl rfl rfl HIB.out) ?_
            (try simp only [Act.put, List.setIfInBounds_toArray, List.set_cons_zero, List.set_cons_succ])
            refine tl_val (S := LvS w acs (.slice spv ls.length capv) ls) (V8 b) (by rfl) hx0 (fun X hX => ex_ld1 Tryd.underlying5 rfl rfl (HCE.out X hX)) ?_
            (try simp only [Act.put, List.setIfInBounds_toArray, List.set_cons_zero, List.set_cons_succ])
            refine tl_val (S := LvS w acs (.slice spv ls.length capv) ls) (.int .i64 (bn : Int)) (by rfl) hx0 (fun X hX => (ex_cv8i rfl rfl).trans (by rw [HBN.out])) ?_
            (try simp only [Act.put, List.setIfInBounds_toArray, List.set_cons_zero, List.set_cons_succ])
            refine tl_val (S := LvS w acs (.slice spv ls.length capv) ls) (.int .i64 ((bn % 64 : Nat) : Int)) (by rfl) hx0 (fun X hX => ex_rem64 hbl rfl rfl rfl) ?_
            (try simp only [Act.put, List.setIfInBounds_toArray, List.set_cons_zero, List.set_cons_succ])
            refine tl_val (S := LvS w acs (.slice spv ls.length capv) ls) (.int .i64 (k : Int)) (by rfl) hx0 (fun X hX => by first | rfl | go_simp) ?_
            (try simp only [Act.put, List.setIfInBounds_toArray, List.set_cons_zero, List.set_cons_succ])
            refine tl_val (S := LvS w acs (.slice spv ls.length capv) ls) (.bool (decide (((bn % 64 : Nat) : Int) = (k : Int)))) (by rfl) hx0 (fun X hX => ex_eqi Tryd.underlying3 rfl rfl rfl) ?_
            (try simp only [Act.put, List.setIfInBounds_toArray, List.set_cons_zero, List.set_cons_succ])
            refine tl_val (S := LvS w acs (.slice spv ls.length capv) ls) (.bool (decide (((bn % 64 : Nat) : Int) = (k : Int)))) (by rfl) hx0 (fun X hX => by first | rfl | go_simp) ?_
            (try simp only [Act.put, List.setIfInBounds_toArray, List.set_cons_zero, List.set_cons_succ])
            refine tl_val (S := LvS w acs (.slice spv ls.length capv) ls) (.bool (decide (((bn % 64 : Nat) : Int) = (k : Int)))) (by rfl) hx0 (fun X hX => by first | rfl | go_simp) ?_
            (try simp only [Act.put, List.setIfInBounds_toArray, List.set_cons_zero, List.set_cons_succ])
            refine wpList_nil ?_
            go_wp2_with fail
            go_roundw
            case rel => exact ⟨i + 1, _, by omega, by go_num, rfl, HS.out⟩
            case measure => simp [intOf]; omega
          · obtain ⟨z, hz⟩ : ∃ z, true = z := ⟨_, rfl⟩
            have HZT := Lib.hid hz.symm
            rw [hz]
            clear hz
            refine wp_region_list ?_
            refine tl_val (S := LvS w acs (.slice spv ls.length capv) ls) (.bool z) (by rfl) hx0 (fun X hX => by first | rfl | go_simp) ?_
            (try simp only [Act.put, List.setIfInBounds_toArray, List.set_cons_zero, List.set_cons_succ])
            refine tl_val (S := LvS w acs (.slice spv ls.length capv) ls) (.bool z) (by rfl) hx0 (fun X hX => by first | rfl | go_simp) ?_
            (try simp only [Act.put, List.setIfInBounds_toArray, List.set_cons_zero, List.set_cons_succ])
            refine tl_skipV HU.out (by first | (rw [HZT.out]; rfl) | rfl) ?_
            (try simp only [Act.put, List.setIfInBounds_toArray, List.set_cons_zero, List.set_cons_succ])
            refine tl_skipV HU.out (by first | (rw [HZT.out]; rfl) | rfl) ?_
            (try simp only [Act.put, List.setIfInBounds_toArray, List.set_cons_zero, List.set_cons_succ])
            refine tl_skipV HU.out (by first | (rw [HZT.out]; rfl) | rfl) ?_
            (try simp only [Act.put, List.setIfInBounds_toArray, List.set_cons_zero, List.set_cons_succ])
            refine tl_skipV HU.out (by first | (rw [HZT.out]; rfl) | rfl) ?_
            (try simp only [Act.put, List.setIfInBounds_toArray, List.set_cons_zero, List.set_cons_succ])
            refine tl_skipV HU.out (by first | (rw [HZT.out]; rfl) | rfl) ?_
            (try simp only [Act.put, List.setIfInBounds_toArray, List.set_cons_zero, List.set_cons_succ])
            refine tl_skipV HU.out (by first | (rw [HZT.out]; rfl) | rfl) ?_
            (try simp only [Act.put, List.setIfInBounds_toArray, List.set_cons_zero, List.set_cons_succ])
            refine tl_skipV HU.out (by first | (rw [HZT.out]; rfl) | rfl) ?_
            (try simp only [Act.put, List.setIfInBounds_toArray, List.set_cons_zero, List.set_cons_succ])
            refine tl_skipV HU.out (by first | (rw [HZT.out]; rfl) | rfl) ?_
            (try simp only [Act.put, List.setIfInBounds_toArray, List.set_cons_zero, List.set_cons_succ])
            refine tl_skipV HU.out (by first | (rw [HZT.out]; rfl) | rfl) ?_
            (try simp only [Act.put, List.setIfInBounds_toArray, List.set_cons_zero, List.set_cons_succ])
            refine tl_val (S := LvS w acs (.slice spv ls.length capv) ls) (.bool z) (by rfl) hx0 (fun X hX => (by rw [HZT.out]; first | rfl | go_simp)) ?_
            (try simp only [Act.put, List.setIfInBounds_toArray, List.set_cons_zero, List.set_cons_succ])
            refine tl_val (S := LvS w acs (.slice spv ls.length capv) ls) (.bool z) (by rfl) hx0 (fun X hX => by first | rfl | go_simp) ?_
            (try simp only [Act.put, List.setIfInBounds_toArray, List.set_cons_zero, List.set_cons_succ])
            refine wpList_nil ?_
            rw [HZT.out]
            go_wp2_with fail
            go_roundw
            case rel => exact ⟨i + 1, _, by omega, by go_num, rfl, HS.out⟩
            case measure => simp [intOf]; omega
        · obtain rfl : i = no := by omega
          clear hil hi wk2
          cases z
          · go_wp2_with (first | (refine wpL_val rfl (ex_ldBy rfl rfl (HB.out.cell HA0.out)) ?_) | fail)
            go_roundw
            case rel => exact ⟨k + 1, ls, by omega, by go_num, HLL.out.mono, HS.out⟩
            case measure => simp [intOf]; omega
          · have HLF : Hid (leafP (n + 1) k).OK := Lib.hid (leafP_ok (by have := HN.out; omega) (by omega))
            go_wp2_with (first | (refine wpL_val rfl (ex_ldBy rfl rfl (HB.out.cell HA0.out)) ?_) | fail)
            refine (leaf_any (n + 1) k (by have := HN.out; omega) (by omega) _).mono ?_
            rintro e W1 ⟨rfl, hb1⟩
            have HS1 := Lib.hid (HS.out.below hb1)
            obtain ⟨p0, hp0⟩ : ∃ p, leafP (n + 1) k = p := ⟨_, rfl⟩
            rw [hp0] at HLF ⊢
            have HP0 := Lib.hid hp0
            have HSQ := Lib.hid (size_pc HLF.out)
            have HLQ : Hid ((pcells p0).toArray.size = 41) := Lib.hid (by rw [List.size_toArray, pcells_length HLF.out])
            clear hb1 hp0 HS HB
            go_upto_region 12 with (first | (refine wpList_store_row rfl 37 (.tmp 11) (.tmp 42) rfl W1.heap.size (pcells p0).toArray rfl rfl 37 _ (heap_alloc_new W1 _) HSQ.out (by rw [HLQ.out]; rfl) (one_pc p0) ?_) | fail)
            refine (fun (k : ∀ W, (LvS w acs (.slice spv ls.length capv) ls W ∧ Blk W W1.heap.size (pcells p0) 37) → Code.wp _ _ _ _ W) => k _ ⟨HS1.out.below (blk_row1 W1 _ (pcells p0) 37).2, (blk_row1 W1 _ (pcells p0) 37).1⟩) ?_
            intro W2 hW2
            obtain ⟨g3, hg3⟩ : ∃ g, W1.heap.size = g := ⟨_, rfl⟩
            have hAg : A ≠ g3 := by have := HS1.out.box.lt; rw [HA.out] at this; omega
            rw [hg3] at hW2 ⊢
            have HS2 := Lib.hid hW2.1
            have HR0 := Lib.hid hW2.2
            have HNE : Hid ((Value.slice spv ls.length capv).ownBlock ≠ some g3) := Lib.hid fun e => by have := (HS1.out.out.lt _ e).2; omega
            have HAG : Hid (w.heap.size < g3) := Lib.hid (by have := HS1.out.box.lt; omega)
            have HB2 : Hid (Blk W2 A acs 43) := Lib.hid (by have := hW2.1.box; rw [HA.out] at this; exact this)
            have HLZ : Hid ((pcells p0).toArray.size = (pcells zeroP).toArray.size) := Lib.hid (by rw [List.size_toArray, List.size_toArray, pcells_length HLF.out, pcells_length zeroP_ok])
            have HLP : Hid ((pcells p0).toArray.size = (pcells q).toArray.size) := Lib.hid (by rw [List.size_toArray, List.size_toArray, pcells_length HLF.out, pcells_length HQ.out])
            have HZP : Hid ((pcells zeroP).toArray.size = (pcells q).toArray.size) := Lib.hid (by rw [List.size_toArray, List.size_toArray, pcells_length zeroP_ok, pcells_length HQ.out])
            have HSX := Lib.hid (size_pc HQ.out)
            obtain ⟨hb, hhb⟩ : ∃ b, decide (bits .and .u64 (H / 2 ^ k) 1 = 1) = b := ⟨_, rfl⟩
            have HHB := Lib.hid hhb
            clear hW2 hg3 hAg HS1 hhb
            cases hb
            · go_upto_region 14 with (first | (refine wpL_val rfl (ex_ld1 Tryd.underlying33 rfl rfl (HB2.out.cell HA1.out)) ?_) | (refine wpL_val rfl (ex_shrU hlt rfl rfl rfl) ?_) | (refine wpL_val rfl (ex_andU rfl rfl rfl) ?_) | (refine wpL_val rfl ((ex_eqi Tryd.underlying33 rfl rfl rfl).trans (by rw [HHB.out])) ?_) | fail)
              refine (fun (k : ∀ W, (LvS w acs (.slice spv ls.length capv) ls W ∧ Blk W g3 (pcells p0) 37) → Code.wp _ _ _ _ W) => k _ ⟨HS2.out, HR0.out⟩) ?_
              intro W3 hW3
              have HS3 := Lib.hid hW3.1
              have HR3 := Lib.hid hW3.2
              have HB3 : Hid (Blk W3 A acs 43) := Lib.hid (by have := hW3.1.box; rw [HA.out] at this; exact this)
              have HV3 := Lib.hid ((HV.out.grown hW3.1.bel).at HQK.out)
              clear hW3 HS2 HR0 HB2
              cases sm
              · go_upto_region 16 with (first | (refine wpL_val rfl (ex_ldBo rfl rfl (HB3.out.cell HA2.out)) ?_) | fail)
                refine (fun (k : ∀ W, (LvS w acs (.slice spv ls.length capv) ls W ∧ Blk W g3 (pcells p0) 37) → Code.wp _ _ _ _ W) => k _ ⟨HS3.out, HR3.out⟩) ?_
                intro W4 hW4
                obtain ⟨v5, w5, hr5, hs5⟩ := hW4.1.app (x := (k, p0)) HLF.out (by have := HLL.out.len; omega) ((Below.refl _ _).alloc (Nat.le_refl _) (.cells (lcells (k, p0)).toArray 45)) (Blk.new W4 (lcells (k, p0)) 45) 39
                have HR4 := Lib.hid hW4.2
                have HR5 := Lib.hid hr5
                have HS5 := Lib.hid hs5
                clear hW4 hr5 hs5 HS3 HR3 HB3 HV3
                go_wp2_with (first | (refine wpL_val rfl (ex_ldP HLF.out HR4.out rfl rfl) ?_) | (refine wpL_val rfl (ex_bldL (f := k) (p := p0) HLF.out rfl rfl rfl) ?_) | (refine wpL_val rfl (ex_oneL (l := (k, p0)) HLF.out rfl rfl) ?_) | (at_builtin; refine wpL_val rfl (ex_appL rfl rfl rfl HR5.out) ?_) | fail)
                go_roundw
                case rel => exact ⟨k + 1, ls ++ [(k, p0)], by omega, by go_num, HLL.out.snoc (.inr (.inl HP0.out.symm)), HS5.out⟩
                case measure => simp [intOf]; omega
              · go_upto_region 15 with (first | (refine wpL_val rfl (ex_ldBo rfl rfl (HB3.out.cell HA2.out)) ?_) | fail)
                go_upto_region 16 with (first | (refine wpL_val rfl (q_iaP rfl rfl rfl HKB.out) ?_) | (refine wpL_val rfl (ex_ldR HQ.out HV3.out rfl rfl) ?_) | (refine wpList_store_row rfl 37 (.tmp 11) (.tmp 55) rfl g3 (pcells q).toArray rfl rfl 37 _ HR3.out HSX.out HLP.out (one_pc _) ?_) | fail)
                refine (fun (k : ∀ W, (LvS w acs (.slice spv ls.length capv) ls W ∧ Blk W g3 (pcells q) 37) → Code.wp _ _ _ _ W) => k _ ⟨HS3.out.row HNE.out HAG.out _, HR3.out.row _⟩) ?_
                intro W4 hW4
                obtain ⟨v5, w5, hr5, hs5⟩ := hW4.1.app (x := (k, q)) HQ.out (by have := HLL.out.len; omega) ((Below.refl _ _).alloc (Nat.le_refl _) (.cells (lcells (k, q)).toArray 45)) (Blk.new W4 (lcells (k, q)) 45) 39
                have HR4 := Lib.hid hW4.2
                have HR5 := Lib.hid hr5
                have HS5 := Lib.hid hs5
                clear hW4 hr5 hs5 HS3 HR3 HB3 HV3
                go_wp2_with (first | (refine wpL_val rfl (ex_ldP HQ.out HR4.out rfl rfl) ?_) | (refine wpL_val rfl (ex_bldL (f := k) (p := q) HQ.out rfl rfl rfl) ?_) | (refine wpL_val rfl (ex_oneL (l := (k, q)) HQ.out rfl rfl) ?_) | (at_builtin; refine wpL_val rfl (ex_appL rfl rfl rfl HR5.out) ?_) | fail)
                go_roundw
                case rel => exact ⟨k + 1, ls ++ [(k, q)], by omega, by go_num, HLL.out.snoc (.inr (.inr HQK.out)), HS5.out⟩
                case measure => simp [intOf]; omega
            · go_upto_region 13 with (first | (refine wpL_val rfl (ex_ld1 Tryd.underlying33 rfl rfl (HB2.out.cell HA1.out)) ?_) | (refine wpL_val rfl (ex_shrU hlt rfl rfl rfl) ?_) | (refine wpL_val rfl (ex_andU rfl rfl rfl) ?_) | (refine wpL_val rfl ((ex_eqi Tryd.underlying33 rfl rfl rfl).trans (by rw [HHB.out])) ?_) | fail)
              go_upto_region 14 with (first | (refine wpL_val rfl (ex_bld0 rfl) ?_) | (refine wpList_store_row rfl 37 (.tmp 11) (.tmp 49) rfl g3 (pcells zeroP).toArray rfl rfl 37 _ HR0.out HSZ.out HLZ.out (one_pc _) ?_) | fail)
              refine (fun (k : ∀ W, (LvS w acs (.slice spv ls.length capv) ls W ∧ Blk W g3 (pcells zeroP) 37) → Code.wp _ _ _ _ W) => k _ ⟨HS2.out.row HNE.out HAG.out _, HR0.out.row _⟩) ?_
              intro W3 hW3
              have HS3 := Lib.hid hW3.1
              have HR3 := Lib.hid hW3.2
              have HB3 : Hid (Blk W3 A acs 43) := Lib.hid (by have := hW3.1.box; rw [HA.out] at this; exact this)
              have HV3 := Lib.hid ((HV.out.grown hW3.1.bel).at HQK.out)
              clear hW3 HS2 HR0 HB2
              cases sm
              · go_upto_region 16 with (first | (refine wpL_val rfl (ex_ldBo rfl rfl (HB3.out.cell HA2.out)) ?_) | fail)
                refine (fun (k : ∀ W, (LvS w acs (.slice spv ls.length capv) ls W ∧ Blk W g3 (pcells zeroP) 37) → Code.wp _ _ _ _ W) => k _ ⟨HS3.out, HR3.out⟩) ?_
                intro W4 hW4
                obtain ⟨v5, w5, hr5, hs5⟩ := hW4.1.app (x := (k, zeroP)) zeroP_ok (by have := HLL.out.len; omega) ((Below.refl _ _).alloc (Nat.le_refl _) (.cells (lcells (k, zeroP)).toArray 45)) (Blk.new W4 (lcells (k, zeroP)) 45) 39
                have HR4 := Lib.hid hW4.2
                have HR5 := Lib.hid hr5
                have HS5 := Lib.hid hs5
                clear hW4 hr5 hs5 HS3 HR3 HB3 HV3
                go_wp2_with (first | (refine wpL_val rfl (ex_ldP zeroP_ok HR4.out rfl rfl) ?_) | (refine wpL_val rfl (ex_bldL (f := k) (p := zeroP) zeroP_ok rfl rfl rfl) ?_) | (refine wpL_val rfl (ex_oneL (l := (k, zeroP)) zeroP_ok rfl rfl) ?_) | (at_builtin; refine wpL_val rfl (ex_appL rfl rfl rfl HR5.out) ?_) | fail)
                go_roundw
                case rel => exact ⟨k + 1, ls ++ [(k, zeroP)], by omega, by go_num, HLL.out.snoc (.inl rfl), HS5.out⟩
                case measure => simp [intOf]; omega
              · go_upto_region 15 with (first | (refine wpL_val rfl (ex_ldBo rfl rfl (HB3.out.cell HA2.out)) ?_) | fail)
                go_upto_region 16 with (first | (refine wpL_val rfl (q_iaP rfl rfl rfl HKB.out) ?_) | (refine wpL_val rfl (ex_ldR HQ.out HV3.out rfl rfl) ?_) | (refine wpList_store_row rfl 37 (.tmp 11) (.tmp 55) rfl g3 (pcells q).toArray rfl rfl 37 _ HR3.out HSX.out HZP.out (one_pc _) ?_) | fail)
                refine (fun (k : ∀ W, (LvS w acs (.slice spv ls.length capv) ls W ∧ Blk W g3 (pcells q) 37) → Code.wp _ _ _ _ W) => k _ ⟨HS3.out.row HNE.out HAG.out _, HR3.out.row _⟩) ?_
                intro W4 hW4
                obtain ⟨v5, w5, hr5, hs5⟩ := hW4.1.app (x := (k, q)) HQ.out (by have := HLL.out.len; omega) ((Below.refl _ _).alloc (Nat.le_refl _) (.cells (lcells (k, q)).toArray 45)) (Blk.new W4 (lcells (k, q)) 45) 39
                have HR4 := Lib.hid hW4.2
                have HR5 := Lib.hid hr5
                have HS5 := Lib.hid hs5
                clear hW4 hr5 hs5 HS3 HR3 HB3 HV3
                go_wp2_with (first | (refine wpL_val rfl (ex_ldP HQ.out HR4.out rfl rfl) ?_) | (refine wpL_val rfl (ex_bldL (f := k) (p := q) HQ.out rfl rfl rfl) ?_) | (refine wpL_val rfl (ex_oneL (l := (k, q)) HQ.out rfl rfl) ?_) | (at_builtin; refine wpL_val rfl (ex_appL rfl rfl rfl HR5.out) ?_) | fail)
                go_roundw
                case rel => exact ⟨k + 1, ls ++ [(k, q)], by omega, by go_num, HLL.out.snoc (.inr (.inr HQK.out)), HS5.out⟩
                case measure => simp [intOf]; omega
    · obtain rfl : k = 64 := by omega
      have HE := Lib.hid (HPO.out (.returned (.slice spv ls.length capv)) _ ⟨_, ls, rfl, HS.out.bel, own_base HS.out.out (by omega), HLL.out⟩)
      clear hlt hk wk1
      go_wp2_with fail
      first | exact HE.out | (go_ret; exact HE.out)
end Go.Proofs.YtfcjeceoedfldaaDoor
/- Leaves that came in. -/
namespace Go.Proofs.YtfcjeceoedfldaaDoor
open Go.ChangeShapes Go.WideShapes Go.ChangeAt Go.WideMaps Go.WideElems Go.RowKit Go.Deep

set_option maxRecDepth 100000 in
theorem okWide_lt {W : World} {b : Nat} {t e : TypeId} {a : Addr} {n cap : Nat} (ht : Tryd.prog.underlying t = some (.slice e)) (ho : Value.okWide Tryd.prog W .any b t (.slice (some a) n cap)) : a.block < W.heap.size := by
  simp only [Value.okWide, ht, Cell.okWide, Cell.ok] at ho
  obtain ⟨_, _, _, _, row, cells, hs, _⟩ := ho
  unfold World.shape? at hs
  by_cases h : a.block < W.heap.size
  · exact h
  · rw [Array.getElem?_eq_none (by omega)] at hs; cases hs
section
variable {H : Type} {enc : TypeId × Value → H} {W : World} {b' : Nat} {spare : Nat → Bool} {held : Bool}
set_option maxRecDepth 100000 in
theorem open_u32 {b : Nat} {v : Value} {d : DataW H} {p : List MemPlace} (ho : Value.okWide Tryd.prog W .any b 32 v) (h : DataW.Trod enc Tryd.prog W b' spare held 32 v d p) : ∃ m : Nat, m < 4294967296 ∧ v = .int .u32 (m : Int) := by
  obtain ⟨z, e, _, _, hw⟩ := open_int Tryd.underlying32 ho h
  have hb := bounds_u32 hw
  exact ⟨z.toNat, by omega, by rw [e, show ((z.toNat : Nat) : Int) = z by omega]⟩
end
end Go.Proofs.YtfcjeceoedfldaaDoor
