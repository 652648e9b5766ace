/- TreeWrong, walked. -/
import Derived.Test.YtkbkmfmekjpleaaDoorM39
import Derived.Test.YtkbkmfmekjpleaaDoorM37
namespace Go.Proofs.YtkbkmfmekjpleaaDoor
open Go.RowKit

attribute [local go_sem] Oper.semAt_some

def goodTo (l : List Lf) (k : Nat) : Bool := (List.range k).all (goodAt l)
theorem goodTo_succ (l : List Lf) (k : Nat) : goodTo l (k + 1) = (goodTo l k && goodAt l k) := by
  unfold goodTo
  rw [List.range_succ, List.all_append]
  simp
def kpt : Pt := ⟨3, 2, 0, 0, 0, List.replicate 32 0#8, [1, 0, 0, 0]⟩
theorem kpt_ok : kpt.OK := ⟨by simp [kpt], by simp [kpt], by simp [kpt], by simp [kpt], by simp [kpt], by simp [kpt], by simp [kpt], fun x hx => by simp [kpt] at hx; rcases hx with rfl | rfl <;> omega⟩
theorem built_kpt : Tryd.prog.built 37 [(0, .int .u8 3), (1, .int .u8 2), (6, .agg #[.int .u16 1, .int .u16 0, .int .u16 0, .int .u16 0])] = some (pcells kpt).toArray := by kernel_rfl
theorem ex_bldK {ρ : Operand → Value} {o : Oper} {a b z : Operand} {w : World} (ho : o.op = .build 37 #[(0, a), (1, b), (6, z)]) (ha : ρ a = .int .u8 3) (hb : ρ b = .int .u8 2) (hz : ρ z = .agg #[.int .u16 1, .int .u16 0, .int .u16 0, .int .u16 0]) :
    (execOp ρ o).run Tryd.prog w = .ok (.value (.agg (pcells kpt).toArray)) w := by
  have hr : (Instr.build 37 #[(0, .int .u8 3), (1, .int .u8 2), (6, .agg #[.int .u16 1, .int .u16 0, .int .u16 0, .int .u16 0])]).run Tryd.prog w = .ok (.agg (pcells kpt).toArray) w := run_build w 37 _ _ built_kpt
  unfold execOp
  simp only [ho]
  rw [show (Array.map (fun x : Nat × Operand => (x.1, ρ x.2)) #[(0, a), (1, b), (6, z)]) = #[(0, .int .u8 3), (1, .int .u8 2), (6, .agg #[.int .u16 1, .int .u16 0, .int .u16 0, .int .u16 0])] by simp [ha, hb, hz]]
  simp only [Sem.run_bind, hr, Result.andThen_ok, Sem.run_pure]
/-- A block that is no node's. -/
theorem kpt_err {s : Sh} {b : Bs} (hb : s.blocks = [b]) (hbad : s.bad = []) (hl : b.length ≠ 512) : getE s kpt 0 = 21 := by
  have hr : refE kpt = 0 := by kernel_rfl
  have hz : eqP kpt zeroP = false := by kernel_rfl
  have hE : rdE s kpt = 0 := by unfold rdE; rw [hbad, hb]; rfl
  have hB : rdB s kpt = b := by unfold rdB; rw [hbad, hb]; rfl
  have hn : nodeE b = 5 := by unfold nodeE; rw [if_neg hl]
  have h1 : rnE s kpt = 21 := by unfold rnE; rw [if_neg (by rw [hz]; decide), hE, hB, hn, if_neg (by simp), if_pos (by simp)]
  unfold getE getR
  rw [hr, if_neg (by simp), if_neg (by omega), belowP_succ, if_neg (by rw [hz]; decide), if_pos (by rw [h1]; simp)]
  exact h1
theorem wrap64_sub1 {k k1 : Nat} (h : k = k1 + 1) (hk : k ≤ 1000) : IntKind.i64.wrap ((k : Int) - 1) = (k1 : Int) := by
  have := IntWalk.i64_in ((k : Int) - 1) (by omega)
  rw [this]; omega
theorem ex_ge32 {ρ : Operand → Value} {o : Oper} {x y : Operand} {a b : Int} {z : Bool} {t : TypeId} {w : World} (hz : decide (b ≤ a) = z) (ho : o.op = .binOp .geq 32 x y t) (hx : ρ x = .int .u32 a) (hy : ρ y = .int .u32 b) : (execOp ρ o).run Tryd.prog w = .ok (.value (.bool z)) w := by
  subst hz
  unfold execOp
  simp only [ho]
  go_simp
theorem goB_okl {f : Sh → List Pt → List Lf → Pt → Nat → Bw} (hf : ∀ s ns ls q a, q.OK → (∀ x ∈ ls, Pt.OK x.2) → ∀ x ∈ (f s ns ls q a).ls, Pt.OK x.2) (wide first fr tt : Nat) : ∀ (qs : List Pt) (i : Nat) (s : Sh) (ns : List Pt) (ls : List Lf), (∀ q ∈ qs, q.OK) → (∀ x ∈ ls, Pt.OK x.2) → ∀ x ∈ (goB f wide first fr tt qs i s ns ls).ls, Pt.OK x.2
  | [], _, _, _, _, _, hl => hl
  | q :: qs, i, s, ns, ls, hq, hl => by
    have hq1 := hq q (List.mem_cons_self ..)
    have hq2 : ∀ q ∈ qs, q.OK := fun y hy => hq y (List.mem_cons_of_mem _ hy)
    by_cases hc : first + i * wide + wide ≤ fr ∨ tt ≤ first + i * wide
    · rw [goB_skip hc]; exact goB_okl hf wide first fr tt qs _ _ _ _ hq2 hl
    · by_cases he : (f s ns ls q (first + i * wide)).e = 0
      · rw [goB_ok hc he]
        exact goB_okl hf wide first fr tt qs _ _ _ _ hq2 (hf _ _ _ _ _ hq1 hl)
      · rw [goB_err hc he]; exact hf _ _ _ _ _ hq1 hl
theorem belowP_okl (fr tt : Nat) : ∀ (n : Nat) (s : Sh) (ns : List Pt) (ls : List Lf) (p : Pt) (first : Nat), p.OK → (∀ x ∈ ls, Pt.OK x.2) → ∀ x ∈ (belowP fr tt n s ns ls p first).ls, Pt.OK x.2
  | 0, s, ns, ls, p, first, hp, hl => by
    unfold belowP
    split
    · exact hl
    · intro x hx
      rcases List.mem_append.1 hx with h | h
      · exact hl x h
      · simp at h; subst h; exact hp
  | n + 1, s, ns, ls, p, first, hp, hl => by
    rw [belowP_succ]
    split
    · exact hl
    · split
      · exact hl
      · exact goB_okl (fun s ns ls q a h1 h2 => belowP_okl fr tt n s ns ls q a h1 h2) (8 ^ n) first fr tt (rnN s p) 0 (rnS s p) (ns ++ [p]) ls (rnN_ok s p).ok hl
theorem getP_ok (s : Sh) {p : Pt} (off : Nat) (hp : p.OK) : (getP s p off).OK := by
  unfold getP
  split
  · exact zeroP_ok
  · unfold lastP
    cases hl : (getR s p off).ls.getLast? with
    | none => exact zeroP_ok
    | some y => exact belowP_okl off (off + 1) 2 s [] [] p 0 hp (fun x hx => by simp at hx) y (List.mem_of_getLast? hl)
theorem ex_ls32 {ρ : Operand → Value} {o : Oper} {x y : Operand} {a b : Int} {z : Bool} {t : TypeId} {w : World} (hz : decide (a < b) = z) (ho : o.op = .binOp .lss 32 x y t) (hx : ρ x = .int .u32 a) (hy : ρ y = .int .u32 b) : (execOp ρ o).run Tryd.prog w = .ok (.value (.bool z)) w := by
  subst hz
  unfold execOp
  simp only [ho]
  go_simp
theorem tl_val {ops : Array Oper} {rest : List Oper} {o : Oper} {a : Act} {Q : Exit → Act → World → Prop} {S : World → Prop} {w : World} (v : Value) (hw : Region.wanted o (yielded ops a.tmps) = true) (hS : S w) (hrun : ∀ w, S w → (execOp a.eval o).run Tryd.prog w = .ok (.value v) w)
    (hK : wpList Tryd.prog ops Q rest (a.put o.dst v) w) : wpList Tryd.prog ops Q (o :: rest) a w := wpL_valG hw (hrun w hS) hK
theorem tl_skip {ops : Array Oper} {rest : List Oper} {o : Oper} {a : Act} {Q : Exit → Act → World → Prop} {w : World} (hw : Region.wanted o (yielded ops a.tmps) = false)
    (hK : wpList Tryd.prog ops Q rest (a.put o.dst undef) w) : wpList Tryd.prog ops Q (o :: rest) a w := by
  unfold wpList
  rw [if_neg (by simp [hw])]
  exact hK
theorem tl_call {ops : Array Oper} {rest : List Oper} {o : Oper} {a : Act} {Q : Exit → Act → World → Prop} {w : World} (hw : Region.wanted o (yielded ops a.tmps) = true) (f : FuncId) (args : Array Value) (hrun : (execOp a.eval o).run Tryd.prog w = .ok (.enter f args) w)
    (C : Value → World → Prop) (hc : Calls Tryd.prog f args w fun e w' => ∃ v, e = .returned v ∧ C v w') (hK : ∀ v w', C v w' → wpList Tryd.prog ops Q rest (a.put o.dst v) w') : wpList Tryd.prog ops Q (o :: rest) a w := by
  unfold wpList
  rw [if_pos hw]
  refine .inl ?_
  unfold Oper.wp
  rw [hrun]
  exact hc.mono fun e w' ⟨v, e1, h1⟩ => by subst e1; exact hK v w' h1
theorem ex_eqPb {ρ : Operand → Value} {o : Oper} {x y : Operand} {p q : Pt} {z : Bool} {w : World} (hz : eqP p q = z) (ho : o.op = .binOp .eql 37 x y 37) (hx : ρ x = .agg (pcells p).toArray) (hy : ρ y = .agg (pcells q).toArray) (hp : p.OK) (hq : q.OK) : (execOp ρ o).run Tryd.prog w = .ok (.value (.bool z)) w := hz ▸ ex_eqP ho hx hy hp hq
theorem fr_start {w Wa : World} {G : Nat} {cs : List Value} {t : TypeId} (hT0 : RTab w) (hbl : Below w.heap.size w Wa) (hB : Blk Wa G cs t) (hG : w.heap.size = G) : Fr w Wa.heap.size sh0 [(G, cs, t)] (Wa.alloc (.cells (scells v0 (-1)).toArray 30)) := by
  have hT : RTab Wa := hT0.of_heap (hbl.block _ hT0.lt)
  have hb : Below Wa.heap.size Wa (Wa.alloc (.cells (scells v0 (-1)).toArray 30)) := (Below.refl _ _).alloc (Nat.le_refl _) _
  have hgt := hT.lt
  have hgt0 := hT0.lt
  have hGl := hB.lt
  have hsz := hbl.size
  have none0 : ∀ {j : Nat} {L : Nat → Nat}, OwnM (Wa.alloc (.cells (scells v0 (-1)).toArray 30)) 0 (.slice none 0 0) [] ∧ ∀ g, (Value.slice none 0 0).ownBlock = some g → L g = j := ⟨World.ownsRow_nil _ _ _ _, fun g hg => by cases hg⟩
  refine ⟨⟨fun g => if g = Wa.heap.size then 1 else if g = 0 then 10 else 0, v0, ⟨Blk.new _ _ _, if_pos rfl, ⟨[], World.ownsRow_nil _ _ _ _, (fun g hg => by cases hg), rfl, fun i u b h => by simp at h, fun u h => by simp at h⟩, ⟨none, 0, rfl, Nat.le_refl _, fun _ => rfl, fun h => by simp [sh0] at h⟩, none0, none0, none0, fun g hg => ?_, fun q h => by simp [sh0] at h, fun q h => by simp [sh0] at h, fun q h => by simp [sh0] at h, hT.alloc _, ?_⟩, fun g => ?_, fun b hb' => ?_, fun g hg => ?_⟩, fun b hb' => ?_, hbl.trans (hb.mono hsz)⟩
  · by_cases e : g = Wa.heap.size
    · subst e; simp
    · rw [if_neg e] at hg
      by_cases e2 : g = 0
      · have := hT.lt; simp; omega
      · rw [if_neg e2] at hg; exact absurd rfl hg
  · rw [if_neg (by omega), if_pos rfl]
  · show (if g = Wa.heap.size then 1 else if g = 0 then 10 else 0) ≤ 5 ∨ (if g = Wa.heap.size then 1 else if g = 0 then 10 else 0) = 10
    by_cases e : g = Wa.heap.size
    · left; rw [if_pos e]; omega
    · rw [if_neg e]
      by_cases e2 : g = 0
      · right; rw [if_pos e2]
      · left; rw [if_neg e2]; omega
  · simp at hb'; subst hb'
    show (if G = Wa.heap.size then 1 else if G = 0 then 10 else 0) = 0
    rw [if_neg (by omega), if_neg (by omega)]
  · have hne : ¬ g = Wa.heap.size := by omega
    show (if g = Wa.heap.size then 1 else if g = 0 then 10 else 0) = 0 ∨ (if g = Wa.heap.size then 1 else if g = 0 then 10 else 0) = 10
    rw [if_neg hne]
    by_cases e2 : g = 0
    · right; rw [if_pos e2]
    · left; rw [if_neg e2]
  · simp at hb'; subst hb'
    exact hB.below hb hGl
set_option maxRecDepth 100000 in
set_option maxHeartbeats 32000000 in
theorem treeWrong_go (p : Pt) (hp : p.OK) (off : Nat) (hoff : off < 4294967296) (l : List Lf) (hok : ∀ x ∈ l, Lf.OK x) (sp : Option Addr) (cap : Nat) (hc : l.length ≤ cap) (hl : l.length ≤ 20) (b : Bs) (spb : Option Addr) (capb : Nat) (hcb : b.length ≤ capb) (hzb : spb = none → capb = 0) (hlb : b.length ≤ 600) (w : World) (hS : SrcF w sp l) (hlt : ∀ a, sp = some a → a.block < w.heap.size) (hB : SrcA w spb b) (hltb : ∀ a, spb = some a → a.block < w.heap.size) (hT : RTab w) :
    Calls Tryd.prog 5 #[.agg (pcells p).toArray, .int .u32 (off : Int), .slice sp l.length cap, .slice spb b.length capb] w fun e w' => e = .returned (.bool true) ∧ Below w.heap.size w w' := by
  have HPO := Lib.hid hp; have HOK := Lib.hid hok; have HC := Lib.hid hc; have HL := Lib.hid hl; have HS := Lib.hid hS; have HLT := Lib.hid hlt; have HBS := Lib.hid hB; have HBT := Lib.hid hltb; have HCB := Lib.hid hcb; have HZB := Lib.hid hzb; have HOF := Lib.hid hoff; have HLB := Lib.hid hlb
  obtain ⟨N, hN⟩ : ∃ N, l.length = N := ⟨_, rfl⟩
  have HN := Lib.hid hN
  obtain ⟨M, hM⟩ : ∃ M, b.length = M := ⟨_, rfl⟩
  have HM := Lib.hid hM
  rw [hN, hM]
  rw [hN] at hl
  rw [hM] at hlb
  have hNi : ¬ (20 : Int) < (N : Int) := by omega
  have hMi : ¬ (600 : Int) < (M : Int) := by omega
  have hNd : decide ((20 : Int) < (N : Int)) = false := decide_eq_false hNi
  have hMd : decide ((600 : Int) < (M : Int)) = false := decide_eq_false hMi
  have hw1 : Below w.heap.size w (w.alloc (.cells (pcells p).toArray 37)) := (Below.refl _ _).alloc (Nat.le_refl _) _
  have HST : Hid (∀ Wa, (w.alloc (.cells (pcells p).toArray 37)) = Wa → Fr w Wa.heap.size sh0 [(w.heap.size, pcells p, 37)] (Wa.alloc (.cells (scells v0 (-1)).toArray 30))) := Lib.hid fun Wa e => by subst e; exact fr_start hT hw1 (Blk.new _ _ _) rfl
  generalize hPost : (fun e w' => e = Ending.returned (.bool true) ∧ Below w.heap.size w w') = Post
  have HP : Hid (∀ w', Below w.heap.size w w' → Post (.returned (.bool true)) w') := Lib.hid fun w' h => by rw [← hPost]; exact ⟨rfl, h⟩
  clear hp hoff hok hc hl hcb hzb hlb hS hlt hB hltb hT hN hM hPost hw1
  go_enter Tryd.func5, Tryd.ntmps5
  go_upto_region 1 with fail
  obtain ⟨Wa, hWa⟩ : ∃ W, (w.alloc (.cells (pcells p).toArray 37)) = W := ⟨_, rfl⟩
  have HFN := Lib.hid (HST.out Wa hWa)
  rw [hWa]
  clear HST hWa
  go_upto_region 4 with fail
  refine (fun (k : ∀ W, Fr w Wa.heap.size sh0 [(w.heap.size, pcells p, 37)] W → Code.wp _ _ _ _ W) => k _ HFN.out) ?_
  intro W0 hW0
  obtain ⟨D, hD⟩ : ∃ d, Wa.heap.size = d := ⟨_, rfl⟩
  rw [hD] at hW0 ⊢
  obtain ⟨G, hG⟩ : ∃ g, w.heap.size = g := ⟨_, rfl⟩
  have HGE : Hid (w.heap.size ≤ G) := Lib.hid (Nat.le_of_eq hG)
  rw [hG] at hW0 ⊢
  have HF0 := Lib.hid hW0
  have HBP := Lib.hid (hW0.at (g := G) (cs := pcells p) (t := 37) (by simp))
  clear hW0 hD hG HFN hNi hMi hNd hMd
  have HSZ := Lib.hid (size_pc zeroP_ok)
  have HLZ : Hid ((pcells zeroP).toArray.size = 41) := Lib.hid (by rw [List.size_toArray, pcells_length zeroP_ok])
  go_wp2_with (first | (refine wpL_val rfl (ex_ldP HPO.out HBP.out rfl rfl) ?_) | fail)
  refine (trGet_nil p HPO.out off W0).mono ?_
  rintro e W1 ⟨rfl, hb1⟩
  have HF1 := Lib.hid (HF0.out.below hb1)
  clear hb1 HF0 HBP
  go_upto_region 5 with (first | (refine wpList_store_row rfl 37 (.tmp 10) (.tmp 44) rfl W1.heap.size (pcells zeroP).toArray rfl rfl 37 _ (heap_alloc_new W1 _) HSZ.out (by rw [HLZ.out]; rfl) (one_pc zeroP) ?_) | fail)
  refine (fun (k : ∀ W, Fr w D sh0 [(G, pcells p, 37)] W → Code.wp _ _ _ _ W) => k _ (HF1.out.below (blk_row1 W1 _ (pcells zeroP) 37).2)) ?_
  intro W2 hW2
  generalize W1.heap.size = g10
  have HF2 := Lib.hid hW2
  have HBP := Lib.hid (hW2.at (g := G) (cs := pcells p) (t := 37) (by simp))
  clear hW2 HF1
  go_wp2_with (first | (refine wpL_val rfl (ex_ldP HPO.out HBP.out rfl rfl) ?_) | fail)
  refine (trAll_nil p HPO.out W2).mono ?_
  rintro e W3 ⟨rfl, hb3⟩
  have HF3 := Lib.hid (HF2.out.below hb3)
  have HBP3 := Lib.hid (HBP.out.below hb3 HBP.out.lt)
  clear hb3 HF2 HBP
  go_wp2_with (first | (refine wpL_val rfl (ex_ldP HPO.out HBP3.out rfl rfl) ?_) | fail)
  refine (trSet_nil p HPO.out _ _ W3).mono ?_
  rintro e W4 ⟨rfl, hb4⟩
  have HF4 := Lib.hid (HF3.out.below hb4)
  clear hb4 HF3 HBP3
  go_upto_region 7 with (first | (refine wpList_store_row rfl 37 (.tmp 15) (.tmp 56) rfl W4.heap.size (pcells zeroP).toArray rfl rfl 37 _ (heap_alloc_new W4 _) HSZ.out (by rw [HLZ.out]; rfl) (one_pc zeroP) ?_) | fail)
  refine (fun (k : ∀ W, Fr w D sh0 [(G, pcells p, 37)] W → Code.wp _ _ _ _ W) => k _ (HF4.out.below (blk_row1 W4 _ (pcells zeroP) 37).2)) ?_
  intro W5 hW5
  generalize W4.heap.size = g15
  have HF5 := Lib.hid hW5
  have HBP := Lib.hid (hW5.at (g := G) (cs := pcells p) (t := 37) (by simp))
  clear hW5 HF4
  have HT5 := Lib.hid HF5.out.tab
  have HML : Hid (mayP p = mayR p) := Lib.hid (mayP_eq HPO.out.len)
  go_cut [17] (fun v wx => v = .bool (rootOk p) ∧ Fr w D sh0 [(G, pcells p, 37)] wx)
  case first =>
    obtain ⟨z, hz⟩ : ∃ z, eqP p zeroP = z := ⟨_, rfl⟩
    obtain ⟨m, hm⟩ : ∃ m, mayR p = m := ⟨_, rfl⟩
    obtain ⟨z3, hz3⟩ : ∃ m, decide ((p.kind : Int) = 3) = m := ⟨_, rfl⟩
    obtain ⟨z2, hz2⟩ : ∃ m, decide ((p.level : Int) = 2) = m := ⟨_, rfl⟩
    have hre : rootOk p = (z || (m && z3 && z2)) := by
      unfold rootOk
      rw [hz, HML.out, hm, ← hz3, ← hz2]
      have e3 : decide (p.kind = 3) = decide ((p.kind : Int) = 3) := by rw [Bool.eq_iff_iff]; simp; omega
      have e2 : decide (p.level = 2) = decide ((p.level : Int) = 2) := by rw [Bool.eq_iff_iff]; simp; omega
      rw [e3, e2]
    have HRE := Lib.hid hre; have HZ := Lib.hid hz; have HM2 := Lib.hid hm; have H3 := Lib.hid hz3; have H2 := Lib.hid hz2
    clear hz hm hz3 hz2 hre HML HBP
    cases z
    · cases m
      · as_aux_lemma =>
          have hx0 := HF5.out
          refine wp_region_list ?_
          refine tl_val (S := fun X => Fr w D sh0 [(G, pcells p, 37)] X) (.agg (pcells p).toArray) (by rfl) hx0 (fun X hX => ex_ldP HPO.out (hX.at (g := G) (cs := pcells p) (t := 37) (by simp)) rfl rfl) ?_
          (try simp only [Act.put, List.setIfInBounds_toArray, List.set_cons_zero, List.set_cons_succ])
          refine tl_val (S := fun X => Fr w D sh0 [(G, pcells p, 37)] X) (.agg (pcells zeroP).toArray) (by rfl) hx0 (fun X hX => ex_bld0 rfl) ?_
          (try simp only [Act.put, List.setIfInBounds_toArray, List.set_cons_zero, List.set_cons_succ])
          refine tl_val (S := fun X => Fr w D sh0 [(G, pcells p, 37)] X) (.bool false) (by rfl) hx0 (fun X hX => ex_eqPb HZ.out rfl rfl rfl HPO.out zeroP_ok) ?_
          (try simp only [Act.put, List.setIfInBounds_toArray, List.set_cons_zero, List.set_cons_succ])
          refine tl_val (S := fun X => Fr w D sh0 [(G, pcells p, 37)] X) (.bool false) (by rfl) hx0 (fun X hX => by first | rfl | go_simp) ?_
          (try simp only [Act.put, List.setIfInBounds_toArray, List.set_cons_zero, List.set_cons_succ])
          refine tl_val (S := fun X => Fr w D sh0 [(G, pcells p, 37)] X) (.agg (pcells p).toArray) (by rfl) hx0 (fun X hX => ex_ldP HPO.out (hX.at (g := G) (cs := pcells p) (t := 37) (by simp)) rfl rfl) ?_
          (try simp only [Act.put, List.setIfInBounds_toArray, List.set_cons_zero, List.set_cons_succ])
          refine tl_call (by rfl) 15 #[.agg (pcells p).toArray] (by go_simp) (fun u X => u = .bool false ∧ Fr w D sh0 [(G, pcells p, 37)] X) ((qmay_any p HPO.out _).mono fun e Y ⟨e1, hb⟩ => ⟨_, e1, by rw [HM2.out], HF5.out.below hb⟩) ?_
          rintro u X3 ⟨rfl, hs3⟩
          (try simp only [Act.put, List.setIfInBounds_toArray, List.set_cons_zero, List.set_cons_succ])
          refine tl_val (S := fun X => Fr w D sh0 [(G, pcells p, 37)] X) (.bool false) (by rfl) hs3 (fun X hX => by first | rfl | go_simp) ?_
          (try simp only [Act.put, List.setIfInBounds_toArray, List.set_cons_zero, List.set_cons_succ])
          refine tl_skip (by rfl) ?_
          (try simp only [Act.put, List.setIfInBounds_toArray, List.set_cons_zero, List.set_cons_succ])
          refine tl_skip (by rfl) ?_
          (try simp only [Act.put, List.setIfInBounds_toArray, List.set_cons_zero, List.set_cons_succ])
          refine tl_skip (by rfl) ?_
          (try simp only [Act.put, List.setIfInBounds_toArray, List.set_cons_zero, List.set_cons_succ])
          refine tl_val (S := fun X => Fr w D sh0 [(G, pcells p, 37)] X) (.bool false) (by rfl) hs3 (fun X hX => by first | rfl | go_simp) ?_
          (try simp only [Act.put, List.setIfInBounds_toArray, List.set_cons_zero, List.set_cons_succ])
          refine tl_val (S := fun X => Fr w D sh0 [(G, pcells p, 37)] X) (.bool false) (by rfl) hs3 (fun X hX => by first | rfl | go_simp) ?_
          (try simp only [Act.put, List.setIfInBounds_toArray, List.set_cons_zero, List.set_cons_succ])
          refine tl_skip (by rfl) ?_
          (try simp only [Act.put, List.setIfInBounds_toArray, List.set_cons_zero, List.set_cons_succ])
          refine tl_skip (by rfl) ?_
          (try simp only [Act.put, List.setIfInBounds_toArray, List.set_cons_zero, List.set_cons_succ])
          refine tl_skip (by rfl) ?_
          (try simp only [Act.put, List.setIfInBounds_toArray, List.set_cons_zero, List.set_cons_succ])
          refine tl_val (S := fun X => Fr w D sh0 [(G, pcells p, 37)] X) (.bool false) (by rfl) hs3 (fun X hX => by first | rfl | go_simp) ?_
          (try simp only [Act.put, List.setIfInBounds_toArray, List.set_cons_zero, List.set_cons_succ])
          refine tl_val (S := fun X => Fr w D sh0 [(G, pcells p, 37)] X) (.bool false) (by rfl) hs3 (fun X hX => by first | rfl | go_simp) ?_
          (try simp only [Act.put, List.setIfInBounds_toArray, List.set_cons_zero, List.set_cons_succ])
          refine tl_val (S := fun X => Fr w D sh0 [(G, pcells p, 37)] X) (.bool false) (by rfl) hs3 (fun X hX => by first | rfl | go_simp) ?_
          (try simp only [Act.put, List.setIfInBounds_toArray, List.set_cons_zero, List.set_cons_succ])
          refine wpList_nil ?_
          have HF6 := Lib.hid hs3
          go_wp2_with fail
          go_meet
          case rel => exact ⟨by rw [HRE.out]; rfl, HF6.out⟩
      · cases z3
        · as_aux_lemma =>
            have hx0 := HF5.out
            refine wp_region_list ?_
            refine tl_val (S := fun X => Fr w D sh0 [(G, pcells p, 37)] X) (.agg (pcells p).toArray) (by rfl) hx0 (fun X hX => ex_ldP HPO.out (hX.at (g := G) (cs := pcells p) (t := 37) (by simp)) rfl rfl) ?_
            (try simp only [Act.put, List.setIfInBounds_toArray, List.set_cons_zero, List.set_cons_succ])
            refine tl_val (S := fun X => Fr w D sh0 [(G, pcells p, 37)] X) (.agg (pcells zeroP).toArray) (by rfl) hx0 (fun X hX => ex_bld0 rfl) ?_
            (try simp only [Act.put, List.setIfInBounds_toArray, List.set_cons_zero, List.set_cons_succ])
            refine tl_val (S := fun X => Fr w D sh0 [(G, pcells p, 37)] X) (.bool false) (by rfl) hx0 (fun X hX => ex_eqPb HZ.out rfl rfl rfl HPO.out zeroP_ok) ?_
            (try simp only [Act.put, List.setIfInBounds_toArray, List.set_cons_zero, List.set_cons_succ])
            refine tl_val (S := fun X => Fr w D sh0 [(G, pcells p, 37)] X) (.bool false) (by rfl) hx0 (fun X hX => by first | rfl | go_simp) ?_
            (try simp only [Act.put, List.setIfInBounds_toArray, List.set_cons_zero, List.set_cons_succ])
            refine tl_val (S := fun X => Fr w D sh0 [(G, pcells p, 37)] X) (.agg (pcells p).toArray) (by rfl) hx0 (fun X hX => ex_ldP HPO.out (hX.at (g := G) (cs := pcells p) (t := 37) (by simp)) rfl rfl) ?_
            (try simp only [Act.put, List.setIfInBounds_toArray, List.set_cons_zero, List.set_cons_succ])
            refine tl_call (by rfl) 15 #[.agg (pcells p).toArray] (by go_simp) (fun u X => u = .bool true ∧ Fr w D sh0 [(G, pcells p, 37)] X) ((qmay_any p HPO.out _).mono fun e Y ⟨e1, hb⟩ => ⟨_, e1, by rw [HM2.out], HF5.out.below hb⟩) ?_
            rintro u X3 ⟨rfl, hs3⟩
            (try simp only [Act.put, List.setIfInBounds_toArray, List.set_cons_zero, List.set_cons_succ])
            refine tl_val (S := fun X => Fr w D sh0 [(G, pcells p, 37)] X) (.bool true) (by rfl) hs3 (fun X hX => by first | rfl | go_simp) ?_
            (try simp only [Act.put, List.setIfInBounds_toArray, List.set_cons_zero, List.set_cons_succ])
            refine tl_val (S := fun X => Fr w D sh0 [(G, pcells p, 37)] X) (.pointer (some ⟨G, 0, none⟩)) (by rfl) hs3 (fun X hX => by first | rfl | go_simp) ?_
            (try simp only [Act.put, List.setIfInBounds_toArray, List.set_cons_zero, List.set_cons_succ])
            refine tl_val (S := fun X => Fr w D sh0 [(G, pcells p, 37)] X) (.int .u8 (p.kind : Int)) (by rfl) hs3 (fun X hX => ex_ld1 Tryd.underlying5 rfl rfl ((hX.at (g := G) (cs := pcells p) (t := 37) (by simp)).cell (j := 0) rfl)) ?_
            (try simp only [Act.put, List.setIfInBounds_toArray, List.set_cons_zero, List.set_cons_succ])
            refine tl_val (S := fun X => Fr w D sh0 [(G, pcells p, 37)] X) (.bool false) (by rfl) hs3 (fun X hX => (ex_eqi Tryd.underlying5 rfl rfl rfl).trans (by rw [H3.out])) ?_
            (try simp only [Act.put, List.setIfInBounds_toArray, List.set_cons_zero, List.set_cons_succ])
            refine tl_val (S := fun X => Fr w D sh0 [(G, pcells p, 37)] X) (.bool false) (by rfl) hs3 (fun X hX => by first | rfl | go_simp) ?_
            (try simp only [Act.put, List.setIfInBounds_toArray, List.set_cons_zero, List.set_cons_succ])
            refine tl_val (S := fun X => Fr w D sh0 [(G, pcells p, 37)] X) (.bool false) (by rfl) hs3 (fun X hX => by first | rfl | go_simp) ?_
            (try simp only [Act.put, List.setIfInBounds_toArray, List.set_cons_zero, List.set_cons_succ])
            refine tl_skip (by rfl) ?_
            (try simp only [Act.put, List.setIfInBounds_toArray, List.set_cons_zero, List.set_cons_succ])
            refine tl_skip (by rfl) ?_
            (try simp only [Act.put, List.setIfInBounds_toArray, List.set_cons_zero, List.set_cons_succ])
            refine tl_skip (by rfl) ?_
            (try simp only [Act.put, List.setIfInBounds_toArray, List.set_cons_zero, List.set_cons_succ])
            refine tl_val (S := fun X => Fr w D sh0 [(G, pcells p, 37)] X) (.bool false) (by rfl) hs3 (fun X hX => by first | rfl | go_simp) ?_
            (try simp only [Act.put, List.setIfInBounds_toArray, List.set_cons_zero, List.set_cons_succ])
            refine tl_val (S := fun X => Fr w D sh0 [(G, pcells p, 37)] X) (.bool false) (by rfl) hs3 (fun X hX => by first | rfl | go_simp) ?_
            (try simp only [Act.put, List.setIfInBounds_toArray, List.set_cons_zero, List.set_cons_succ])
            refine tl_val (S := fun X => Fr w D sh0 [(G, pcells p, 37)] X) (.bool false) (by rfl) hs3 (fun X hX => by first | rfl | go_simp) ?_
            (try simp only [Act.put, List.setIfInBounds_toArray, List.set_cons_zero, List.set_cons_succ])
            refine wpList_nil ?_
            have HF6 := Lib.hid hs3
            go_wp2_with fail
            go_meet
            case rel => exact ⟨by rw [HRE.out]; rfl, HF6.out⟩
        · cases z2
          · as_aux_lemma =>
              have hx0 := HF5.out
              refine wp_region_list ?_
              refine tl_val (S := fun X => Fr w D sh0 [(G, pcells p, 37)] X) (.agg (pcells p).toArray) (by rfl) hx0 (fun X hX => ex_ldP HPO.out (hX.at (g := G) (cs := pcells p) (t := 37) (by simp)) rfl rfl) ?_
              (try simp only [Act.put, List.setIfInBounds_toArray, List.set_cons_zero, List.set_cons_succ])
              refine tl_val (S := fun X => Fr w D sh0 [(G, pcells p, 37)] X) (.agg (pcells zeroP).toArray) (by rfl) hx0 (fun X hX => ex_bld0 rfl) ?_
              (try simp only [Act.put, List.setIfInBounds_toArray, List.set_cons_zero, List.set_cons_succ])
              refine tl_val (S := fun X => Fr w D sh0 [(G, pcells p, 37)] X) (.bool false) (by rfl) hx0 (fun X hX => ex_eqPb HZ.out rfl rfl rfl HPO.out zeroP_ok) ?_
              (try simp only [Act.put, List.setIfInBounds_toArray, List.set_cons_zero, List.set_cons_succ])
              refine tl_val (S := fun X => Fr w D sh0 [(G, pcells p, 37)] X) (.bool false) (by rfl) hx0 (fun X hX => by first | rfl | go_simp) ?_
              (try simp only [Act.put, List.setIfInBounds_toArray, List.set_cons_zero, List.set_cons_succ])
              refine tl_val (S := fun X => Fr w D sh0 [(G, pcells p, 37)] X) (.agg (pcells p).toArray) (by rfl) hx0 (fun X hX => ex_ldP HPO.out (hX.at (g := G) (cs := pcells p) (t := 37) (by simp)) rfl rfl) ?_
              (try simp only [Act.put, List.setIfInBounds_toArray, List.set_cons_zero, List.set_cons_succ])
              refine tl_call (by rfl) 15 #[.agg (pcells p).toArray] (by go_simp) (fun u X => u = .bool true ∧ Fr w D sh0 [(G, pcells p, 37)] X) ((qmay_any p HPO.out _).mono fun e Y ⟨e1, hb⟩ => ⟨_, e1, by rw [HM2.out], HF5.out.below hb⟩) ?_
              rintro u X3 ⟨rfl, hs3⟩
              (try simp only [Act.put, List.setIfInBounds_toArray, List.set_cons_zero, List.set_cons_succ])
              refine tl_val (S := fun X => Fr w D sh0 [(G, pcells p, 37)] X) (.bool true) (by rfl) hs3 (fun X hX => by first | rfl | go_simp) ?_
              (try simp only [Act.put, List.setIfInBounds_toArray, List.set_cons_zero, List.set_cons_succ])
              refine tl_val (S := fun X => Fr w D sh0 [(G, pcells p, 37)] X) (.pointer (some ⟨G, 0, none⟩)) (by rfl) hs3 (fun X hX => by first | rfl | go_simp) ?_
              (try simp only [Act.put, List.setIfInBounds_toArray, List.set_cons_zero, List.set_cons_succ])
              refine tl_val (S := fun X => Fr w D sh0 [(G, pcells p, 37)] X) (.int .u8 (p.kind : Int)) (by rfl) hs3 (fun X hX => ex_ld1 Tryd.underlying5 rfl rfl ((hX.at (g := G) (cs := pcells p) (t := 37) (by simp)).cell (j := 0) rfl)) ?_
              (try simp only [Act.put, List.setIfInBounds_toArray, List.set_cons_zero, List.set_cons_succ])
              refine tl_val (S := fun X => Fr w D sh0 [(G, pcells p, 37)] X) (.bool true) (by rfl) hs3 (fun X hX => (ex_eqi Tryd.underlying5 rfl rfl rfl).trans (by rw [H3.out])) ?_
              (try simp only [Act.put, List.setIfInBounds_toArray, List.set_cons_zero, List.set_cons_succ])
              refine tl_val (S := fun X => Fr w D sh0 [(G, pcells p, 37)] X) (.bool true) (by rfl) hs3 (fun X hX => by first | rfl | go_simp) ?_
              (try simp only [Act.put, List.setIfInBounds_toArray, List.set_cons_zero, List.set_cons_succ])
              refine tl_val (S := fun X => Fr w D sh0 [(G, pcells p, 37)] X) (.bool true) (by rfl) hs3 (fun X hX => by first | rfl | go_simp) ?_
              (try simp only [Act.put, List.setIfInBounds_toArray, List.set_cons_zero, List.set_cons_succ])
              refine tl_val (S := fun X => Fr w D sh0 [(G, pcells p, 37)] X) (.pointer (some ⟨G, 1, none⟩)) (by rfl) hs3 (fun X hX => by first | rfl | go_simp) ?_
              (try simp only [Act.put, List.setIfInBounds_toArray, List.set_cons_zero, List.set_cons_succ])
              refine tl_val (S := fun X => Fr w D sh0 [(G, pcells p, 37)] X) (.int .u8 (p.level : Int)) (by rfl) hs3 (fun X hX => ex_ld1 Tryd.underlying5 rfl rfl ((hX.at (g := G) (cs := pcells p) (t := 37) (by simp)).cell (j := 1) rfl)) ?_
              (try simp only [Act.put, List.setIfInBounds_toArray, List.set_cons_zero, List.set_cons_succ])
              refine tl_val (S := fun X => Fr w D sh0 [(G, pcells p, 37)] X) (.bool false) (by rfl) hs3 (fun X hX => (ex_eqi Tryd.underlying5 rfl rfl rfl).trans (by rw [H2.out])) ?_
              (try simp only [Act.put, List.setIfInBounds_toArray, List.set_cons_zero, List.set_cons_succ])
              refine tl_val (S := fun X => Fr w D sh0 [(G, pcells p, 37)] X) (.bool false) (by rfl) hs3 (fun X hX => by first | rfl | go_simp) ?_
              (try simp only [Act.put, List.setIfInBounds_toArray, List.set_cons_zero, List.set_cons_succ])
              refine tl_val (S := fun X => Fr w D sh0 [(G, pcells p, 37)] X) (.bool false) (by rfl) hs3 (fun X hX => by first | rfl | go_simp) ?_
              (try simp only [Act.put, List.setIfInBounds_toArray, List.set_cons_zero, List.set_cons_succ])
              refine tl_val (S := fun X => Fr w D sh0 [(G, pcells p, 37)] X) (.bool false) (by rfl) hs3 (fun X hX => by first | rfl | go_simp) ?_
              (try simp only [Act.put, List.setIfInBounds_toArray, List.set_cons_zero, List.set_cons_succ])
              refine wpList_nil ?_
              have HF6 := Lib.hid hs3
              go_wp2_with fail
              go_meet
              case rel => exact ⟨by rw [HRE.out]; rfl, HF6.out⟩
          · as_aux_lemma =>
              have hx0 := HF5.out
              refine wp_region_list ?_
              refine tl_val (S := fun X => Fr w D sh0 [(G, pcells p, 37)] X) (.agg (pcells p).toArray) (by rfl) hx0 (fun X hX => ex_ldP HPO.out (hX.at (g := G) (cs := pcells p) (t := 37) (by simp)) rfl rfl) ?_
              (try simp only [Act.put, List.setIfInBounds_toArray, List.set_cons_zero, List.set_cons_succ])
              refine tl_val (S := fun X => Fr w D sh0 [(G, pcells p, 37)] X) (.agg (pcells zeroP).toArray) (by rfl) hx0 (fun X hX => ex_bld0 rfl) ?_
              (try simp only [Act.put, List.setIfInBounds_toArray, List.set_cons_zero, List.set_cons_succ])
              refine tl_val (S := fun X => Fr w D sh0 [(G, pcells p, 37)] X) (.bool false) (by rfl) hx0 (fun X hX => ex_eqPb HZ.out rfl rfl rfl HPO.out zeroP_ok) ?_
              (try simp only [Act.put, List.setIfInBounds_toArray, List.set_cons_zero, List.set_cons_succ])
              refine tl_val (S := fun X => Fr w D sh0 [(G, pcells p, 37)] X) (.bool false) (by rfl) hx0 (fun X hX => by first | rfl | go_simp) ?_
              (try simp only [Act.put, List.setIfInBounds_toArray, List.set_cons_zero, List.set_cons_succ])
              refine tl_val (S := fun X => Fr w D sh0 [(G, pcells p, 37)] X) (.agg (pcells p).toArray) (by rfl) hx0 (fun X hX => ex_ldP HPO.out (hX.at (g := G) (cs := pcells p) (t := 37) (by simp)) rfl rfl) ?_
              (try simp only [Act.put, List.setIfInBounds_toArray, List.set_cons_zero, List.set_cons_succ])
              refine tl_call (by rfl) 15 #[.agg (pcells p).toArray] (by go_simp) (fun u X => u = .bool true ∧ Fr w D sh0 [(G, pcells p, 37)] X) ((qmay_any p HPO.out _).mono fun e Y ⟨e1, hb⟩ => ⟨_, e1, by rw [HM2.out], HF5.out.below hb⟩) ?_
              rintro u X3 ⟨rfl, hs3⟩
              (try simp only [Act.put, List.setIfInBounds_toArray, List.set_cons_zero, List.set_cons_succ])
              refine tl_val (S := fun X => Fr w D sh0 [(G, pcells p, 37)] X) (.bool true) (by rfl) hs3 (fun X hX => by first | rfl | go_simp) ?_
              (try simp only [Act.put, List.setIfInBounds_toArray, List.set_cons_zero, List.set_cons_succ])
              refine tl_val (S := fun X => Fr w D sh0 [(G, pcells p, 37)] X) (.pointer (some ⟨G, 0, none⟩)) (by rfl) hs3 (fun X hX => by first | rfl | go_simp) ?_
              (try simp only [Act.put, List.setIfInBounds_toArray, List.set_cons_zero, List.set_cons_succ])
              refine tl_val (S := fun X => Fr w D sh0 [(G, pcells p, 37)] X) (.int .u8 (p.kind : Int)) (by rfl) hs3 (fun X hX => ex_ld1 Tryd.underlying5 rfl rfl ((hX.at (g := G) (cs := pcells p) (t := 37) (by simp)).cell (j := 0) rfl)) ?_
              (try simp only [Act.put, List.setIfInBounds_toArray, List.set_cons_zero, List.set_cons_succ])
              refine tl_val (S := fun X => Fr w D sh0 [(G, pcells p, 37)] X) (.bool true) (by rfl) hs3 (fun X hX => (ex_eqi Tryd.underlying5 rfl rfl rfl).trans (by rw [H3.out])) ?_
              (try simp only [Act.put, List.setIfInBounds_toArray, List.set_cons_zero, List.set_cons_succ])
              refine tl_val (S := fun X => Fr w D sh0 [(G, pcells p, 37)] X) (.bool true) (by rfl) hs3 (fun X hX => by first | rfl | go_simp) ?_
              (try simp only [Act.put, List.setIfInBounds_toArray, List.set_cons_zero, List.set_cons_succ])
              refine tl_val (S := fun X => Fr w D sh0 [(G, pcells p, 37)] X) (.bool true) (by rfl) hs3 (fun X hX => by first | rfl | go_simp) ?_
              (try simp only [Act.put, List.setIfInBounds_toArray, List.set_cons_zero, List.set_cons_succ])
              refine tl_val (S := fun X => Fr w D sh0 [(G, pcells p, 37)] X) (.pointer (some ⟨G, 1, none⟩)) (by rfl) hs3 (fun X hX => by first | rfl | go_simp) ?_
              (try simp only [Act.put, List.setIfInBounds_toArray, List.set_cons_zero, List.set_cons_succ])
              refine tl_val (S := fun X => Fr w D sh0 [(G, pcells p, 37)] X) (.int .u8 (p.level : Int)) (by rfl) hs3 (fun X hX => ex_ld1 Tryd.underlying5 rfl rfl ((hX.at (g := G) (cs := pcells p) (t := 37) (by simp)).cell (j := 1) rfl)) ?_
              (try simp only [Act.put, List.setIfInBounds_toArray, List.set_cons_zero, List.set_cons_succ])
              refine tl_val (S := fun X => Fr w D sh0 [(G, pcells p, 37)] X) (.bool true) (by rfl) hs3 (fun X hX => (ex_eqi Tryd.underlying5 rfl rfl rfl).trans (by rw [H2.out])) ?_
              (try simp only [Act.put, List.setIfInBounds_toArray, List.set_cons_zero, List.set_cons_succ])
              refine tl_val (S := fun X => Fr w D sh0 [(G, pcells p, 37)] X) (.bool true) (by rfl) hs3 (fun X hX => by first | rfl | go_simp) ?_
              (try simp only [Act.put, List.setIfInBounds_toArray, List.set_cons_zero, List.set_cons_succ])
              refine tl_val (S := fun X => Fr w D sh0 [(G, pcells p, 37)] X) (.bool true) (by rfl) hs3 (fun X hX => by first | rfl | go_simp) ?_
              (try simp only [Act.put, List.setIfInBounds_toArray, List.set_cons_zero, List.set_cons_succ])
              refine tl_val (S := fun X => Fr w D sh0 [(G, pcells p, 37)] X) (.bool true) (by rfl) hs3 (fun X hX => by first | rfl | go_simp) ?_
              (try simp only [Act.put, List.setIfInBounds_toArray, List.set_cons_zero, List.set_cons_succ])
              refine wpList_nil ?_
              have HF6 := Lib.hid hs3
              go_wp2_with fail
              go_meet
              case rel => exact ⟨by rw [HRE.out]; rfl, HF6.out⟩
    · obtain ⟨z, hz⟩ : ∃ z, true = z := ⟨_, rfl⟩
      rw [hz] at HZ
      have HZT := Lib.hid hz.symm
      clear hz
      as_aux_lemma =>
        have hx0 := HF5.out
        refine wp_region_list ?_
        refine tl_val (S := fun X => Fr w D sh0 [(G, pcells p, 37)] X) (.agg (pcells p).toArray) (by rfl) hx0 (fun X hX => ex_ldP HPO.out (hX.at (g := G) (cs := pcells p) (t := 37) (by simp)) rfl rfl) ?_
        (try simp only [Act.put, List.setIfInBounds_toArray, List.set_cons_zero, List.set_cons_succ])
        refine tl_val (S := fun X => Fr w D sh0 [(G, pcells p, 37)] X) (.agg (pcells zeroP).toArray) (by rfl) hx0 (fun X hX => ex_bld0 rfl) ?_
        (try simp only [Act.put, List.setIfInBounds_toArray, List.set_cons_zero, List.set_cons_succ])
        refine tl_val (S := fun X => Fr w D sh0 [(G, pcells p, 37)] X) (.bool z) (by rfl) hx0 (fun X hX => ex_eqPb HZ.out rfl rfl rfl HPO.out zeroP_ok) ?_
        (try simp only [Act.put, List.setIfInBounds_toArray, List.set_cons_zero, List.set_cons_succ])
        refine tl_val (S := fun X => Fr w D sh0 [(G, pcells p, 37)] X) (.bool z) (by rfl) hx0 (fun X hX => by first | rfl | go_simp) ?_
        (try simp only [Act.put, List.setIfInBounds_toArray, List.set_cons_zero, List.set_cons_succ])
        refine tl_skip (by first | rfl | (rw [HZT.out]; rfl)) ?_
        (try simp only [Act.put, List.setIfInBounds_toArray, List.set_cons_zero, List.set_cons_succ])
        refine tl_skip (by first | rfl | (rw [HZT.out]; rfl)) ?_
        (try simp only [Act.put, List.setIfInBounds_toArray, List.set_cons_zero, List.set_cons_succ])
        refine tl_skip (by first | rfl | (rw [HZT.out]; rfl)) ?_
        (try simp only [Act.put, List.setIfInBounds_toArray, List.set_cons_zero, List.set_cons_succ])
        refine tl_skip (by first | rfl | (rw [HZT.out]; rfl)) ?_
        (try simp only [Act.put, List.setIfInBounds_toArray, List.set_cons_zero, List.set_cons_succ])
        refine tl_skip (by first | rfl | (rw [HZT.out]; rfl)) ?_
        (try simp only [Act.put, List.setIfInBounds_toArray, List.set_cons_zero, List.set_cons_succ])
        refine tl_skip (by first | rfl | (rw [HZT.out]; rfl)) ?_
        (try simp only [Act.put, List.setIfInBounds_toArray, List.set_cons_zero, List.set_cons_succ])
        refine tl_skip (by first | rfl | (rw [HZT.out]; rfl)) ?_
        (try simp only [Act.put, List.setIfInBounds_toArray, List.set_cons_zero, List.set_cons_succ])
        refine tl_skip (by first | rfl | (rw [HZT.out]; rfl)) ?_
        (try simp only [Act.put, List.setIfInBounds_toArray, List.set_cons_zero, List.set_cons_succ])
        refine tl_skip (by first | rfl | (rw [HZT.out]; rfl)) ?_
        (try simp only [Act.put, List.setIfInBounds_toArray, List.set_cons_zero, List.set_cons_succ])
        refine tl_skip (by first | rfl | (rw [HZT.out]; rfl)) ?_
        (try simp only [Act.put, List.setIfInBounds_toArray, List.set_cons_zero, List.set_cons_succ])
        refine tl_skip (by first | rfl | (rw [HZT.out]; rfl)) ?_
        (try simp only [Act.put, List.setIfInBounds_toArray, List.set_cons_zero, List.set_cons_succ])
        refine tl_skip (by first | rfl | (rw [HZT.out]; rfl)) ?_
        (try simp only [Act.put, List.setIfInBounds_toArray, List.set_cons_zero, List.set_cons_succ])
        refine tl_val (S := fun X => Fr w D sh0 [(G, pcells p, 37)] X) (.bool true) (by rfl) hx0 (fun X hX => by rw [HZT.out]; rfl) ?_
        (try simp only [Act.put, List.setIfInBounds_toArray, List.set_cons_zero, List.set_cons_succ])
        refine tl_val (S := fun X => Fr w D sh0 [(G, pcells p, 37)] X) (.bool true) (by rfl) hx0 (fun X hX => by first | rfl | go_simp) ?_
        (try simp only [Act.put, List.setIfInBounds_toArray, List.set_cons_zero, List.set_cons_succ])
        refine wpList_nil ?_
        have HF6 := Lib.hid hx0
        go_wp2_with fail
        go_meet
        case rel => exact ⟨by rw [HRE.out]; rfl, HF6.out⟩
  case rest =>
  obtain ⟨rfl, hf7⟩ := hcut
  have HF7 := Lib.hid hf7
  clear hf7 HF5 HBP HT5 HML
  obtain ⟨A, hA⟩ : ∃ A, rootOk p = A := ⟨_, rfl⟩
  have HA := Lib.hid hA
  rw [hA]
  clear hA
  go_wp2_with fail
  go_loopw [18, 19] (fun s v wr => ∃ k : Nat, k ≤ N ∧ v = .int .i64 (k : Int) ∧ s = .bool (A && goodTo l k) ∧ Fr w D sh0 [(G, pcells p, 37)] wr) (fun s v _ => N - (intOf v).toNat)
  case atStart => exact ⟨0, by omega, rfl, by rw [show goodTo l 0 = true from rfl, Bool.and_true], HF7.out⟩
  case round =>
  clear HF7
  obtain ⟨k, hk, rfl, rfl, hst⟩ := hrel
  have HF8 := Lib.hid hst
  clear hst
  have wk1 := IntWalk.i64_in ((k : Int) + 1) (by have := HL.out; have := HN.out; omega)
  by_cases hlt : k < N
  · obtain ⟨x, hx⟩ : ∃ x, l[k]? = some x := ⟨_, List.getElem?_eq_getElem (by have := HN.out; omega)⟩
    obtain ⟨g, o', rfl, hg⟩ := HS.out.form (by have := HN.out; omega)
    have HX := Lib.hid hx
    have HXO : Hid (Lf.OK x) := Lib.hid (HOK.out x (List.mem_of_getElem? hx))
    have HSX : Hid (∀ X, Fr w D sh0 [(G, pcells p, 37)] X → X.rangeAt g (o' + k * 42) (lcells x)) := Lib.hid (fun X hX => (HS.out.grown hX.bel).at hx)
    have HKN : Hid (k < N ∧ N ≤ cap) := Lib.hid ⟨hlt, by have := HC.out; have := HN.out; omega⟩
    obtain ⟨xo, hxo⟩ : ∃ n, x.1 = n := ⟨_, rfl⟩
    have HXo := Lib.hid hxo
    have hltd : decide ((k : Int) < (N : Int)) = true := by simp; omega
    have hlti : (k : Int) < (N : Int) := by omega
    clear hx hg hxo
    obtain ⟨B, hB⟩ : ∃ B, (A && goodTo l k) = B := ⟨_, rfl⟩
    have HB := Lib.hid hB
    rw [hB]
    clear hB
    go_upto_region 12 with fail
    have hx0 : Fr w D sh0 [(G, pcells p, 37)] wr.drew := HF8.out.drew
    cases B
    · have HR : Hid ((A && goodTo l (k + 1)) = false) := Lib.hid (by rw [goodTo_succ, ← Bool.and_assoc, HB.out]; rfl)
      as_aux_lemma =>
        refine wp_region_sched (.take 0 (.take 1 (.take 2 (.take 3 (.take 4 (.take 5 (.take 6 (.take 7 (.take 8 (.take 9 (.take 10 (.take 11 (.take 12 (.take 13 (.take 14 (.take 15 (.take 16 (.take 17 (.take 18 (.take 19 (.take 20 (.take 21 (.take 22 (.take 23 (.take 24 (.take 25 (.take 26 (.take 27 (.take 28 (.take 29 (.take 30 (.take 31 (.take 32 (.take 33 (.take 34 (.take 35 (.take 36 (.take 37 (.take 38 (.take 39 (.take 40 (.step 41 (.take 42 (.take 43 (.take 44 (.nil)))))))))))))))))))))))))))))))))))))))))))))) (by kernel_rfl) (by kernel_rfl) (fun d _ _ _ _ h => by cases d <;> exact h) (fun X => Fr w D sh0 [(G, pcells p, 37)] X) (hx0) ?_
        refine wpG_take _ (.bool false) rfl (by rfl) (fun X hX => by first | rfl | go_simp) ?_
        (try simp only [Act.put, List.setIfInBounds_toArray, List.set_cons_zero, List.set_cons_succ])
        refine wpG_take _ (.bool false) rfl (by rfl) (fun X hX => by first | rfl | go_simp) ?_
        (try simp only [Act.put, List.setIfInBounds_toArray, List.set_cons_zero, List.set_cons_succ])
        refine wpG_pass _ rfl (by rfl) ?_
        (try simp only [Act.put, List.setIfInBounds_toArray, List.set_cons_zero, List.set_cons_succ])
        refine wpG_pass _ rfl (by rfl) ?_
        (try simp only [Act.put, List.setIfInBounds_toArray, List.set_cons_zero, List.set_cons_succ])
        refine wpG_pass _ rfl (by rfl) ?_
        (try simp only [Act.put, List.setIfInBounds_toArray, List.set_cons_zero, List.set_cons_succ])
        refine wpG_pass _ rfl (by rfl) ?_
        (try simp only [Act.put, List.setIfInBounds_toArray, List.set_cons_zero, List.set_cons_succ])
        refine wpG_pass _ rfl (by rfl) ?_
        (try simp only [Act.put, List.setIfInBounds_toArray, List.set_cons_zero, List.set_cons_succ])
        refine wpG_pass _ rfl (by rfl) ?_
        (try simp only [Act.put, List.setIfInBounds_toArray, List.set_cons_zero, List.set_cons_succ])
        refine wpG_take _ (.bool false) rfl (by rfl) (fun X hX => by first | rfl | go_simp) ?_
        (try simp only [Act.put, List.setIfInBounds_toArray, List.set_cons_zero, List.set_cons_succ])
        refine wpG_take _ (.bool false) rfl (by rfl) (fun X hX => by first | rfl | go_simp) ?_
        (try simp only [Act.put, List.setIfInBounds_toArray, List.set_cons_zero, List.set_cons_succ])
        refine wpG_pass _ rfl (by rfl) ?_
        (try simp only [Act.put, List.setIfInBounds_toArray, List.set_cons_zero, List.set_cons_succ])
        refine wpG_pass _ rfl (by rfl) ?_
        (try simp only [Act.put, List.setIfInBounds_toArray, List.set_cons_zero, List.set_cons_succ])
        refine wpG_pass _ rfl (by rfl) ?_
        (try simp only [Act.put, List.setIfInBounds_toArray, List.set_cons_zero, List.set_cons_succ])
        refine wpG_pass _ rfl (by rfl) ?_
        (try simp only [Act.put, List.setIfInBounds_toArray, List.set_cons_zero, List.set_cons_succ])
        refine wpG_pass _ rfl (by rfl) ?_
        (try simp only [Act.put, List.setIfInBounds_toArray, List.set_cons_zero, List.set_cons_succ])
        refine wpG_pass _ rfl (by rfl) ?_
        (try simp only [Act.put, List.setIfInBounds_toArray, List.set_cons_zero, List.set_cons_succ])
        refine wpG_pass _ rfl (by rfl) ?_
        (try simp only [Act.put, List.setIfInBounds_toArray, List.set_cons_zero, List.set_cons_succ])
        refine wpG_pass _ rfl (by rfl) ?_
        (try simp only [Act.put, List.setIfInBounds_toArray, List.set_cons_zero, List.set_cons_succ])
        refine wpG_pass _ rfl (by rfl) ?_
        (try simp only [Act.put, List.setIfInBounds_toArray, List.set_cons_zero, List.set_cons_succ])
        refine wpG_pass _ rfl (by rfl) ?_
        (try simp only [Act.put, List.setIfInBounds_toArray, List.set_cons_zero, List.set_cons_succ])
        refine wpG_pass _ rfl (by rfl) ?_
        (try simp only [Act.put, List.setIfInBounds_toArray, List.set_cons_zero, List.set_cons_succ])
        refine wpG_pass _ rfl (by rfl) ?_
        (try simp only [Act.put, List.setIfInBounds_toArray, List.set_cons_zero, List.set_cons_succ])
        refine wpG_pass _ rfl (by rfl) ?_
        (try simp only [Act.put, List.setIfInBounds_toArray, List.set_cons_zero, List.set_cons_succ])
        refine wpG_pass _ rfl (by rfl) ?_
        (try simp only [Act.put, List.setIfInBounds_toArray, List.set_cons_zero, List.set_cons_succ])
        refine wpG_pass _ rfl (by rfl) ?_
        (try simp only [Act.put, List.setIfInBounds_toArray, List.set_cons_zero, List.set_cons_succ])
        refine wpG_pass _ rfl (by rfl) ?_
        (try simp only [Act.put, List.setIfInBounds_toArray, List.set_cons_zero, List.set_cons_succ])
        refine wpG_take _ (.bool false) rfl (by rfl) (fun X hX => by first | rfl | go_simp) ?_
        (try simp only [Act.put, List.setIfInBounds_toArray, List.set_cons_zero, List.set_cons_succ])
        refine wpG_take _ (.bool false) rfl (by rfl) (fun X hX => by first | rfl | go_simp) ?_
        (try simp only [Act.put, List.setIfInBounds_toArray, List.set_cons_zero, List.set_cons_succ])
        refine wpG_pass _ rfl (by rfl) ?_
        (try simp only [Act.put, List.setIfInBounds_toArray, List.set_cons_zero, List.set_cons_succ])
        refine wpG_pass _ rfl (by rfl) ?_
        (try simp only [Act.put, List.setIfInBounds_toArray, List.set_cons_zero, List.set_cons_succ])
        refine wpG_pass _ rfl (by rfl) ?_
        (try simp only [Act.put, List.setIfInBounds_toArray, List.set_cons_zero, List.set_cons_succ])
        refine wpG_pass _ rfl (by rfl) ?_
        (try simp only [Act.put, List.setIfInBounds_toArray, List.set_cons_zero, List.set_cons_succ])
        refine wpG_pass _ rfl (by rfl) ?_
        (try simp only [Act.put, List.setIfInBounds_toArray, List.set_cons_zero, List.set_cons_succ])
        refine wpG_pass _ rfl (by rfl) ?_
        (try simp only [Act.put, List.setIfInBounds_toArray, List.set_cons_zero, List.set_cons_succ])
        refine wpG_pass _ rfl (by rfl) ?_
        (try simp only [Act.put, List.setIfInBounds_toArray, List.set_cons_zero, List.set_cons_succ])
        refine wpG_pass _ rfl (by rfl) ?_
        (try simp only [Act.put, List.setIfInBounds_toArray, List.set_cons_zero, List.set_cons_succ])
        refine wpG_pass _ rfl (by rfl) ?_
        (try simp only [Act.put, List.setIfInBounds_toArray, List.set_cons_zero, List.set_cons_succ])
        refine wpG_pass _ rfl (by rfl) ?_
        (try simp only [Act.put, List.setIfInBounds_toArray, List.set_cons_zero, List.set_cons_succ])
        refine wpG_pass _ rfl (by rfl) ?_
        (try simp only [Act.put, List.setIfInBounds_toArray, List.set_cons_zero, List.set_cons_succ])
        refine wpG_pass _ rfl (by rfl) ?_
        (try simp only [Act.put, List.setIfInBounds_toArray, List.set_cons_zero, List.set_cons_succ])
        refine wpG_pass _ rfl (by rfl) ?_
        (try simp only [Act.put, List.setIfInBounds_toArray, List.set_cons_zero, List.set_cons_succ])
        refine wpG_skip _ rfl (by rfl) hx0 ?_
        (try simp only [Act.put, List.setIfInBounds_toArray, List.set_cons_zero, List.set_cons_succ])
        refine wpG_pass _ rfl (by rfl) ?_
        (try simp only [Act.put, List.setIfInBounds_toArray, List.set_cons_zero, List.set_cons_succ])
        refine wpG_take _ (.bool false) rfl (by rfl) (fun X hX => by first | rfl | go_simp) ?_
        (try simp only [Act.put, List.setIfInBounds_toArray, List.set_cons_zero, List.set_cons_succ])
        refine wpG_take _ (.bool false) rfl (by rfl) (fun X hX => by first | rfl | go_simp) ?_
        (try simp only [Act.put, List.setIfInBounds_toArray, List.set_cons_zero, List.set_cons_succ])
        refine wpG_nil ?_
        have HF9 := Lib.hid hx0
        clear hx0 HSX
        go_wp2_with fail
        go_roundw
        case rel => exact ⟨k + 1, by omega, by go_num, by rw [HR.out] <;> rfl, HF9.out⟩
        case measure => simp [intOf]; omega
    · obtain ⟨b64, hb64⟩ : ∃ b, decide ((xo : Int) < 64) = b := ⟨_, rfl⟩
      have H64 := Lib.hid hb64
      have hx64 : decide (xo < 64) = b64 := by rw [← hb64, Bool.eq_iff_iff]; simp; omega
      have hR0 : (A && goodTo l (k + 1)) = goodAt l k := by rw [goodTo_succ, ← Bool.and_assoc, HB.out]; rfl
      obtain ⟨hh, hhz⟩ : ∃ b, eqP x.2 zeroP = b := ⟨_, rfl⟩
      obtain ⟨m, hm⟩ : ∃ b, mayR x.2 = b := ⟨_, rfl⟩
      have hmp : mayP x.2 = m := by rw [mayP_eq HXO.out.2.len, hm]
      have HHZ := Lib.hid hhz; have HMX := Lib.hid hm
      clear hb64
      cases b64
      · have HR : Hid ((A && goodTo l (k + 1)) = false) := Lib.hid (by rw [hR0]; unfold goodAt; rw [HX.out]; simp only [HXo.out, hx64]; rfl)
        clear hR0 hhz hm hmp hx64
        as_aux_lemma =>
          refine wp_region_sched (.take 0 (.take 1 (.take 2 (.take 3 (.take 4 (.take 5 (.take 6 (.take 7 (.take 8 (.take 9 (.take 10 (.take 11 (.take 12 (.take 13 (.take 14 (.take 15 (.take 16 (.take 17 (.take 18 (.take 19 (.take 20 (.take 21 (.take 22 (.take 23 (.take 24 (.take 25 (.take 26 (.take 27 (.take 28 (.take 29 (.take 30 (.take 31 (.take 32 (.take 33 (.take 34 (.take 35 (.take 36 (.take 37 (.take 38 (.take 39 (.take 40 (.step 41 (.take 42 (.take 43 (.take 44 (.nil)))))))))))))))))))))))))))))))))))))))))))))) (by kernel_rfl) (by kernel_rfl) (fun d _ _ _ _ h => by cases d <;> exact h) (fun X => Fr w D sh0 [(G, pcells p, 37)] X) (hx0) ?_
          refine wpG_take _ (.bool true) rfl (by rfl) (fun X hX => by first | rfl | go_simp) ?_
          (try simp only [Act.put, List.setIfInBounds_toArray, List.set_cons_zero, List.set_cons_succ])
          refine wpG_take _ (.bool true) rfl (by rfl) (fun X hX => by first | rfl | go_simp) ?_
          (try simp only [Act.put, List.setIfInBounds_toArray, List.set_cons_zero, List.set_cons_succ])
          refine wpG_take _ (.slice (some ⟨g, o', none⟩) N cap) rfl (by rfl) (fun X hX => by first | rfl | go_simp) ?_
          (try simp only [Act.put, List.setIfInBounds_toArray, List.set_cons_zero, List.set_cons_succ])
          refine wpG_take _ (.int .i64 (k : Int)) rfl (by rfl) (fun X hX => by first | rfl | go_simp) ?_
          (try simp only [Act.put, List.setIfInBounds_toArray, List.set_cons_zero, List.set_cons_succ])
          refine wpG_take _ (.pointer (some ⟨g, o' + k * 42, none⟩)) rfl (by rfl) (fun X hX => ex_iaF (k := k) rfl rfl rfl HKN.out) ?_
          (try simp only [Act.put, List.setIfInBounds_toArray, List.set_cons_zero, List.set_cons_succ])
          refine wpG_take _ (.pointer (some ⟨g, o' + k * 42, none⟩)) rfl (by rfl) (fun X hX => by first | rfl | go_simp) ?_
          (try simp only [Act.put, List.setIfInBounds_toArray, List.set_cons_zero, List.set_cons_succ])
          refine wpG_take _ (.int .u32 (xo : Int)) rfl (by rfl) (fun X hX => (ex_ld1 Tryd.underlying32 rfl rfl (rng_cell (HSX.out X hX))).trans (by rw [HXo.out])) ?_
          (try simp only [Act.put, List.setIfInBounds_toArray, List.set_cons_zero, List.set_cons_succ])
          refine wpG_take _ (.bool false) rfl (by rfl) (fun X hX => ex_ls32 H64.out rfl rfl rfl) ?_
          (try simp only [Act.put, List.setIfInBounds_toArray, List.set_cons_zero, List.set_cons_succ])
          refine wpG_take _ (.bool false) rfl (by rfl) (fun X hX => by first | rfl | go_simp) ?_
          (try simp only [Act.put, List.setIfInBounds_toArray, List.set_cons_zero, List.set_cons_succ])
          refine wpG_take _ (.bool false) rfl (by rfl) (fun X hX => by first | rfl | go_simp) ?_
          (try simp only [Act.put, List.setIfInBounds_toArray, List.set_cons_zero, List.set_cons_succ])
          refine wpG_pass _ rfl (by rfl) ?_
          (try simp only [Act.put, List.setIfInBounds_toArray, List.set_cons_zero, List.set_cons_succ])
          refine wpG_pass _ rfl (by rfl) ?_
          (try simp only [Act.put, List.setIfInBounds_toArray, List.set_cons_zero, List.set_cons_succ])
          refine wpG_pass _ rfl (by rfl) ?_
          (try simp only [Act.put, List.setIfInBounds_toArray, List.set_cons_zero, List.set_cons_succ])
          refine wpG_pass _ rfl (by rfl) ?_
          (try simp only [Act.put, List.setIfInBounds_toArray, List.set_cons_zero, List.set_cons_succ])
          refine wpG_pass _ rfl (by rfl) ?_
          (try simp only [Act.put, List.setIfInBounds_toArray, List.set_cons_zero, List.set_cons_succ])
          refine wpG_pass _ rfl (by rfl) ?_
          (try simp only [Act.put, List.setIfInBounds_toArray, List.set_cons_zero, List.set_cons_succ])
          refine wpG_pass _ rfl (by rfl) ?_
          (try simp only [Act.put, List.setIfInBounds_toArray, List.set_cons_zero, List.set_cons_succ])
          refine wpG_pass _ rfl (by rfl) ?_
          (try simp only [Act.put, List.setIfInBounds_toArray, List.set_cons_zero, List.set_cons_succ])
          refine wpG_pass _ rfl (by rfl) ?_
          (try simp only [Act.put, List.setIfInBounds_toArray, List.set_cons_zero, List.set_cons_succ])
          refine wpG_pass _ rfl (by rfl) ?_
          (try simp only [Act.put, List.setIfInBounds_toArray, List.set_cons_zero, List.set_cons_succ])
          refine wpG_pass _ rfl (by rfl) ?_
          (try simp only [Act.put, List.setIfInBounds_toArray, List.set_cons_zero, List.set_cons_succ])
          refine wpG_pass _ rfl (by rfl) ?_
          (try simp only [Act.put, List.setIfInBounds_toArray, List.set_cons_zero, List.set_cons_succ])
          refine wpG_pass _ rfl (by rfl) ?_
          (try simp only [Act.put, List.setIfInBounds_toArray, List.set_cons_zero, List.set_cons_succ])
          refine wpG_pass _ rfl (by rfl) ?_
          (try simp only [Act.put, List.setIfInBounds_toArray, List.set_cons_zero, List.set_cons_succ])
          refine wpG_pass _ rfl (by rfl) ?_
          (try simp only [Act.put, List.setIfInBounds_toArray, List.set_cons_zero, List.set_cons_succ])
          refine wpG_pass _ rfl (by rfl) ?_
          (try simp only [Act.put, List.setIfInBounds_toArray, List.set_cons_zero, List.set_cons_succ])
          refine wpG_take _ (.bool false) rfl (by rfl) (fun X hX => by first | rfl | go_simp) ?_
          (try simp only [Act.put, List.setIfInBounds_toArray, List.set_cons_zero, List.set_cons_succ])
          refine wpG_take _ (.bool false) rfl (by rfl) (fun X hX => by first | rfl | go_simp) ?_
          (try simp only [Act.put, List.setIfInBounds_toArray, List.set_cons_zero, List.set_cons_succ])
          refine wpG_pass _ rfl (by rfl) ?_
          (try simp only [Act.put, List.setIfInBounds_toArray, List.set_cons_zero, List.set_cons_succ])
          refine wpG_pass _ rfl (by rfl) ?_
          (try simp only [Act.put, List.setIfInBounds_toArray, List.set_cons_zero, List.set_cons_succ])
          refine wpG_pass _ rfl (by rfl) ?_
          (try simp only [Act.put, List.setIfInBounds_toArray, List.set_cons_zero, List.set_cons_succ])
          refine wpG_pass _ rfl (by rfl) ?_
          (try simp only [Act.put, List.setIfInBounds_toArray, List.set_cons_zero, List.set_cons_succ])
          refine wpG_pass _ rfl (by rfl) ?_
          (try simp only [Act.put, List.setIfInBounds_toArray, List.set_cons_zero, List.set_cons_succ])
          refine wpG_pass _ rfl (by rfl) ?_
          (try simp only [Act.put, List.setIfInBounds_toArray, List.set_cons_zero, List.set_cons_succ])
          refine wpG_pass _ rfl (by rfl) ?_
          (try simp only [Act.put, List.setIfInBounds_toArray, List.set_cons_zero, List.set_cons_succ])
          refine wpG_pass _ rfl (by rfl) ?_
          (try simp only [Act.put, List.setIfInBounds_toArray, List.set_cons_zero, List.set_cons_succ])
          refine wpG_pass _ rfl (by rfl) ?_
          (try simp only [Act.put, List.setIfInBounds_toArray, List.set_cons_zero, List.set_cons_succ])
          refine wpG_pass _ rfl (by rfl) ?_
          (try simp only [Act.put, List.setIfInBounds_toArray, List.set_cons_zero, List.set_cons_succ])
          refine wpG_pass _ rfl (by rfl) ?_
          (try simp only [Act.put, List.setIfInBounds_toArray, List.set_cons_zero, List.set_cons_succ])
          refine wpG_pass _ rfl (by rfl) ?_
          (try simp only [Act.put, List.setIfInBounds_toArray, List.set_cons_zero, List.set_cons_succ])
          refine wpG_pass _ rfl (by rfl) ?_
          (try simp only [Act.put, List.setIfInBounds_toArray, List.set_cons_zero, List.set_cons_succ])
          refine wpG_skip _ rfl (by rfl) hx0 ?_
          (try simp only [Act.put, List.setIfInBounds_toArray, List.set_cons_zero, List.set_cons_succ])
          refine wpG_pass _ rfl (by rfl) ?_
          (try simp only [Act.put, List.setIfInBounds_toArray, List.set_cons_zero, List.set_cons_succ])
          refine wpG_take _ (.bool false) rfl (by rfl) (fun X hX => by first | rfl | go_simp) ?_
          (try simp only [Act.put, List.setIfInBounds_toArray, List.set_cons_zero, List.set_cons_succ])
          refine wpG_take _ (.bool false) rfl (by rfl) (fun X hX => by first | rfl | go_simp) ?_
          (try simp only [Act.put, List.setIfInBounds_toArray, List.set_cons_zero, List.set_cons_succ])
          refine wpG_nil ?_
          have HF9 := Lib.hid hx0
          clear hx0 HSX
          go_wp2_with fail
          go_roundw
          case rel => exact ⟨k + 1, by omega, by go_num, by rw [HR.out] <;> rfl, HF9.out⟩
          case measure => simp [intOf]; omega
      · rcases k with _ | k1
        · have hgo : (A && goodTo l (0 + 1)) = (hh || m) := by rw [hR0]; unfold goodAt; rw [HX.out]; simp only [HXo.out, hx64, hhz, hmp]; rfl
          have HR0 := Lib.hid hgo
          clear hR0 hhz hm hmp hx64 hgo
          cases hh
          · as_aux_lemma =>
              refine wp_region_sched (.take 0 (.take 1 (.take 2 (.take 3 (.take 4 (.take 5 (.take 6 (.take 7 (.take 8 (.take 9 (.take 10 (.take 11 (.take 12 (.take 13 (.take 14 (.take 15 (.take 16 (.take 17 (.take 18 (.take 19 (.take 20 (.take 21 (.take 22 (.take 23 (.take 24 (.take 25 (.take 26 (.take 27 (.take 28 (.take 29 (.take 30 (.take 31 (.take 32 (.take 33 (.take 34 (.take 35 (.take 36 (.take 37 (.take 38 (.take 39 (.take 40 (.step 41 (.take 42 (.take 43 (.take 44 (.nil)))))))))))))))))))))))))))))))))))))))))))))) (by kernel_rfl) (by kernel_rfl) (fun d _ _ _ _ h => by cases d <;> exact h) (fun X => Fr w D sh0 [(G, pcells p, 37)] X) (hx0) ?_
              refine wpG_take _ (.bool true) rfl (by rfl) (fun X hX => by first | rfl | go_simp) ?_
              (try simp only [Act.put, List.setIfInBounds_toArray, List.set_cons_zero, List.set_cons_succ])
              refine wpG_take _ (.bool true) rfl (by rfl) (fun X hX => by first | rfl | go_simp) ?_
              (try simp only [Act.put, List.setIfInBounds_toArray, List.set_cons_zero, List.set_cons_succ])
              refine wpG_take _ (.slice (some ⟨g, o', none⟩) N cap) rfl (by rfl) (fun X hX => by first | rfl | go_simp) ?_
              (try simp only [Act.put, List.setIfInBounds_toArray, List.set_cons_zero, List.set_cons_succ])
              refine wpG_take _ (.int .i64 ((0 : Nat) : Int)) rfl (by rfl) (fun X hX => by first | rfl | go_simp) ?_
              (try simp only [Act.put, List.setIfInBounds_toArray, List.set_cons_zero, List.set_cons_succ])
              refine wpG_take _ (.pointer (some ⟨g, o' + 0 * 42, none⟩)) rfl (by rfl) (fun X hX => ex_iaF (k := 0) rfl rfl rfl HKN.out) ?_
              (try simp only [Act.put, List.setIfInBounds_toArray, List.set_cons_zero, List.set_cons_succ])
              refine wpG_take _ (.pointer (some ⟨g, o' + 0 * 42, none⟩)) rfl (by rfl) (fun X hX => by first | rfl | go_simp) ?_
              (try simp only [Act.put, List.setIfInBounds_toArray, List.set_cons_zero, List.set_cons_succ])
              refine wpG_take _ (.int .u32 (xo : Int)) rfl (by rfl) (fun X hX => (ex_ld1 Tryd.underlying32 rfl rfl (rng_cell (HSX.out X hX))).trans (by rw [HXo.out])) ?_
              (try simp only [Act.put, List.setIfInBounds_toArray, List.set_cons_zero, List.set_cons_succ])
              refine wpG_take _ (.bool true) rfl (by rfl) (fun X hX => ex_ls32 H64.out rfl rfl rfl) ?_
              (try simp only [Act.put, List.setIfInBounds_toArray, List.set_cons_zero, List.set_cons_succ])
              refine wpG_take _ (.bool true) rfl (by rfl) (fun X hX => by first | rfl | go_simp) ?_
              (try simp only [Act.put, List.setIfInBounds_toArray, List.set_cons_zero, List.set_cons_succ])
              refine wpG_take _ (.bool true) rfl (by rfl) (fun X hX => by first | rfl | go_simp) ?_
              (try simp only [Act.put, List.setIfInBounds_toArray, List.set_cons_zero, List.set_cons_succ])
              refine wpG_take _ (.int .i64 ((0 : Nat) : Int)) rfl (by rfl) (fun X hX => by first | rfl | go_simp) ?_
              (try simp only [Act.put, List.setIfInBounds_toArray, List.set_cons_zero, List.set_cons_succ])
              refine wpG_take _ (.bool true) rfl (by rfl) (fun X hX => by first | rfl | go_simp) ?_
              (try simp only [Act.put, List.setIfInBounds_toArray, List.set_cons_zero, List.set_cons_succ])
              refine wpG_take _ (.bool true) rfl (by rfl) (fun X hX => by first | rfl | go_simp) ?_
              (try simp only [Act.put, List.setIfInBounds_toArray, List.set_cons_zero, List.set_cons_succ])
              refine wpG_pass _ rfl (by rfl) ?_
              (try simp only [Act.put, List.setIfInBounds_toArray, List.set_cons_zero, List.set_cons_succ])
              refine wpG_pass _ rfl (by rfl) ?_
              (try simp only [Act.put, List.setIfInBounds_toArray, List.set_cons_zero, List.set_cons_succ])
              refine wpG_pass _ rfl (by rfl) ?_
              (try simp only [Act.put, List.setIfInBounds_toArray, List.set_cons_zero, List.set_cons_succ])
              refine wpG_pass _ rfl (by rfl) ?_
              (try simp only [Act.put, List.setIfInBounds_toArray, List.set_cons_zero, List.set_cons_succ])
              refine wpG_pass _ rfl (by rfl) ?_
              (try simp only [Act.put, List.setIfInBounds_toArray, List.set_cons_zero, List.set_cons_succ])
              refine wpG_pass _ rfl (by rfl) ?_
              (try simp only [Act.put, List.setIfInBounds_toArray, List.set_cons_zero, List.set_cons_succ])
              refine wpG_pass _ rfl (by rfl) ?_
              (try simp only [Act.put, List.setIfInBounds_toArray, List.set_cons_zero, List.set_cons_succ])
              refine wpG_pass _ rfl (by rfl) ?_
              (try simp only [Act.put, List.setIfInBounds_toArray, List.set_cons_zero, List.set_cons_succ])
              refine wpG_pass _ rfl (by rfl) ?_
              (try simp only [Act.put, List.setIfInBounds_toArray, List.set_cons_zero, List.set_cons_succ])
              refine wpG_pass _ rfl (by rfl) ?_
              (try simp only [Act.put, List.setIfInBounds_toArray, List.set_cons_zero, List.set_cons_succ])
              refine wpG_pass _ rfl (by rfl) ?_
              (try simp only [Act.put, List.setIfInBounds_toArray, List.set_cons_zero, List.set_cons_succ])
              refine wpG_pass _ rfl (by rfl) ?_
              (try simp only [Act.put, List.setIfInBounds_toArray, List.set_cons_zero, List.set_cons_succ])
              refine wpG_take _ (.bool true) rfl (by rfl) (fun X hX => by first | rfl | go_simp) ?_
              (try simp only [Act.put, List.setIfInBounds_toArray, List.set_cons_zero, List.set_cons_succ])
              refine wpG_take _ (.bool true) rfl (by rfl) (fun X hX => by first | rfl | go_simp) ?_
              (try simp only [Act.put, List.setIfInBounds_toArray, List.set_cons_zero, List.set_cons_succ])
              refine wpG_take _ (.bool true) rfl (by rfl) (fun X hX => by first | rfl | go_simp) ?_
              (try simp only [Act.put, List.setIfInBounds_toArray, List.set_cons_zero, List.set_cons_succ])
              refine wpG_take _ (.slice (some ⟨g, o', none⟩) N cap) rfl (by rfl) (fun X hX => by first | rfl | go_simp) ?_
              (try simp only [Act.put, List.setIfInBounds_toArray, List.set_cons_zero, List.set_cons_succ])
              refine wpG_take _ (.int .i64 ((0 : Nat) : Int)) rfl (by rfl) (fun X hX => by first | rfl | go_simp) ?_
              (try simp only [Act.put, List.setIfInBounds_toArray, List.set_cons_zero, List.set_cons_succ])
              refine wpG_take _ (.pointer (some ⟨g, o' + 0 * 42, none⟩)) rfl (by rfl) (fun X hX => ex_iaF (k := 0) rfl rfl rfl HKN.out) ?_
              (try simp only [Act.put, List.setIfInBounds_toArray, List.set_cons_zero, List.set_cons_succ])
              refine wpG_take _ (.pointer (some ⟨g, o' + 0 * 42 + 1, none⟩)) rfl (by rfl) (fun X hX => by first | rfl | go_simp) ?_
              (try simp only [Act.put, List.setIfInBounds_toArray, List.set_cons_zero, List.set_cons_succ])
              refine wpG_take _ (.agg (pcells x.2).toArray) rfl (by rfl) (fun X hX => ex_ld (ty := 37) (cs := pcells x.2) rfl rfl (rng_ptr (HSX.out X hX)) Tryd.underlying37 rfl (by rw [sizeP, pcells_length HXO.out.2])) ?_
              (try simp only [Act.put, List.setIfInBounds_toArray, List.set_cons_zero, List.set_cons_succ])
              refine wpG_take _ (.agg (pcells zeroP).toArray) rfl (by rfl) (fun X hX => ex_bld0 rfl) ?_
              (try simp only [Act.put, List.setIfInBounds_toArray, List.set_cons_zero, List.set_cons_succ])
              refine wpG_take _ (.bool false) rfl (by rfl) (fun X hX => ex_eqPb HHZ.out rfl rfl rfl HXO.out.2 zeroP_ok) ?_
              (try simp only [Act.put, List.setIfInBounds_toArray, List.set_cons_zero, List.set_cons_succ])
              refine wpG_take _ (.bool false) rfl (by rfl) (fun X hX => by first | rfl | go_simp) ?_
              (try simp only [Act.put, List.setIfInBounds_toArray, List.set_cons_zero, List.set_cons_succ])
              refine wpG_take _ (.slice (some ⟨g, o', none⟩) N cap) rfl (by rfl) (fun X hX => by first | rfl | go_simp) ?_
              (try simp only [Act.put, List.setIfInBounds_toArray, List.set_cons_zero, List.set_cons_succ])
              refine wpG_take _ (.int .i64 ((0 : Nat) : Int)) rfl (by rfl) (fun X hX => by first | rfl | go_simp) ?_
              (try simp only [Act.put, List.setIfInBounds_toArray, List.set_cons_zero, List.set_cons_succ])
              refine wpG_take _ (.pointer (some ⟨g, o' + 0 * 42, none⟩)) rfl (by rfl) (fun X hX => ex_iaF (k := 0) rfl rfl rfl HKN.out) ?_
              (try simp only [Act.put, List.setIfInBounds_toArray, List.set_cons_zero, List.set_cons_succ])
              refine wpG_take _ (.pointer (some ⟨g, o' + 0 * 42 + 1, none⟩)) rfl (by rfl) (fun X hX => by first | rfl | go_simp) ?_
              (try simp only [Act.put, List.setIfInBounds_toArray, List.set_cons_zero, List.set_cons_succ])
              refine wpG_take _ (.agg (pcells x.2).toArray) rfl (by rfl) (fun X hX => ex_ld (ty := 37) (cs := pcells x.2) rfl rfl (rng_ptr (HSX.out X hX)) Tryd.underlying37 rfl (by rw [sizeP, pcells_length HXO.out.2])) ?_
              (try simp only [Act.put, List.setIfInBounds_toArray, List.set_cons_zero, List.set_cons_succ])
              refine wpG_call _ rfl (by rfl) 15 #[.agg (pcells x.2).toArray] (fun X => by go_simp) (fun u X => u = .bool m) ((qmay_any x.2 HXO.out.2 _).mono fun e Y ⟨e1, hb⟩ => ⟨_, e1, hx0.below hb, by rw [HMX.out]⟩) ?_
              rintro u X3 hs3 rfl
              refine ⟨fun X => Fr w D sh0 [(G, pcells p, 37)] X, fun _ h => h, hs3, ?_⟩
              (try simp only [Act.put, List.setIfInBounds_toArray, List.set_cons_zero, List.set_cons_succ])
              refine wpG_take _ (.bool m) rfl (by rfl) (fun X hX => by first | rfl | go_simp) ?_
              (try simp only [Act.put, List.setIfInBounds_toArray, List.set_cons_zero, List.set_cons_succ])
              refine wpG_take _ (.bool m) rfl (by rfl) (fun X hX => by first | rfl | go_simp) ?_
              (try simp only [Act.put, List.setIfInBounds_toArray, List.set_cons_zero, List.set_cons_succ])
              refine wpG_take _ (.bool m) rfl (by rfl) (fun X hX => by first | rfl | go_simp) ?_
              (try simp only [Act.put, List.setIfInBounds_toArray, List.set_cons_zero, List.set_cons_succ])
              refine wpG_nil ?_
              have HF9 := Lib.hid hs3
              clear hx0 HSX
              go_wp2_with fail
              go_roundw
              case rel => exact ⟨0 + 1, by omega, by go_num, by rw [HR0.out] <;> rfl, HF9.out⟩
              case measure => simp [intOf]; omega
          · as_aux_lemma =>
              refine wp_region_sched (.take 0 (.take 1 (.take 2 (.take 3 (.take 4 (.take 5 (.take 6 (.take 7 (.take 8 (.take 9 (.take 10 (.take 11 (.take 12 (.take 13 (.take 14 (.take 15 (.take 16 (.take 17 (.take 18 (.take 19 (.take 20 (.take 21 (.take 22 (.take 23 (.take 24 (.take 25 (.take 26 (.take 27 (.take 28 (.take 29 (.take 30 (.take 31 (.take 32 (.take 33 (.take 34 (.take 35 (.take 36 (.take 37 (.take 38 (.take 39 (.take 40 (.step 41 (.take 42 (.take 43 (.take 44 (.nil)))))))))))))))))))))))))))))))))))))))))))))) (by kernel_rfl) (by kernel_rfl) (fun d _ _ _ _ h => by cases d <;> exact h) (fun X => Fr w D sh0 [(G, pcells p, 37)] X) (hx0) ?_
              refine wpG_take _ (.bool true) rfl (by rfl) (fun X hX => by first | rfl | go_simp) ?_
              (try simp only [Act.put, List.setIfInBounds_toArray, List.set_cons_zero, List.set_cons_succ])
              refine wpG_take _ (.bool true) rfl (by rfl) (fun X hX => by first | rfl | go_simp) ?_
              (try simp only [Act.put, List.setIfInBounds_toArray, List.set_cons_zero, List.set_cons_succ])
              refine wpG_take _ (.slice (some ⟨g, o', none⟩) N cap) rfl (by rfl) (fun X hX => by first | rfl | go_simp) ?_
              (try simp only [Act.put, List.setIfInBounds_toArray, List.set_cons_zero, List.set_cons_succ])
              refine wpG_take _ (.int .i64 ((0 : Nat) : Int)) rfl (by rfl) (fun X hX => by first | rfl | go_simp) ?_
              (try simp only [Act.put, List.setIfInBounds_toArray, List.set_cons_zero, List.set_cons_succ])
              refine wpG_take _ (.pointer (some ⟨g, o' + 0 * 42, none⟩)) rfl (by rfl) (fun X hX => ex_iaF (k := 0) rfl rfl rfl HKN.out) ?_
              (try simp only [Act.put, List.setIfInBounds_toArray, List.set_cons_zero, List.set_cons_succ])
              refine wpG_take _ (.pointer (some ⟨g, o' + 0 * 42, none⟩)) rfl (by rfl) (fun X hX => by first | rfl | go_simp) ?_
              (try simp only [Act.put, List.setIfInBounds_toArray, List.set_cons_zero, List.set_cons_succ])
              refine wpG_take _ (.int .u32 (xo : Int)) rfl (by rfl) (fun X hX => (ex_ld1 Tryd.underlying32 rfl rfl (rng_cell (HSX.out X hX))).trans (by rw [HXo.out])) ?_
              (try simp only [Act.put, List.setIfInBounds_toArray, List.set_cons_zero, List.set_cons_succ])
              refine wpG_take _ (.bool true) rfl (by rfl) (fun X hX => ex_ls32 H64.out rfl rfl rfl) ?_
              (try simp only [Act.put, List.setIfInBounds_toArray, List.set_cons_zero, List.set_cons_succ])
              refine wpG_take _ (.bool true) rfl (by rfl) (fun X hX => by first | rfl | go_simp) ?_
              (try simp only [Act.put, List.setIfInBounds_toArray, List.set_cons_zero, List.set_cons_succ])
              refine wpG_take _ (.bool true) rfl (by rfl) (fun X hX => by first | rfl | go_simp) ?_
              (try simp only [Act.put, List.setIfInBounds_toArray, List.set_cons_zero, List.set_cons_succ])
              refine wpG_take _ (.int .i64 ((0 : Nat) : Int)) rfl (by rfl) (fun X hX => by first | rfl | go_simp) ?_
              (try simp only [Act.put, List.setIfInBounds_toArray, List.set_cons_zero, List.set_cons_succ])
              refine wpG_take _ (.bool true) rfl (by rfl) (fun X hX => by first | rfl | go_simp) ?_
              (try simp only [Act.put, List.setIfInBounds_toArray, List.set_cons_zero, List.set_cons_succ])
              refine wpG_take _ (.bool true) rfl (by rfl) (fun X hX => by first | rfl | go_simp) ?_
              (try simp only [Act.put, List.setIfInBounds_toArray, List.set_cons_zero, List.set_cons_succ])
              refine wpG_pass _ rfl (by rfl) ?_
              (try simp only [Act.put, List.setIfInBounds_toArray, List.set_cons_zero, List.set_cons_succ])
              refine wpG_pass _ rfl (by rfl) ?_
              (try simp only [Act.put, List.setIfInBounds_toArray, List.set_cons_zero, List.set_cons_succ])
              refine wpG_pass _ rfl (by rfl) ?_
              (try simp only [Act.put, List.setIfInBounds_toArray, List.set_cons_zero, List.set_cons_succ])
              refine wpG_pass _ rfl (by rfl) ?_
              (try simp only [Act.put, List.setIfInBounds_toArray, List.set_cons_zero, List.set_cons_succ])
              refine wpG_pass _ rfl (by rfl) ?_
              (try simp only [Act.put, List.setIfInBounds_toArray, List.set_cons_zero, List.set_cons_succ])
              refine wpG_pass _ rfl (by rfl) ?_
              (try simp only [Act.put, List.setIfInBounds_toArray, List.set_cons_zero, List.set_cons_succ])
              refine wpG_pass _ rfl (by rfl) ?_
              (try simp only [Act.put, List.setIfInBounds_toArray, List.set_cons_zero, List.set_cons_succ])
              refine wpG_pass _ rfl (by rfl) ?_
              (try simp only [Act.put, List.setIfInBounds_toArray, List.set_cons_zero, List.set_cons_succ])
              refine wpG_pass _ rfl (by rfl) ?_
              (try simp only [Act.put, List.setIfInBounds_toArray, List.set_cons_zero, List.set_cons_succ])
              refine wpG_pass _ rfl (by rfl) ?_
              (try simp only [Act.put, List.setIfInBounds_toArray, List.set_cons_zero, List.set_cons_succ])
              refine wpG_pass _ rfl (by rfl) ?_
              (try simp only [Act.put, List.setIfInBounds_toArray, List.set_cons_zero, List.set_cons_succ])
              refine wpG_pass _ rfl (by rfl) ?_
              (try simp only [Act.put, List.setIfInBounds_toArray, List.set_cons_zero, List.set_cons_succ])
              refine wpG_take _ (.bool true) rfl (by rfl) (fun X hX => by first | rfl | go_simp) ?_
              (try simp only [Act.put, List.setIfInBounds_toArray, List.set_cons_zero, List.set_cons_succ])
              refine wpG_take _ (.bool true) rfl (by rfl) (fun X hX => by first | rfl | go_simp) ?_
              (try simp only [Act.put, List.setIfInBounds_toArray, List.set_cons_zero, List.set_cons_succ])
              refine wpG_take _ (.bool true) rfl (by rfl) (fun X hX => by first | rfl | go_simp) ?_
              (try simp only [Act.put, List.setIfInBounds_toArray, List.set_cons_zero, List.set_cons_succ])
              refine wpG_take _ (.slice (some ⟨g, o', none⟩) N cap) rfl (by rfl) (fun X hX => by first | rfl | go_simp) ?_
              (try simp only [Act.put, List.setIfInBounds_toArray, List.set_cons_zero, List.set_cons_succ])
              refine wpG_take _ (.int .i64 ((0 : Nat) : Int)) rfl (by rfl) (fun X hX => by first | rfl | go_simp) ?_
              (try simp only [Act.put, List.setIfInBounds_toArray, List.set_cons_zero, List.set_cons_succ])
              refine wpG_take _ (.pointer (some ⟨g, o' + 0 * 42, none⟩)) rfl (by rfl) (fun X hX => ex_iaF (k := 0) rfl rfl rfl HKN.out) ?_
              (try simp only [Act.put, List.setIfInBounds_toArray, List.set_cons_zero, List.set_cons_succ])
              refine wpG_take _ (.pointer (some ⟨g, o' + 0 * 42 + 1, none⟩)) rfl (by rfl) (fun X hX => by first | rfl | go_simp) ?_
              (try simp only [Act.put, List.setIfInBounds_toArray, List.set_cons_zero, List.set_cons_succ])
              refine wpG_take _ (.agg (pcells x.2).toArray) rfl (by rfl) (fun X hX => ex_ld (ty := 37) (cs := pcells x.2) rfl rfl (rng_ptr (HSX.out X hX)) Tryd.underlying37 rfl (by rw [sizeP, pcells_length HXO.out.2])) ?_
              (try simp only [Act.put, List.setIfInBounds_toArray, List.set_cons_zero, List.set_cons_succ])
              refine wpG_take _ (.agg (pcells zeroP).toArray) rfl (by rfl) (fun X hX => ex_bld0 rfl) ?_
              (try simp only [Act.put, List.setIfInBounds_toArray, List.set_cons_zero, List.set_cons_succ])
              refine wpG_take _ (.bool true) rfl (by rfl) (fun X hX => ex_eqPb HHZ.out rfl rfl rfl HXO.out.2 zeroP_ok) ?_
              (try simp only [Act.put, List.setIfInBounds_toArray, List.set_cons_zero, List.set_cons_succ])
              refine wpG_take _ (.bool true) rfl (by rfl) (fun X hX => by first | rfl | go_simp) ?_
              (try simp only [Act.put, List.setIfInBounds_toArray, List.set_cons_zero, List.set_cons_succ])
              refine wpG_pass _ rfl (by rfl) ?_
              (try simp only [Act.put, List.setIfInBounds_toArray, List.set_cons_zero, List.set_cons_succ])
              refine wpG_pass _ rfl (by rfl) ?_
              (try simp only [Act.put, List.setIfInBounds_toArray, List.set_cons_zero, List.set_cons_succ])
              refine wpG_pass _ rfl (by rfl) ?_
              (try simp only [Act.put, List.setIfInBounds_toArray, List.set_cons_zero, List.set_cons_succ])
              refine wpG_pass _ rfl (by rfl) ?_
              (try simp only [Act.put, List.setIfInBounds_toArray, List.set_cons_zero, List.set_cons_succ])
              refine wpG_pass _ rfl (by rfl) ?_
              (try simp only [Act.put, List.setIfInBounds_toArray, List.set_cons_zero, List.set_cons_succ])
              refine wpG_skip _ rfl (by rfl) hx0 ?_
              (try simp only [Act.put, List.setIfInBounds_toArray, List.set_cons_zero, List.set_cons_succ])
              refine wpG_take _ (.bool true) rfl (by rfl) (fun X hX => by first | rfl | go_simp) ?_
              (try simp only [Act.put, List.setIfInBounds_toArray, List.set_cons_zero, List.set_cons_succ])
              refine wpG_take _ (.bool true) rfl (by rfl) (fun X hX => by first | rfl | go_simp) ?_
              (try simp only [Act.put, List.setIfInBounds_toArray, List.set_cons_zero, List.set_cons_succ])
              refine wpG_take _ (.bool true) rfl (by rfl) (fun X hX => by first | rfl | go_simp) ?_
              (try simp only [Act.put, List.setIfInBounds_toArray, List.set_cons_zero, List.set_cons_succ])
              refine wpG_nil ?_
              have HF9 := Lib.hid hx0
              clear hx0 HSX
              go_wp2_with fail
              go_roundw
              case rel => exact ⟨0 + 1, by omega, by go_num, by rw [HR0.out] <;> rfl, HF9.out⟩
              case measure => simp [intOf]; omega
        · obtain ⟨y, hy⟩ : ∃ y, l[k1]? = some y := ⟨_, List.getElem?_eq_getElem (by have := HN.out; omega)⟩
          have HSY : Hid (∀ X, Fr w D sh0 [(G, pcells p, 37)] X → X.rangeAt g (o' + k1 * 42) (lcells y)) := Lib.hid (fun X hX => (HS.out.grown hX.bel).at hy)
          have HK1 : Hid (k1 < N ∧ N ≤ cap) := Lib.hid ⟨by omega, by have := HKN.out; omega⟩
          obtain ⟨yo, hyo⟩ : ∃ n, y.1 = n := ⟨_, rfl⟩
          have HYo := Lib.hid hyo
          obtain ⟨lt, hlt2⟩ : ∃ b, decide ((yo : Int) < (xo : Int)) = b := ⟨_, rfl⟩
          have HLT2 := Lib.hid hlt2
          have hsub : IntKind.i64.wrap (((k1 + 1 : Nat) : Int) - 1) = (k1 : Int) := wrap64_sub1 rfl (by have := HL.out; have := HN.out; omega)
          have hk1w := IntWalk.i64_in (k1 : Int) (by have := HL.out; have := HN.out; omega)
          have wk2 := IntWalk.i64_in ((k1 : Int) + 1 + 1) (by have := HL.out; have := HN.out; omega)
          have hgo : (A && goodTo l (k1 + 1 + 1)) = (lt && (hh || m)) := by
            rw [hR0]
            unfold goodAt
            rw [HX.out]
            have e : l.getD (k1 + 1 - 1) (0, zeroP) = y := by rw [Nat.add_sub_cancel, List.getD_eq_getElem?_getD, hy]; rfl
            have e2 : decide (yo < xo) = lt := by rw [← hlt2, Bool.eq_iff_iff]; simp
            simp only [e, HXo.out, hyo, hx64, hhz, hmp, e2]
            rfl
          have HR0 := Lib.hid hgo
          clear hR0 hhz hm hmp hx64 hgo hy hyo hlt2
          cases lt
          · as_aux_lemma =>
              refine wp_region_sched (.take 0 (.take 1 (.take 2 (.take 3 (.take 4 (.take 5 (.take 6 (.take 7 (.take 8 (.take 9 (.take 10 (.take 11 (.take 12 (.take 13 (.take 14 (.take 15 (.take 16 (.take 17 (.take 18 (.take 19 (.take 20 (.take 21 (.take 22 (.take 23 (.take 24 (.take 25 (.take 26 (.take 27 (.take 28 (.take 29 (.take 30 (.take 31 (.take 32 (.take 33 (.take 34 (.take 35 (.take 36 (.take 37 (.take 38 (.take 39 (.take 40 (.step 41 (.take 42 (.take 43 (.take 44 (.nil)))))))))))))))))))))))))))))))))))))))))))))) (by kernel_rfl) (by kernel_rfl) (fun d _ _ _ _ h => by cases d <;> exact h) (fun X => Fr w D sh0 [(G, pcells p, 37)] X) (hx0) ?_
              refine wpG_take _ (.bool true) rfl (by rfl) (fun X hX => by first | rfl | go_simp) ?_
              (try simp only [Act.put, List.setIfInBounds_toArray, List.set_cons_zero, List.set_cons_succ])
              refine wpG_take _ (.bool true) rfl (by rfl) (fun X hX => by first | rfl | go_simp) ?_
              (try simp only [Act.put, List.setIfInBounds_toArray, List.set_cons_zero, List.set_cons_succ])
              refine wpG_take _ (.slice (some ⟨g, o', none⟩) N cap) rfl (by rfl) (fun X hX => by first | rfl | go_simp) ?_
              (try simp only [Act.put, List.setIfInBounds_toArray, List.set_cons_zero, List.set_cons_succ])
              refine wpG_take _ (.int .i64 ((k1 + 1 : Nat) : Int)) rfl (by rfl) (fun X hX => by first | rfl | go_simp) ?_
              (try simp only [Act.put, List.setIfInBounds_toArray, List.set_cons_zero, List.set_cons_succ])
              refine wpG_take _ (.pointer (some ⟨g, o' + (k1 + 1) * 42, none⟩)) rfl (by rfl) (fun X hX => ex_iaF (k := (k1 + 1)) rfl rfl rfl HKN.out) ?_
              (try simp only [Act.put, List.setIfInBounds_toArray, List.set_cons_zero, List.set_cons_succ])
              refine wpG_take _ (.pointer (some ⟨g, o' + (k1 + 1) * 42, none⟩)) rfl (by rfl) (fun X hX => by first | rfl | go_simp) ?_
              (try simp only [Act.put, List.setIfInBounds_toArray, List.set_cons_zero, List.set_cons_succ])
              refine wpG_take _ (.int .u32 (xo : Int)) rfl (by rfl) (fun X hX => (ex_ld1 Tryd.underlying32 rfl rfl (rng_cell (HSX.out X hX))).trans (by rw [HXo.out])) ?_
              (try simp only [Act.put, List.setIfInBounds_toArray, List.set_cons_zero, List.set_cons_succ])
              refine wpG_take _ (.bool true) rfl (by rfl) (fun X hX => ex_ls32 H64.out rfl rfl rfl) ?_
              (try simp only [Act.put, List.setIfInBounds_toArray, List.set_cons_zero, List.set_cons_succ])
              refine wpG_take _ (.bool true) rfl (by rfl) (fun X hX => by first | rfl | go_simp) ?_
              (try simp only [Act.put, List.setIfInBounds_toArray, List.set_cons_zero, List.set_cons_succ])
              refine wpG_take _ (.bool true) rfl (by rfl) (fun X hX => by first | rfl | go_simp) ?_
              (try simp only [Act.put, List.setIfInBounds_toArray, List.set_cons_zero, List.set_cons_succ])
              refine wpG_take _ (.int .i64 ((k1 + 1 : Nat) : Int)) rfl (by rfl) (fun X hX => by first | rfl | go_simp) ?_
              (try simp only [Act.put, List.setIfInBounds_toArray, List.set_cons_zero, List.set_cons_succ])
              refine wpG_take _ (.bool false) rfl (by rfl) (fun X hX => by first | rfl | go_simp) ?_
              (try simp only [Act.put, List.setIfInBounds_toArray, List.set_cons_zero, List.set_cons_succ])
              refine wpG_take _ (.bool false) rfl (by rfl) (fun X hX => by first | rfl | go_simp) ?_
              (try simp only [Act.put, List.setIfInBounds_toArray, List.set_cons_zero, List.set_cons_succ])
              refine wpG_take _ (.slice (some ⟨g, o', none⟩) N cap) rfl (by rfl) (fun X hX => by first | rfl | go_simp) ?_
              (try simp only [Act.put, List.setIfInBounds_toArray, List.set_cons_zero, List.set_cons_succ])
              refine wpG_take _ (.int .i64 ((k1 + 1 : Nat) : Int)) rfl (by rfl) (fun X hX => by first | rfl | go_simp) ?_
              (try simp only [Act.put, List.setIfInBounds_toArray, List.set_cons_zero, List.set_cons_succ])
              refine wpG_take _ (.int .i64 (k1 : Int)) rfl (by rfl) (fun X hX => by have := hsub; have := hk1w; go_simp) ?_
              (try simp only [Act.put, List.setIfInBounds_toArray, List.set_cons_zero, List.set_cons_succ])
              refine wpG_take _ (.pointer (some ⟨g, o' + k1 * 42, none⟩)) rfl (by rfl) (fun X hX => ex_iaF rfl rfl rfl HK1.out) ?_
              (try simp only [Act.put, List.setIfInBounds_toArray, List.set_cons_zero, List.set_cons_succ])
              refine wpG_take _ (.pointer (some ⟨g, o' + k1 * 42, none⟩)) rfl (by rfl) (fun X hX => by first | rfl | go_simp) ?_
              (try simp only [Act.put, List.setIfInBounds_toArray, List.set_cons_zero, List.set_cons_succ])
              refine wpG_take _ (.int .u32 (yo : Int)) rfl (by rfl) (fun X hX => (ex_ld1 Tryd.underlying32 rfl rfl (rng_cell (HSY.out X hX))).trans (by rw [HYo.out])) ?_
              (try simp only [Act.put, List.setIfInBounds_toArray, List.set_cons_zero, List.set_cons_succ])
              refine wpG_take _ (.slice (some ⟨g, o', none⟩) N cap) rfl (by rfl) (fun X hX => by first | rfl | go_simp) ?_
              (try simp only [Act.put, List.setIfInBounds_toArray, List.set_cons_zero, List.set_cons_succ])
              refine wpG_take _ (.int .i64 ((k1 + 1 : Nat) : Int)) rfl (by rfl) (fun X hX => by first | rfl | go_simp) ?_
              (try simp only [Act.put, List.setIfInBounds_toArray, List.set_cons_zero, List.set_cons_succ])
              refine wpG_take _ (.pointer (some ⟨g, o' + (k1 + 1) * 42, none⟩)) rfl (by rfl) (fun X hX => ex_iaF (k := (k1 + 1)) rfl rfl rfl HKN.out) ?_
              (try simp only [Act.put, List.setIfInBounds_toArray, List.set_cons_zero, List.set_cons_succ])
              refine wpG_take _ (.pointer (some ⟨g, o' + (k1 + 1) * 42, none⟩)) rfl (by rfl) (fun X hX => by first | rfl | go_simp) ?_
              (try simp only [Act.put, List.setIfInBounds_toArray, List.set_cons_zero, List.set_cons_succ])
              refine wpG_take _ (.int .u32 (xo : Int)) rfl (by rfl) (fun X hX => (ex_ld1 Tryd.underlying32 rfl rfl (rng_cell (HSX.out X hX))).trans (by rw [HXo.out])) ?_
              (try simp only [Act.put, List.setIfInBounds_toArray, List.set_cons_zero, List.set_cons_succ])
              refine wpG_take _ (.bool false) rfl (by rfl) (fun X hX => ex_ls32 HLT2.out rfl rfl rfl) ?_
              (try simp only [Act.put, List.setIfInBounds_toArray, List.set_cons_zero, List.set_cons_succ])
              refine wpG_take _ (.bool false) rfl (by rfl) (fun X hX => by first | rfl | go_simp) ?_
              (try simp only [Act.put, List.setIfInBounds_toArray, List.set_cons_zero, List.set_cons_succ])
              refine wpG_take _ (.bool false) rfl (by rfl) (fun X hX => by first | rfl | go_simp) ?_
              (try simp only [Act.put, List.setIfInBounds_toArray, List.set_cons_zero, List.set_cons_succ])
              refine wpG_take _ (.bool false) rfl (by rfl) (fun X hX => by first | rfl | go_simp) ?_
              (try simp only [Act.put, List.setIfInBounds_toArray, List.set_cons_zero, List.set_cons_succ])
              refine wpG_pass _ rfl (by rfl) ?_
              (try simp only [Act.put, List.setIfInBounds_toArray, List.set_cons_zero, List.set_cons_succ])
              refine wpG_pass _ rfl (by rfl) ?_
              (try simp only [Act.put, List.setIfInBounds_toArray, List.set_cons_zero, List.set_cons_succ])
              refine wpG_pass _ rfl (by rfl) ?_
              (try simp only [Act.put, List.setIfInBounds_toArray, List.set_cons_zero, List.set_cons_succ])
              refine wpG_pass _ rfl (by rfl) ?_
              (try simp only [Act.put, List.setIfInBounds_toArray, List.set_cons_zero, List.set_cons_succ])
              refine wpG_pass _ rfl (by rfl) ?_
              (try simp only [Act.put, List.setIfInBounds_toArray, List.set_cons_zero, List.set_cons_succ])
              refine wpG_pass _ rfl (by rfl) ?_
              (try simp only [Act.put, List.setIfInBounds_toArray, List.set_cons_zero, List.set_cons_succ])
              refine wpG_pass _ rfl (by rfl) ?_
              (try simp only [Act.put, List.setIfInBounds_toArray, List.set_cons_zero, List.set_cons_succ])
              refine wpG_pass _ rfl (by rfl) ?_
              (try simp only [Act.put, List.setIfInBounds_toArray, List.set_cons_zero, List.set_cons_succ])
              refine wpG_pass _ rfl (by rfl) ?_
              (try simp only [Act.put, List.setIfInBounds_toArray, List.set_cons_zero, List.set_cons_succ])
              refine wpG_pass _ rfl (by rfl) ?_
              (try simp only [Act.put, List.setIfInBounds_toArray, List.set_cons_zero, List.set_cons_succ])
              refine wpG_pass _ rfl (by rfl) ?_
              (try simp only [Act.put, List.setIfInBounds_toArray, List.set_cons_zero, List.set_cons_succ])
              refine wpG_pass _ rfl (by rfl) ?_
              (try simp only [Act.put, List.setIfInBounds_toArray, List.set_cons_zero, List.set_cons_succ])
              refine wpG_pass _ rfl (by rfl) ?_
              (try simp only [Act.put, List.setIfInBounds_toArray, List.set_cons_zero, List.set_cons_succ])
              refine wpG_skip _ rfl (by rfl) hx0 ?_
              (try simp only [Act.put, List.setIfInBounds_toArray, List.set_cons_zero, List.set_cons_succ])
              refine wpG_pass _ rfl (by rfl) ?_
              (try simp only [Act.put, List.setIfInBounds_toArray, List.set_cons_zero, List.set_cons_succ])
              refine wpG_take _ (.bool false) rfl (by rfl) (fun X hX => by first | rfl | go_simp) ?_
              (try simp only [Act.put, List.setIfInBounds_toArray, List.set_cons_zero, List.set_cons_succ])
              refine wpG_take _ (.bool false) rfl (by rfl) (fun X hX => by first | rfl | go_simp) ?_
              (try simp only [Act.put, List.setIfInBounds_toArray, List.set_cons_zero, List.set_cons_succ])
              refine wpG_nil ?_
              have HF9 := Lib.hid hx0
              clear hx0 HSX
              go_wp2_with fail
              go_roundw
              case rel => exact ⟨(k1 + 1) + 1, by omega, by go_num, by rw [HR0.out] <;> rfl, HF9.out⟩
              case measure => simp [intOf]; omega
          · cases hh
            · as_aux_lemma =>
                refine wp_region_sched (.take 0 (.take 1 (.take 2 (.take 3 (.take 4 (.take 5 (.take 6 (.take 7 (.take 8 (.take 9 (.take 10 (.take 11 (.take 12 (.take 13 (.take 14 (.take 15 (.take 16 (.take 17 (.take 18 (.take 19 (.take 20 (.take 21 (.take 22 (.take 23 (.take 24 (.take 25 (.take 26 (.take 27 (.take 28 (.take 29 (.take 30 (.take 31 (.take 32 (.take 33 (.take 34 (.take 35 (.take 36 (.take 37 (.take 38 (.take 39 (.take 40 (.step 41 (.take 42 (.take 43 (.take 44 (.nil)))))))))))))))))))))))))))))))))))))))))))))) (by kernel_rfl) (by kernel_rfl) (fun d _ _ _ _ h => by cases d <;> exact h) (fun X => Fr w D sh0 [(G, pcells p, 37)] X) (hx0) ?_
                refine wpG_take _ (.bool true) rfl (by rfl) (fun X hX => by first | rfl | go_simp) ?_
                (try simp only [Act.put, List.setIfInBounds_toArray, List.set_cons_zero, List.set_cons_succ])
                refine wpG_take _ (.bool true) rfl (by rfl) (fun X hX => by first | rfl | go_simp) ?_
                (try simp only [Act.put, List.setIfInBounds_toArray, List.set_cons_zero, List.set_cons_succ])
                refine wpG_take _ (.slice (some ⟨g, o', none⟩) N cap) rfl (by rfl) (fun X hX => by first | rfl | go_simp) ?_
                (try simp only [Act.put, List.setIfInBounds_toArray, List.set_cons_zero, List.set_cons_succ])
                refine wpG_take _ (.int .i64 ((k1 + 1 : Nat) : Int)) rfl (by rfl) (fun X hX => by first | rfl | go_simp) ?_
                (try simp only [Act.put, List.setIfInBounds_toArray, List.set_cons_zero, List.set_cons_succ])
                refine wpG_take _ (.pointer (some ⟨g, o' + (k1 + 1) * 42, none⟩)) rfl (by rfl) (fun X hX => ex_iaF (k := (k1 + 1)) rfl rfl rfl HKN.out) ?_
                (try simp only [Act.put, List.setIfInBounds_toArray, List.set_cons_zero, List.set_cons_succ])
                refine wpG_take _ (.pointer (some ⟨g, o' + (k1 + 1) * 42, none⟩)) rfl (by rfl) (fun X hX => by first | rfl | go_simp) ?_
                (try simp only [Act.put, List.setIfInBounds_toArray, List.set_cons_zero, List.set_cons_succ])
                refine wpG_take _ (.int .u32 (xo : Int)) rfl (by rfl) (fun X hX => (ex_ld1 Tryd.underlying32 rfl rfl (rng_cell (HSX.out X hX))).trans (by rw [HXo.out])) ?_
                (try simp only [Act.put, List.setIfInBounds_toArray, List.set_cons_zero, List.set_cons_succ])
                refine wpG_take _ (.bool true) rfl (by rfl) (fun X hX => ex_ls32 H64.out rfl rfl rfl) ?_
                (try simp only [Act.put, List.setIfInBounds_toArray, List.set_cons_zero, List.set_cons_succ])
                refine wpG_take _ (.bool true) rfl (by rfl) (fun X hX => by first | rfl | go_simp) ?_
                (try simp only [Act.put, List.setIfInBounds_toArray, List.set_cons_zero, List.set_cons_succ])
                refine wpG_take _ (.bool true) rfl (by rfl) (fun X hX => by first | rfl | go_simp) ?_
                (try simp only [Act.put, List.setIfInBounds_toArray, List.set_cons_zero, List.set_cons_succ])
                refine wpG_take _ (.int .i64 ((k1 + 1 : Nat) : Int)) rfl (by rfl) (fun X hX => by first | rfl | go_simp) ?_
                (try simp only [Act.put, List.setIfInBounds_toArray, List.set_cons_zero, List.set_cons_succ])
                refine wpG_take _ (.bool false) rfl (by rfl) (fun X hX => by first | rfl | go_simp) ?_
                (try simp only [Act.put, List.setIfInBounds_toArray, List.set_cons_zero, List.set_cons_succ])
                refine wpG_take _ (.bool false) rfl (by rfl) (fun X hX => by first | rfl | go_simp) ?_
                (try simp only [Act.put, List.setIfInBounds_toArray, List.set_cons_zero, List.set_cons_succ])
                refine wpG_take _ (.slice (some ⟨g, o', none⟩) N cap) rfl (by rfl) (fun X hX => by first | rfl | go_simp) ?_
                (try simp only [Act.put, List.setIfInBounds_toArray, List.set_cons_zero, List.set_cons_succ])
                refine wpG_take _ (.int .i64 ((k1 + 1 : Nat) : Int)) rfl (by rfl) (fun X hX => by first | rfl | go_simp) ?_
                (try simp only [Act.put, List.setIfInBounds_toArray, List.set_cons_zero, List.set_cons_succ])
                refine wpG_take _ (.int .i64 (k1 : Int)) rfl (by rfl) (fun X hX => by have := hsub; have := hk1w; go_simp) ?_
                (try simp only [Act.put, List.setIfInBounds_toArray, List.set_cons_zero, List.set_cons_succ])
                refine wpG_take _ (.pointer (some ⟨g, o' + k1 * 42, none⟩)) rfl (by rfl) (fun X hX => ex_iaF rfl rfl rfl HK1.out) ?_
                (try simp only [Act.put, List.setIfInBounds_toArray, List.set_cons_zero, List.set_cons_succ])
                refine wpG_take _ (.pointer (some ⟨g, o' + k1 * 42, none⟩)) rfl (by rfl) (fun X hX => by first | rfl | go_simp) ?_
                (try simp only [Act.put, List.setIfInBounds_toArray, List.set_cons_zero, List.set_cons_succ])
                refine wpG_take _ (.int .u32 (yo : Int)) rfl (by rfl) (fun X hX => (ex_ld1 Tryd.underlying32 rfl rfl (rng_cell (HSY.out X hX))).trans (by rw [HYo.out])) ?_
                (try simp only [Act.put, List.setIfInBounds_toArray, List.set_cons_zero, List.set_cons_succ])
                refine wpG_take _ (.slice (some ⟨g, o', none⟩) N cap) rfl (by rfl) (fun X hX => by first | rfl | go_simp) ?_
                (try simp only [Act.put, List.setIfInBounds_toArray, List.set_cons_zero, List.set_cons_succ])
                refine wpG_take _ (.int .i64 ((k1 + 1 : Nat) : Int)) rfl (by rfl) (fun X hX => by first | rfl | go_simp) ?_
                (try simp only [Act.put, List.setIfInBounds_toArray, List.set_cons_zero, List.set_cons_succ])
                refine wpG_take _ (.pointer (some ⟨g, o' + (k1 + 1) * 42, none⟩)) rfl (by rfl) (fun X hX => ex_iaF (k := (k1 + 1)) rfl rfl rfl HKN.out) ?_
                (try simp only [Act.put, List.setIfInBounds_toArray, List.set_cons_zero, List.set_cons_succ])
                refine wpG_take _ (.pointer (some ⟨g, o' + (k1 + 1) * 42, none⟩)) rfl (by rfl) (fun X hX => by first | rfl | go_simp) ?_
                (try simp only [Act.put, List.setIfInBounds_toArray, List.set_cons_zero, List.set_cons_succ])
                refine wpG_take _ (.int .u32 (xo : Int)) rfl (by rfl) (fun X hX => (ex_ld1 Tryd.underlying32 rfl rfl (rng_cell (HSX.out X hX))).trans (by rw [HXo.out])) ?_
                (try simp only [Act.put, List.setIfInBounds_toArray, List.set_cons_zero, List.set_cons_succ])
                refine wpG_take _ (.bool true) rfl (by rfl) (fun X hX => ex_ls32 HLT2.out rfl rfl rfl) ?_
                (try simp only [Act.put, List.setIfInBounds_toArray, List.set_cons_zero, List.set_cons_succ])
                refine wpG_take _ (.bool true) rfl (by rfl) (fun X hX => by first | rfl | go_simp) ?_
                (try simp only [Act.put, List.setIfInBounds_toArray, List.set_cons_zero, List.set_cons_succ])
                refine wpG_take _ (.bool true) rfl (by rfl) (fun X hX => by first | rfl | go_simp) ?_
                (try simp only [Act.put, List.setIfInBounds_toArray, List.set_cons_zero, List.set_cons_succ])
                refine wpG_take _ (.bool true) rfl (by rfl) (fun X hX => by first | rfl | go_simp) ?_
                (try simp only [Act.put, List.setIfInBounds_toArray, List.set_cons_zero, List.set_cons_succ])
                refine wpG_take _ (.slice (some ⟨g, o', none⟩) N cap) rfl (by rfl) (fun X hX => by first | rfl | go_simp) ?_
                (try simp only [Act.put, List.setIfInBounds_toArray, List.set_cons_zero, List.set_cons_succ])
                refine wpG_take _ (.int .i64 ((k1 + 1 : Nat) : Int)) rfl (by rfl) (fun X hX => by first | rfl | go_simp) ?_
                (try simp only [Act.put, List.setIfInBounds_toArray, List.set_cons_zero, List.set_cons_succ])
                refine wpG_take _ (.pointer (some ⟨g, o' + (k1 + 1) * 42, none⟩)) rfl (by rfl) (fun X hX => ex_iaF (k := (k1 + 1)) rfl rfl rfl HKN.out) ?_
                (try simp only [Act.put, List.setIfInBounds_toArray, List.set_cons_zero, List.set_cons_succ])
                refine wpG_take _ (.pointer (some ⟨g, o' + (k1 + 1) * 42 + 1, none⟩)) rfl (by rfl) (fun X hX => by first | rfl | go_simp) ?_
                (try simp only [Act.put, List.setIfInBounds_toArray, List.set_cons_zero, List.set_cons_succ])
                refine wpG_take _ (.agg (pcells x.2).toArray) rfl (by rfl) (fun X hX => ex_ld (ty := 37) (cs := pcells x.2) rfl rfl (rng_ptr (HSX.out X hX)) Tryd.underlying37 rfl (by rw [sizeP, pcells_length HXO.out.2])) ?_
                (try simp only [Act.put, List.setIfInBounds_toArray, List.set_cons_zero, List.set_cons_succ])
                refine wpG_take _ (.agg (pcells zeroP).toArray) rfl (by rfl) (fun X hX => ex_bld0 rfl) ?_
                (try simp only [Act.put, List.setIfInBounds_toArray, List.set_cons_zero, List.set_cons_succ])
                refine wpG_take _ (.bool false) rfl (by rfl) (fun X hX => ex_eqPb HHZ.out rfl rfl rfl HXO.out.2 zeroP_ok) ?_
                (try simp only [Act.put, List.setIfInBounds_toArray, List.set_cons_zero, List.set_cons_succ])
                refine wpG_take _ (.bool false) rfl (by rfl) (fun X hX => by first | rfl | go_simp) ?_
                (try simp only [Act.put, List.setIfInBounds_toArray, List.set_cons_zero, List.set_cons_succ])
                refine wpG_take _ (.slice (some ⟨g, o', none⟩) N cap) rfl (by rfl) (fun X hX => by first | rfl | go_simp) ?_
                (try simp only [Act.put, List.setIfInBounds_toArray, List.set_cons_zero, List.set_cons_succ])
                refine wpG_take _ (.int .i64 ((k1 + 1 : Nat) : Int)) rfl (by rfl) (fun X hX => by first | rfl | go_simp) ?_
                (try simp only [Act.put, List.setIfInBounds_toArray, List.set_cons_zero, List.set_cons_succ])
                refine wpG_take _ (.pointer (some ⟨g, o' + (k1 + 1) * 42, none⟩)) rfl (by rfl) (fun X hX => ex_iaF (k := (k1 + 1)) rfl rfl rfl HKN.out) ?_
                (try simp only [Act.put, List.setIfInBounds_toArray, List.set_cons_zero, List.set_cons_succ])
                refine wpG_take _ (.pointer (some ⟨g, o' + (k1 + 1) * 42 + 1, none⟩)) rfl (by rfl) (fun X hX => by first | rfl | go_simp) ?_
                (try simp only [Act.put, List.setIfInBounds_toArray, List.set_cons_zero, List.set_cons_succ])
                refine wpG_take _ (.agg (pcells x.2).toArray) rfl (by rfl) (fun X hX => ex_ld (ty := 37) (cs := pcells x.2) rfl rfl (rng_ptr (HSX.out X hX)) Tryd.underlying37 rfl (by rw [sizeP, pcells_length HXO.out.2])) ?_
                (try simp only [Act.put, List.setIfInBounds_toArray, List.set_cons_zero, List.set_cons_succ])
                refine wpG_call _ rfl (by rfl) 15 #[.agg (pcells x.2).toArray] (fun X => by go_simp) (fun u X => u = .bool m) ((qmay_any x.2 HXO.out.2 _).mono fun e Y ⟨e1, hb⟩ => ⟨_, e1, hx0.below hb, by rw [HMX.out]⟩) ?_
                rintro u X3 hs3 rfl
                refine ⟨fun X => Fr w D sh0 [(G, pcells p, 37)] X, fun _ h => h, hs3, ?_⟩
                (try simp only [Act.put, List.setIfInBounds_toArray, List.set_cons_zero, List.set_cons_succ])
                refine wpG_take _ (.bool m) rfl (by rfl) (fun X hX => by first | rfl | go_simp) ?_
                (try simp only [Act.put, List.setIfInBounds_toArray, List.set_cons_zero, List.set_cons_succ])
                refine wpG_take _ (.bool m) rfl (by rfl) (fun X hX => by first | rfl | go_simp) ?_
                (try simp only [Act.put, List.setIfInBounds_toArray, List.set_cons_zero, List.set_cons_succ])
                refine wpG_take _ (.bool m) rfl (by rfl) (fun X hX => by first | rfl | go_simp) ?_
                (try simp only [Act.put, List.setIfInBounds_toArray, List.set_cons_zero, List.set_cons_succ])
                refine wpG_nil ?_
                have HF9 := Lib.hid hs3
                clear hx0 HSX
                go_wp2_with fail
                go_roundw
                case rel => exact ⟨(k1 + 1) + 1, by omega, by go_num, by rw [HR0.out] <;> rfl, HF9.out⟩
                case measure => simp [intOf]; omega
            · as_aux_lemma =>
                refine wp_region_sched (.take 0 (.take 1 (.take 2 (.take 3 (.take 4 (.take 5 (.take 6 (.take 7 (.take 8 (.take 9 (.take 10 (.take 11 (.take 12 (.take 13 (.take 14 (.take 15 (.take 16 (.take 17 (.take 18 (.take 19 (.take 20 (.take 21 (.take 22 (.take 23 (.take 24 (.take 25 (.take 26 (.take 27 (.take 28 (.take 29 (.take 30 (.take 31 (.take 32 (.take 33 (.take 34 (.take 35 (.take 36 (.take 37 (.take 38 (.take 39 (.take 40 (.step 41 (.take 42 (.take 43 (.take 44 (.nil)))))))))))))))))))))))))))))))))))))))))))))) (by kernel_rfl) (by kernel_rfl) (fun d _ _ _ _ h => by cases d <;> exact h) (fun X => Fr w D sh0 [(G, pcells p, 37)] X) (hx0) ?_
                refine wpG_take _ (.bool true) rfl (by rfl) (fun X hX => by first | rfl | go_simp) ?_
                (try simp only [Act.put, List.setIfInBounds_toArray, List.set_cons_zero, List.set_cons_succ])
                refine wpG_take _ (.bool true) rfl (by rfl) (fun X hX => by first | rfl | go_simp) ?_
                (try simp only [Act.put, List.setIfInBounds_toArray, List.set_cons_zero, List.set_cons_succ])
                refine wpG_take _ (.slice (some ⟨g, o', none⟩) N cap) rfl (by rfl) (fun X hX => by first | rfl | go_simp) ?_
                (try simp only [Act.put, List.setIfInBounds_toArray, List.set_cons_zero, List.set_cons_succ])
                refine wpG_take _ (.int .i64 ((k1 + 1 : Nat) : Int)) rfl (by rfl) (fun X hX => by first | rfl | go_simp) ?_
                (try simp only [Act.put, List.setIfInBounds_toArray, List.set_cons_zero, List.set_cons_succ])
                refine wpG_take _ (.pointer (some ⟨g, o' + (k1 + 1) * 42, none⟩)) rfl (by rfl) (fun X hX => ex_iaF (k := (k1 + 1)) rfl rfl rfl HKN.out) ?_
                (try simp only [Act.put, List.setIfInBounds_toArray, List.set_cons_zero, List.set_cons_succ])
                refine wpG_take _ (.pointer (some ⟨g, o' + (k1 + 1) * 42, none⟩)) rfl (by rfl) (fun X hX => by first | rfl | go_simp) ?_
                (try simp only [Act.put, List.setIfInBounds_toArray, List.set_cons_zero, List.set_cons_succ])
                refine wpG_take _ (.int .u32 (xo : Int)) rfl (by rfl) (fun X hX => (ex_ld1 Tryd.underlying32 rfl rfl (rng_cell (HSX.out X hX))).trans (by rw [HXo.out])) ?_
                (try simp only [Act.put, List.setIfInBounds_toArray, List.set_cons_zero, List.set_cons_succ])
                refine wpG_take _ (.bool true) rfl (by rfl) (fun X hX => ex_ls32 H64.out rfl rfl rfl) ?_
                (try simp only [Act.put, List.setIfInBounds_toArray, List.set_cons_zero, List.set_cons_succ])
                refine wpG_take _ (.bool true) rfl (by rfl) (fun X hX => by first | rfl | go_simp) ?_
                (try simp only [Act.put, List.setIfInBounds_toArray, List.set_cons_zero, List.set_cons_succ])
                refine wpG_take _ (.bool true) rfl (by rfl) (fun X hX => by first | rfl | go_simp) ?_
                (try simp only [Act.put, List.setIfInBounds_toArray, List.set_cons_zero, List.set_cons_succ])
                refine wpG_take _ (.int .i64 ((k1 + 1 : Nat) : Int)) rfl (by rfl) (fun X hX => by first | rfl | go_simp) ?_
                (try simp only [Act.put, List.setIfInBounds_toArray, List.set_cons_zero, List.set_cons_succ])
                refine wpG_take _ (.bool false) rfl (by rfl) (fun X hX => by first | rfl | go_simp) ?_
                (try simp only [Act.put, List.setIfInBounds_toArray, List.set_cons_zero, List.set_cons_succ])
                refine wpG_take _ (.bool false) rfl (by rfl) (fun X hX => by first | rfl | go_simp) ?_
                (try simp only [Act.put, List.setIfInBounds_toArray, List.set_cons_zero, List.set_cons_succ])
                refine wpG_take _ (.slice (some ⟨g, o', none⟩) N cap) rfl (by rfl) (fun X hX => by first | rfl | go_simp) ?_
                (try simp only [Act.put, List.setIfInBounds_toArray, List.set_cons_zero, List.set_cons_succ])
                refine wpG_take _ (.int .i64 ((k1 + 1 : Nat) : Int)) rfl (by rfl) (fun X hX => by first | rfl | go_simp) ?_
                (try simp only [Act.put, List.setIfInBounds_toArray, List.set_cons_zero, List.set_cons_succ])
                refine wpG_take _ (.int .i64 (k1 : Int)) rfl (by rfl) (fun X hX => by have := hsub; have := hk1w; go_simp) ?_
                (try simp only [Act.put, List.setIfInBounds_toArray, List.set_cons_zero, List.set_cons_succ])
                refine wpG_take _ (.pointer (some ⟨g, o' + k1 * 42, none⟩)) rfl (by rfl) (fun X hX => ex_iaF rfl rfl rfl HK1.out) ?_
                (try simp only [Act.put, List.setIfInBounds_toArray, List.set_cons_zero, List.set_cons_succ])
                refine wpG_take _ (.pointer (some ⟨g, o' + k1 * 42, none⟩)) rfl (by rfl) (fun X hX => by first | rfl | go_simp) ?_
                (try simp only [Act.put, List.setIfInBounds_toArray, List.set_cons_zero, List.set_cons_succ])
                refine wpG_take _ (.int .u32 (yo : Int)) rfl (by rfl) (fun X hX => (ex_ld1 Tryd.underlying32 rfl rfl (rng_cell (HSY.out X hX))).trans (by rw [HYo.out])) ?_
                (try simp only [Act.put, List.setIfInBounds_toArray, List.set_cons_zero, List.set_cons_succ])
                refine wpG_take _ (.slice (some ⟨g, o', none⟩) N cap) rfl (by rfl) (fun X hX => by first | rfl | go_simp) ?_
                (try simp only [Act.put, List.setIfInBounds_toArray, List.set_cons_zero, List.set_cons_succ])
                refine wpG_take _ (.int .i64 ((k1 + 1 : Nat) : Int)) rfl (by rfl) (fun X hX => by first | rfl | go_simp) ?_
                (try simp only [Act.put, List.setIfInBounds_toArray, List.set_cons_zero, List.set_cons_succ])
                refine wpG_take _ (.pointer (some ⟨g, o' + (k1 + 1) * 42, none⟩)) rfl (by rfl) (fun X hX => ex_iaF (k := (k1 + 1)) rfl rfl rfl HKN.out) ?_
                (try simp only [Act.put, List.setIfInBounds_toArray, List.set_cons_zero, List.set_cons_succ])
                refine wpG_take _ (.pointer (some ⟨g, o' + (k1 + 1) * 42, none⟩)) rfl (by rfl) (fun X hX => by first | rfl | go_simp) ?_
                (try simp only [Act.put, List.setIfInBounds_toArray, List.set_cons_zero, List.set_cons_succ])
                refine wpG_take _ (.int .u32 (xo : Int)) rfl (by rfl) (fun X hX => (ex_ld1 Tryd.underlying32 rfl rfl (rng_cell (HSX.out X hX))).trans (by rw [HXo.out])) ?_
                (try simp only [Act.put, List.setIfInBounds_toArray, List.set_cons_zero, List.set_cons_succ])
                refine wpG_take _ (.bool true) rfl (by rfl) (fun X hX => ex_ls32 HLT2.out rfl rfl rfl) ?_
                (try simp only [Act.put, List.setIfInBounds_toArray, List.set_cons_zero, List.set_cons_succ])
                refine wpG_take _ (.bool true) rfl (by rfl) (fun X hX => by first | rfl | go_simp) ?_
                (try simp only [Act.put, List.setIfInBounds_toArray, List.set_cons_zero, List.set_cons_succ])
                refine wpG_take _ (.bool true) rfl (by rfl) (fun X hX => by first | rfl | go_simp) ?_
                (try simp only [Act.put, List.setIfInBounds_toArray, List.set_cons_zero, List.set_cons_succ])
                refine wpG_take _ (.bool true) rfl (by rfl) (fun X hX => by first | rfl | go_simp) ?_
                (try simp only [Act.put, List.setIfInBounds_toArray, List.set_cons_zero, List.set_cons_succ])
                refine wpG_take _ (.slice (some ⟨g, o', none⟩) N cap) rfl (by rfl) (fun X hX => by first | rfl | go_simp) ?_
                (try simp only [Act.put, List.setIfInBounds_toArray, List.set_cons_zero, List.set_cons_succ])
                refine wpG_take _ (.int .i64 ((k1 + 1 : Nat) : Int)) rfl (by rfl) (fun X hX => by first | rfl | go_simp) ?_
                (try simp only [Act.put, List.setIfInBounds_toArray, List.set_cons_zero, List.set_cons_succ])
                refine wpG_take _ (.pointer (some ⟨g, o' + (k1 + 1) * 42, none⟩)) rfl (by rfl) (fun X hX => ex_iaF (k := (k1 + 1)) rfl rfl rfl HKN.out) ?_
                (try simp only [Act.put, List.setIfInBounds_toArray, List.set_cons_zero, List.set_cons_succ])
                refine wpG_take _ (.pointer (some ⟨g, o' + (k1 + 1) * 42 + 1, none⟩)) rfl (by rfl) (fun X hX => by first | rfl | go_simp) ?_
                (try simp only [Act.put, List.setIfInBounds_toArray, List.set_cons_zero, List.set_cons_succ])
                refine wpG_take _ (.agg (pcells x.2).toArray) rfl (by rfl) (fun X hX => ex_ld (ty := 37) (cs := pcells x.2) rfl rfl (rng_ptr (HSX.out X hX)) Tryd.underlying37 rfl (by rw [sizeP, pcells_length HXO.out.2])) ?_
                (try simp only [Act.put, List.setIfInBounds_toArray, List.set_cons_zero, List.set_cons_succ])
                refine wpG_take _ (.agg (pcells zeroP).toArray) rfl (by rfl) (fun X hX => ex_bld0 rfl) ?_
                (try simp only [Act.put, List.setIfInBounds_toArray, List.set_cons_zero, List.set_cons_succ])
                refine wpG_take _ (.bool true) rfl (by rfl) (fun X hX => ex_eqPb HHZ.out rfl rfl rfl HXO.out.2 zeroP_ok) ?_
                (try simp only [Act.put, List.setIfInBounds_toArray, List.set_cons_zero, List.set_cons_succ])
                refine wpG_take _ (.bool true) rfl (by rfl) (fun X hX => by first | rfl | go_simp) ?_
                (try simp only [Act.put, List.setIfInBounds_toArray, List.set_cons_zero, List.set_cons_succ])
                refine wpG_pass _ rfl (by rfl) ?_
                (try simp only [Act.put, List.setIfInBounds_toArray, List.set_cons_zero, List.set_cons_succ])
                refine wpG_pass _ rfl (by rfl) ?_
                (try simp only [Act.put, List.setIfInBounds_toArray, List.set_cons_zero, List.set_cons_succ])
                refine wpG_pass _ rfl (by rfl) ?_
                (try simp only [Act.put, List.setIfInBounds_toArray, List.set_cons_zero, List.set_cons_succ])
                refine wpG_pass _ rfl (by rfl) ?_
                (try simp only [Act.put, List.setIfInBounds_toArray, List.set_cons_zero, List.set_cons_succ])
                refine wpG_pass _ rfl (by rfl) ?_
                (try simp only [Act.put, List.setIfInBounds_toArray, List.set_cons_zero, List.set_cons_succ])
                refine wpG_skip _ rfl (by rfl) hx0 ?_
                (try simp only [Act.put, List.setIfInBounds_toArray, List.set_cons_zero, List.set_cons_succ])
                refine wpG_take _ (.bool true) rfl (by rfl) (fun X hX => by first | rfl | go_simp) ?_
                (try simp only [Act.put, List.setIfInBounds_toArray, List.set_cons_zero, List.set_cons_succ])
                refine wpG_take _ (.bool true) rfl (by rfl) (fun X hX => by first | rfl | go_simp) ?_
                (try simp only [Act.put, List.setIfInBounds_toArray, List.set_cons_zero, List.set_cons_succ])
                refine wpG_take _ (.bool true) rfl (by rfl) (fun X hX => by first | rfl | go_simp) ?_
                (try simp only [Act.put, List.setIfInBounds_toArray, List.set_cons_zero, List.set_cons_succ])
                refine wpG_nil ?_
                have HF9 := Lib.hid hx0
                clear hx0 HSX
                go_wp2_with fail
                go_roundw
                case rel => exact ⟨(k1 + 1) + 1, by omega, by go_num, by rw [HR0.out] <;> rfl, HF9.out⟩
                case measure => simp [intOf]; omega
  · obtain rfl : k = N := by omega
    have hs : goodTo l k = setOk l := by rw [← HN.out]; rfl
    obtain ⟨B, hB⟩ : ∃ B, (A && goodTo l k) = B := ⟨_, rfl⟩
    have HB : Hid ((rootOk p && setOk l) = B) := Lib.hid (by rw [← hB, hs, HA.out])
    rw [hB]
    have hltf : decide ((k : Int) < (k : Int)) = false := by simp
    have HBP := Lib.hid (HF8.out.at (g := G) (cs := pcells p) (t := 37) (by simp))
    have hget := HF8.out.get p HPO.out off HOF.out lim0 (by omega)
    have hq1 := getP_ok sh0 off HPO.out
    obtain ⟨s1, hs1⟩ : ∃ s, getS sh0 p off = s := ⟨_, rfl⟩
    obtain ⟨e1, he1⟩ : ∃ e, getE sh0 p off = e := ⟨_, rfl⟩
    obtain ⟨q1, hq⟩ : ∃ q, getP sh0 p off = q := ⟨_, rfl⟩
    rw [hs1, he1, hq] at hget
    rw [hq] at hq1
    have HGET := Lib.hid hget; have HS1 := Lib.hid hs1; have HE1 := Lib.hid he1
    have HSQ := Lib.hid (size_pc hq1)
    have HLQ : Hid ((pcells q1).toArray.size = 41) := Lib.hid (by rw [List.size_toArray, pcells_length hq1])
    clear hs hB hget hs1 he1 hq hq1 hk hlt HF8 wk1
    go_wp2_with (first | (refine wpL_val rfl (ex_ldP HPO.out HBP.out rfl rfl) ?_) | fail)
    refine HGET.out.mono ?_
    rintro e X1 ⟨rfl, hf1, hl1⟩
    have HF1 := Lib.hid hf1; have HL1 := Lib.hid hl1
    clear hf1 hl1 HGET HBP
    go_upto_region 14 with (first | (refine wpList_store_row rfl 37 (.tmp 20) (.tmp 132) rfl X1.heap.size (pcells q1).toArray rfl rfl 37 _ (heap_alloc_new X1 _) HSQ.out (by rw [HLQ.out]; rfl) (one_pc q1) ?_) | fail)
    refine (fun (k' : ∀ W, Fr w D s1 [(G, pcells p, 37)] W → Code.wp _ _ _ _ W) => k' _ (HF1.out.below (blk_row1 X1 _ (pcells q1) 37).2)) ?_
    intro X2 hX2
    generalize X1.heap.size = g20
    have HF2 := Lib.hid hX2
    have HBP := Lib.hid (hX2.at (g := G) (cs := pcells p) (t := 37) (by simp))
    have hall := hX2.allE p HPO.out HL1.out (by omega)
    obtain ⟨s2, hs2⟩ : ∃ s, allS s1 p = s := ⟨_, rfl⟩
    obtain ⟨e2, he2⟩ : ∃ e, allE s1 p = e := ⟨_, rfl⟩
    rw [hs2, he2] at hall
    have HALL := Lib.hid hall; have HS2 := Lib.hid hs2; have HE2 := Lib.hid he2
    clear hX2 hall hs2 he2 HF1 HSQ HLQ HL1
    go_wp2_with (first | (refine wpL_val rfl (ex_ldP HPO.out HBP.out rfl rfl) ?_) | fail)
    refine HALL.out.mono ?_
    rintro e X3 ⟨lv, nv, rfl, hf3, hl3⟩
    have HF3 := Lib.hid hf3
    have HBP3 := Lib.hid (hf3.at (g := G) (cs := pcells p) (t := 37) (by simp))
    have hset := hf3.setO p HPO.out l HOK.out sp cap HC.out (by have := HL.out; omega) HS.out HLT.out hl3 (by omega)
    rw [HN.out] at hset
    obtain ⟨s3, hs3⟩ : ∃ s, (setR s2 p 9 l).s = s := ⟨_, rfl⟩
    obtain ⟨e3, he3⟩ : ∃ e, (setR s2 p 9 l).e = e := ⟨_, rfl⟩
    obtain ⟨q3, hq3⟩ : ∃ e, (setR s2 p 9 l).p = e := ⟨_, rfl⟩
    rw [hs3, he3, hq3] at hset
    have HSET := Lib.hid hset; have HS3 := Lib.hid hs3; have HE3 := Lib.hid he3
    clear hf3 hl3 hset hs3 he3 hq3 HALL HBP HF2
    go_wp2_with (first | (refine wpL_val rfl (ex_ldP HPO.out HBP3.out rfl rfl) ?_) | fail)
    refine HSET.out.mono ?_
    rintro e X4 ⟨rfl, hf4, hl4, hq4⟩
    have HF4 := Lib.hid hf4; have HL4 := Lib.hid hl4
    have HSQ := Lib.hid (size_pc hq4)
    have HLQ : Hid ((pcells q3).toArray.size = 41) := Lib.hid (by rw [List.size_toArray, pcells_length hq4])
    clear hf4 hl4 hq4 HSET HBP3 HF3
    go_upto_region 16 with (first | (refine wpList_store_row rfl 37 (.tmp 25) (.tmp 148) rfl X4.heap.size (pcells q3).toArray rfl rfl 37 _ (heap_alloc_new X4 _) HSQ.out (by rw [HLQ.out]; rfl) (one_pc q3) ?_) | fail)
    refine (fun (k' : ∀ W, Fr w D s3 [(G, pcells p, 37)] W → Code.wp _ _ _ _ W) => k' _ (HF4.out.below (blk_row1 X4 _ (pcells q3) 37).2)) ?_
    intro X5 hX5
    generalize X4.heap.size = g25
    have HF5 := Lib.hid hX5
    have HQ1 : Hid (decide ((e1 : Int) = 1) = (!A || decide (64 ≤ off))) := Lib.hid (by
      rw [show decide ((e1 : Int) = 1) = decide (e1 = 1) by rw [Bool.eq_iff_iff]; simp; omega, ← HA.out, Bool.eq_iff_iff, decide_eq_true_eq, ← HE1.out, getE_one, Bool.or_eq_true, decide_eq_true_eq, Bool.not_eq_true'])
    have HQ2 : Hid (decide ((e2 : Int) = 1) = !A) := Lib.hid (by
      rw [show decide ((e2 : Int) = 1) = decide (e2 = 1) by rw [Bool.eq_iff_iff]; simp; omega, ← HA.out, Bool.eq_iff_iff, decide_eq_true_eq, ← HE2.out, allE_one]
      simp)
    have HQ3 : Hid (decide ((e3 : Int) = 1) = !B) := Lib.hid (by
      rw [show decide ((e3 : Int) = 1) = decide (e3 = 1) by rw [Bool.eq_iff_iff]; simp; omega, ← HB.out, Bool.eq_iff_iff, decide_eq_true_eq, ← HE3.out, setE_one, Bool.not_eq_true'])
    clear hX5 HF4 HSQ HLQ
    go_cut [182] (fun v wx => v = .bool false ∧ Fr w D s3 [(G, pcells p, 37)] wx)
    case first =>
      obtain ⟨o, ho⟩ : ∃ o, decide (64 ≤ off) = o := ⟨_, rfl⟩
      have HO : Hid (decide ((64 : Int) ≤ (off : Int)) = o) := Lib.hid (by rw [← ho, Bool.eq_iff_iff]; simp; omega)
      rw [ho] at HQ1
      have hx0 : Fr w D s3 [(G, pcells p, 37)] X5 := HF5.out
      clear ho
      cases A
      · have hBf : B = false := by rw [← HB.out, HA.out]; rfl
        subst hBf
        as_aux_lemma =>
          refine wp_region_list ?_
          refine tl_val (S := fun X => Fr w D s3 [(G, pcells p, 37)] X) (.int .i64 2) (by rfl) hx0 (fun X hX => by first | rfl | go_simp) ?_
          (try simp only [Act.put, List.setIfInBounds_toArray, List.set_cons_zero, List.set_cons_succ])
          refine tl_val (S := fun X => Fr w D s3 [(G, pcells p, 37)] X) (.bool false) (by rfl) hx0 (fun X hX => by first | rfl | go_simp) ?_
          (try simp only [Act.put, List.setIfInBounds_toArray, List.set_cons_zero, List.set_cons_succ])
          refine tl_val (S := fun X => Fr w D s3 [(G, pcells p, 37)] X) (.bool false) (by rfl) hx0 (fun X hX => by first | rfl | go_simp) ?_
          (try simp only [Act.put, List.setIfInBounds_toArray, List.set_cons_zero, List.set_cons_succ])
          refine tl_val (S := fun X => Fr w D s3 [(G, pcells p, 37)] X) (.int .i64 2) (by rfl) hx0 (fun X hX => by first | rfl | go_simp) ?_
          (try simp only [Act.put, List.setIfInBounds_toArray, List.set_cons_zero, List.set_cons_succ])
          refine tl_val (S := fun X => Fr w D s3 [(G, pcells p, 37)] X) (.bool false) (by rfl) hx0 (fun X hX => by first | rfl | go_simp) ?_
          (try simp only [Act.put, List.setIfInBounds_toArray, List.set_cons_zero, List.set_cons_succ])
          refine tl_val (S := fun X => Fr w D s3 [(G, pcells p, 37)] X) (.bool false) (by rfl) hx0 (fun X hX => by first | rfl | go_simp) ?_
          (try simp only [Act.put, List.setIfInBounds_toArray, List.set_cons_zero, List.set_cons_succ])
          refine tl_val (S := fun X => Fr w D s3 [(G, pcells p, 37)] X) (.bool false) (by rfl) hx0 (fun X hX => by first | rfl | go_simp) ?_
          (try simp only [Act.put, List.setIfInBounds_toArray, List.set_cons_zero, List.set_cons_succ])
          refine tl_val (S := fun X => Fr w D s3 [(G, pcells p, 37)] X) (.int .i64 2) (by rfl) hx0 (fun X hX => by first | rfl | go_simp) ?_
          (try simp only [Act.put, List.setIfInBounds_toArray, List.set_cons_zero, List.set_cons_succ])
          refine tl_val (S := fun X => Fr w D s3 [(G, pcells p, 37)] X) (.bool false) (by rfl) hx0 (fun X hX => by first | rfl | go_simp) ?_
          (try simp only [Act.put, List.setIfInBounds_toArray, List.set_cons_zero, List.set_cons_succ])
          refine tl_val (S := fun X => Fr w D s3 [(G, pcells p, 37)] X) (.bool false) (by rfl) hx0 (fun X hX => by first | rfl | go_simp) ?_
          (try simp only [Act.put, List.setIfInBounds_toArray, List.set_cons_zero, List.set_cons_succ])
          refine tl_val (S := fun X => Fr w D s3 [(G, pcells p, 37)] X) (.bool false) (by rfl) hx0 (fun X hX => by first | rfl | go_simp) ?_
          (try simp only [Act.put, List.setIfInBounds_toArray, List.set_cons_zero, List.set_cons_succ])
          refine tl_val (S := fun X => Fr w D s3 [(G, pcells p, 37)] X) (.int .i64 (e1 : Int)) (by rfl) hx0 (fun X hX => by first | rfl | go_simp) ?_
          (try simp only [Act.put, List.setIfInBounds_toArray, List.set_cons_zero, List.set_cons_succ])
          refine tl_val (S := fun X => Fr w D s3 [(G, pcells p, 37)] X) (.bool true) (by rfl) hx0 (fun X hX => (ex_eqi Tryd.underlying46 rfl rfl rfl).trans (by rw [HQ1.out]; rfl)) ?_
          (try simp only [Act.put, List.setIfInBounds_toArray, List.set_cons_zero, List.set_cons_succ])
          refine tl_val (S := fun X => Fr w D s3 [(G, pcells p, 37)] X) (.bool false) (by rfl) hx0 (fun X hX => by first | rfl | go_simp) ?_
          (try simp only [Act.put, List.setIfInBounds_toArray, List.set_cons_zero, List.set_cons_succ])
          refine tl_val (S := fun X => Fr w D s3 [(G, pcells p, 37)] X) (.bool true) (by rfl) hx0 (fun X hX => by first | rfl | go_simp) ?_
          (try simp only [Act.put, List.setIfInBounds_toArray, List.set_cons_zero, List.set_cons_succ])
          refine tl_val (S := fun X => Fr w D s3 [(G, pcells p, 37)] X) (.bool true) (by rfl) hx0 (fun X hX => by first | rfl | go_simp) ?_
          (try simp only [Act.put, List.setIfInBounds_toArray, List.set_cons_zero, List.set_cons_succ])
          refine tl_skip (by rfl) ?_
          (try simp only [Act.put, List.setIfInBounds_toArray, List.set_cons_zero, List.set_cons_succ])
          refine tl_skip (by rfl) ?_
          (try simp only [Act.put, List.setIfInBounds_toArray, List.set_cons_zero, List.set_cons_succ])
          refine tl_val (S := fun X => Fr w D s3 [(G, pcells p, 37)] X) (.bool true) (by rfl) hx0 (fun X hX => by first | rfl | go_simp) ?_
          (try simp only [Act.put, List.setIfInBounds_toArray, List.set_cons_zero, List.set_cons_succ])
          refine tl_val (S := fun X => Fr w D s3 [(G, pcells p, 37)] X) (.bool false) (by rfl) hx0 (fun X hX => by first | rfl | go_simp) ?_
          (try simp only [Act.put, List.setIfInBounds_toArray, List.set_cons_zero, List.set_cons_succ])
          refine tl_val (S := fun X => Fr w D s3 [(G, pcells p, 37)] X) (.bool false) (by rfl) hx0 (fun X hX => by first | rfl | go_simp) ?_
          (try simp only [Act.put, List.setIfInBounds_toArray, List.set_cons_zero, List.set_cons_succ])
          refine tl_val (S := fun X => Fr w D s3 [(G, pcells p, 37)] X) (.bool false) (by rfl) hx0 (fun X hX => by first | rfl | go_simp) ?_
          (try simp only [Act.put, List.setIfInBounds_toArray, List.set_cons_zero, List.set_cons_succ])
          refine tl_val (S := fun X => Fr w D s3 [(G, pcells p, 37)] X) (.int .i64 (e2 : Int)) (by rfl) hx0 (fun X hX => by first | rfl | go_simp) ?_
          (try simp only [Act.put, List.setIfInBounds_toArray, List.set_cons_zero, List.set_cons_succ])
          refine tl_val (S := fun X => Fr w D s3 [(G, pcells p, 37)] X) (.bool true) (by rfl) hx0 (fun X hX => (ex_eqi Tryd.underlying46 rfl rfl rfl).trans (by rw [HQ2.out]; rfl)) ?_
          (try simp only [Act.put, List.setIfInBounds_toArray, List.set_cons_zero, List.set_cons_succ])
          refine tl_val (S := fun X => Fr w D s3 [(G, pcells p, 37)] X) (.bool false) (by rfl) hx0 (fun X hX => by first | rfl | go_simp) ?_
          (try simp only [Act.put, List.setIfInBounds_toArray, List.set_cons_zero, List.set_cons_succ])
          refine tl_val (S := fun X => Fr w D s3 [(G, pcells p, 37)] X) (.bool false) (by rfl) hx0 (fun X hX => by first | rfl | go_simp) ?_
          (try simp only [Act.put, List.setIfInBounds_toArray, List.set_cons_zero, List.set_cons_succ])
          refine tl_val (S := fun X => Fr w D s3 [(G, pcells p, 37)] X) (.bool false) (by rfl) hx0 (fun X hX => by first | rfl | go_simp) ?_
          (try simp only [Act.put, List.setIfInBounds_toArray, List.set_cons_zero, List.set_cons_succ])
          refine tl_val (S := fun X => Fr w D s3 [(G, pcells p, 37)] X) (.bool false) (by rfl) hx0 (fun X hX => by first | rfl | go_simp) ?_
          (try simp only [Act.put, List.setIfInBounds_toArray, List.set_cons_zero, List.set_cons_succ])
          refine tl_val (S := fun X => Fr w D s3 [(G, pcells p, 37)] X) (.int .i64 (e3 : Int)) (by rfl) hx0 (fun X hX => by first | rfl | go_simp) ?_
          (try simp only [Act.put, List.setIfInBounds_toArray, List.set_cons_zero, List.set_cons_succ])
          refine tl_val (S := fun X => Fr w D s3 [(G, pcells p, 37)] X) (.bool true) (by rfl) hx0 (fun X hX => (ex_eqi Tryd.underlying46 rfl rfl rfl).trans (by rw [HQ3.out]; rfl)) ?_
          (try simp only [Act.put, List.setIfInBounds_toArray, List.set_cons_zero, List.set_cons_succ])
          refine tl_val (S := fun X => Fr w D s3 [(G, pcells p, 37)] X) (.bool false) (by rfl) hx0 (fun X hX => by first | rfl | go_simp) ?_
          (try simp only [Act.put, List.setIfInBounds_toArray, List.set_cons_zero, List.set_cons_succ])
          refine tl_val (S := fun X => Fr w D s3 [(G, pcells p, 37)] X) (.bool false) (by rfl) hx0 (fun X hX => by first | rfl | go_simp) ?_
          (try simp only [Act.put, List.setIfInBounds_toArray, List.set_cons_zero, List.set_cons_succ])
          refine tl_val (S := fun X => Fr w D s3 [(G, pcells p, 37)] X) (.bool false) (by rfl) hx0 (fun X hX => by first | rfl | go_simp) ?_
          (try simp only [Act.put, List.setIfInBounds_toArray, List.set_cons_zero, List.set_cons_succ])
          refine wpList_nil ?_
          have HF6 := Lib.hid hx0
          clear hx0
          go_wp2_with fail
          go_meet
          case rel => exact ⟨rfl, HF6.out⟩
      · cases o
        · cases B
          · as_aux_lemma =>
              refine wp_region_list ?_
              refine tl_val (S := fun X => Fr w D s3 [(G, pcells p, 37)] X) (.int .i64 2) (by rfl) hx0 (fun X hX => by first | rfl | go_simp) ?_
              (try simp only [Act.put, List.setIfInBounds_toArray, List.set_cons_zero, List.set_cons_succ])
              refine tl_val (S := fun X => Fr w D s3 [(G, pcells p, 37)] X) (.bool false) (by rfl) hx0 (fun X hX => by first | rfl | go_simp) ?_
              (try simp only [Act.put, List.setIfInBounds_toArray, List.set_cons_zero, List.set_cons_succ])
              refine tl_val (S := fun X => Fr w D s3 [(G, pcells p, 37)] X) (.bool false) (by rfl) hx0 (fun X hX => by first | rfl | go_simp) ?_
              (try simp only [Act.put, List.setIfInBounds_toArray, List.set_cons_zero, List.set_cons_succ])
              refine tl_val (S := fun X => Fr w D s3 [(G, pcells p, 37)] X) (.int .i64 2) (by rfl) hx0 (fun X hX => by first | rfl | go_simp) ?_
              (try simp only [Act.put, List.setIfInBounds_toArray, List.set_cons_zero, List.set_cons_succ])
              refine tl_val (S := fun X => Fr w D s3 [(G, pcells p, 37)] X) (.bool false) (by rfl) hx0 (fun X hX => by first | rfl | go_simp) ?_
              (try simp only [Act.put, List.setIfInBounds_toArray, List.set_cons_zero, List.set_cons_succ])
              refine tl_val (S := fun X => Fr w D s3 [(G, pcells p, 37)] X) (.bool false) (by rfl) hx0 (fun X hX => by first | rfl | go_simp) ?_
              (try simp only [Act.put, List.setIfInBounds_toArray, List.set_cons_zero, List.set_cons_succ])
              refine tl_val (S := fun X => Fr w D s3 [(G, pcells p, 37)] X) (.bool false) (by rfl) hx0 (fun X hX => by first | rfl | go_simp) ?_
              (try simp only [Act.put, List.setIfInBounds_toArray, List.set_cons_zero, List.set_cons_succ])
              refine tl_val (S := fun X => Fr w D s3 [(G, pcells p, 37)] X) (.int .i64 2) (by rfl) hx0 (fun X hX => by first | rfl | go_simp) ?_
              (try simp only [Act.put, List.setIfInBounds_toArray, List.set_cons_zero, List.set_cons_succ])
              refine tl_val (S := fun X => Fr w D s3 [(G, pcells p, 37)] X) (.bool false) (by rfl) hx0 (fun X hX => by first | rfl | go_simp) ?_
              (try simp only [Act.put, List.setIfInBounds_toArray, List.set_cons_zero, List.set_cons_succ])
              refine tl_val (S := fun X => Fr w D s3 [(G, pcells p, 37)] X) (.bool false) (by rfl) hx0 (fun X hX => by first | rfl | go_simp) ?_
              (try simp only [Act.put, List.setIfInBounds_toArray, List.set_cons_zero, List.set_cons_succ])
              refine tl_val (S := fun X => Fr w D s3 [(G, pcells p, 37)] X) (.bool false) (by rfl) hx0 (fun X hX => by first | rfl | go_simp) ?_
              (try simp only [Act.put, List.setIfInBounds_toArray, List.set_cons_zero, List.set_cons_succ])
              refine tl_val (S := fun X => Fr w D s3 [(G, pcells p, 37)] X) (.int .i64 (e1 : Int)) (by rfl) hx0 (fun X hX => by first | rfl | go_simp) ?_
              (try simp only [Act.put, List.setIfInBounds_toArray, List.set_cons_zero, List.set_cons_succ])
              refine tl_val (S := fun X => Fr w D s3 [(G, pcells p, 37)] X) (.bool false) (by rfl) hx0 (fun X hX => (ex_eqi Tryd.underlying46 rfl rfl rfl).trans (by rw [HQ1.out]; rfl)) ?_
              (try simp only [Act.put, List.setIfInBounds_toArray, List.set_cons_zero, List.set_cons_succ])
              refine tl_val (S := fun X => Fr w D s3 [(G, pcells p, 37)] X) (.bool true) (by rfl) hx0 (fun X hX => by first | rfl | go_simp) ?_
              (try simp only [Act.put, List.setIfInBounds_toArray, List.set_cons_zero, List.set_cons_succ])
              refine tl_val (S := fun X => Fr w D s3 [(G, pcells p, 37)] X) (.bool false) (by rfl) hx0 (fun X hX => by first | rfl | go_simp) ?_
              (try simp only [Act.put, List.setIfInBounds_toArray, List.set_cons_zero, List.set_cons_succ])
              refine tl_val (S := fun X => Fr w D s3 [(G, pcells p, 37)] X) (.bool false) (by rfl) hx0 (fun X hX => by first | rfl | go_simp) ?_
              (try simp only [Act.put, List.setIfInBounds_toArray, List.set_cons_zero, List.set_cons_succ])
              refine tl_val (S := fun X => Fr w D s3 [(G, pcells p, 37)] X) (.int .u32 (off : Int)) (by rfl) hx0 (fun X hX => by first | rfl | go_simp) ?_
              (try simp only [Act.put, List.setIfInBounds_toArray, List.set_cons_zero, List.set_cons_succ])
              refine tl_val (S := fun X => Fr w D s3 [(G, pcells p, 37)] X) (.bool false) (by rfl) hx0 (fun X hX => ex_ge32 HO.out rfl rfl rfl) ?_
              (try simp only [Act.put, List.setIfInBounds_toArray, List.set_cons_zero, List.set_cons_succ])
              refine tl_val (S := fun X => Fr w D s3 [(G, pcells p, 37)] X) (.bool false) (by rfl) hx0 (fun X hX => by first | rfl | go_simp) ?_
              (try simp only [Act.put, List.setIfInBounds_toArray, List.set_cons_zero, List.set_cons_succ])
              refine tl_val (S := fun X => Fr w D s3 [(G, pcells p, 37)] X) (.bool false) (by rfl) hx0 (fun X hX => by first | rfl | go_simp) ?_
              (try simp only [Act.put, List.setIfInBounds_toArray, List.set_cons_zero, List.set_cons_succ])
              refine tl_val (S := fun X => Fr w D s3 [(G, pcells p, 37)] X) (.bool false) (by rfl) hx0 (fun X hX => by first | rfl | go_simp) ?_
              (try simp only [Act.put, List.setIfInBounds_toArray, List.set_cons_zero, List.set_cons_succ])
              refine tl_val (S := fun X => Fr w D s3 [(G, pcells p, 37)] X) (.bool false) (by rfl) hx0 (fun X hX => by first | rfl | go_simp) ?_
              (try simp only [Act.put, List.setIfInBounds_toArray, List.set_cons_zero, List.set_cons_succ])
              refine tl_val (S := fun X => Fr w D s3 [(G, pcells p, 37)] X) (.int .i64 (e2 : Int)) (by rfl) hx0 (fun X hX => by first | rfl | go_simp) ?_
              (try simp only [Act.put, List.setIfInBounds_toArray, List.set_cons_zero, List.set_cons_succ])
              refine tl_val (S := fun X => Fr w D s3 [(G, pcells p, 37)] X) (.bool false) (by rfl) hx0 (fun X hX => (ex_eqi Tryd.underlying46 rfl rfl rfl).trans (by rw [HQ2.out]; rfl)) ?_
              (try simp only [Act.put, List.setIfInBounds_toArray, List.set_cons_zero, List.set_cons_succ])
              refine tl_val (S := fun X => Fr w D s3 [(G, pcells p, 37)] X) (.bool true) (by rfl) hx0 (fun X hX => by first | rfl | go_simp) ?_
              (try simp only [Act.put, List.setIfInBounds_toArray, List.set_cons_zero, List.set_cons_succ])
              refine tl_val (S := fun X => Fr w D s3 [(G, pcells p, 37)] X) (.bool false) (by rfl) hx0 (fun X hX => by first | rfl | go_simp) ?_
              (try simp only [Act.put, List.setIfInBounds_toArray, List.set_cons_zero, List.set_cons_succ])
              refine tl_val (S := fun X => Fr w D s3 [(G, pcells p, 37)] X) (.bool false) (by rfl) hx0 (fun X hX => by first | rfl | go_simp) ?_
              (try simp only [Act.put, List.setIfInBounds_toArray, List.set_cons_zero, List.set_cons_succ])
              refine tl_val (S := fun X => Fr w D s3 [(G, pcells p, 37)] X) (.bool false) (by rfl) hx0 (fun X hX => by first | rfl | go_simp) ?_
              (try simp only [Act.put, List.setIfInBounds_toArray, List.set_cons_zero, List.set_cons_succ])
              refine tl_val (S := fun X => Fr w D s3 [(G, pcells p, 37)] X) (.int .i64 (e3 : Int)) (by rfl) hx0 (fun X hX => by first | rfl | go_simp) ?_
              (try simp only [Act.put, List.setIfInBounds_toArray, List.set_cons_zero, List.set_cons_succ])
              refine tl_val (S := fun X => Fr w D s3 [(G, pcells p, 37)] X) (.bool true) (by rfl) hx0 (fun X hX => (ex_eqi Tryd.underlying46 rfl rfl rfl).trans (by rw [HQ3.out]; rfl)) ?_
              (try simp only [Act.put, List.setIfInBounds_toArray, List.set_cons_zero, List.set_cons_succ])
              refine tl_val (S := fun X => Fr w D s3 [(G, pcells p, 37)] X) (.bool false) (by rfl) hx0 (fun X hX => by first | rfl | go_simp) ?_
              (try simp only [Act.put, List.setIfInBounds_toArray, List.set_cons_zero, List.set_cons_succ])
              refine tl_val (S := fun X => Fr w D s3 [(G, pcells p, 37)] X) (.bool false) (by rfl) hx0 (fun X hX => by first | rfl | go_simp) ?_
              (try simp only [Act.put, List.setIfInBounds_toArray, List.set_cons_zero, List.set_cons_succ])
              refine tl_val (S := fun X => Fr w D s3 [(G, pcells p, 37)] X) (.bool false) (by rfl) hx0 (fun X hX => by first | rfl | go_simp) ?_
              (try simp only [Act.put, List.setIfInBounds_toArray, List.set_cons_zero, List.set_cons_succ])
              refine wpList_nil ?_
              have HF6 := Lib.hid hx0
              clear hx0
              go_wp2_with fail
              go_meet
              case rel => exact ⟨rfl, HF6.out⟩
          · as_aux_lemma =>
              refine wp_region_list ?_
              refine tl_val (S := fun X => Fr w D s3 [(G, pcells p, 37)] X) (.int .i64 2) (by rfl) hx0 (fun X hX => by first | rfl | go_simp) ?_
              (try simp only [Act.put, List.setIfInBounds_toArray, List.set_cons_zero, List.set_cons_succ])
              refine tl_val (S := fun X => Fr w D s3 [(G, pcells p, 37)] X) (.bool false) (by rfl) hx0 (fun X hX => by first | rfl | go_simp) ?_
              (try simp only [Act.put, List.setIfInBounds_toArray, List.set_cons_zero, List.set_cons_succ])
              refine tl_val (S := fun X => Fr w D s3 [(G, pcells p, 37)] X) (.bool false) (by rfl) hx0 (fun X hX => by first | rfl | go_simp) ?_
              (try simp only [Act.put, List.setIfInBounds_toArray, List.set_cons_zero, List.set_cons_succ])
              refine tl_val (S := fun X => Fr w D s3 [(G, pcells p, 37)] X) (.int .i64 2) (by rfl) hx0 (fun X hX => by first | rfl | go_simp) ?_
              (try simp only [Act.put, List.setIfInBounds_toArray, List.set_cons_zero, List.set_cons_succ])
              refine tl_val (S := fun X => Fr w D s3 [(G, pcells p, 37)] X) (.bool false) (by rfl) hx0 (fun X hX => by first | rfl | go_simp) ?_
              (try simp only [Act.put, List.setIfInBounds_toArray, List.set_cons_zero, List.set_cons_succ])
              refine tl_val (S := fun X => Fr w D s3 [(G, pcells p, 37)] X) (.bool false) (by rfl) hx0 (fun X hX => by first | rfl | go_simp) ?_
              (try simp only [Act.put, List.setIfInBounds_toArray, List.set_cons_zero, List.set_cons_succ])
              refine tl_val (S := fun X => Fr w D s3 [(G, pcells p, 37)] X) (.bool false) (by rfl) hx0 (fun X hX => by first | rfl | go_simp) ?_
              (try simp only [Act.put, List.setIfInBounds_toArray, List.set_cons_zero, List.set_cons_succ])
              refine tl_val (S := fun X => Fr w D s3 [(G, pcells p, 37)] X) (.int .i64 2) (by rfl) hx0 (fun X hX => by first | rfl | go_simp) ?_
              (try simp only [Act.put, List.setIfInBounds_toArray, List.set_cons_zero, List.set_cons_succ])
              refine tl_val (S := fun X => Fr w D s3 [(G, pcells p, 37)] X) (.bool false) (by rfl) hx0 (fun X hX => by first | rfl | go_simp) ?_
              (try simp only [Act.put, List.setIfInBounds_toArray, List.set_cons_zero, List.set_cons_succ])
              refine tl_val (S := fun X => Fr w D s3 [(G, pcells p, 37)] X) (.bool false) (by rfl) hx0 (fun X hX => by first | rfl | go_simp) ?_
              (try simp only [Act.put, List.setIfInBounds_toArray, List.set_cons_zero, List.set_cons_succ])
              refine tl_val (S := fun X => Fr w D s3 [(G, pcells p, 37)] X) (.bool false) (by rfl) hx0 (fun X hX => by first | rfl | go_simp) ?_
              (try simp only [Act.put, List.setIfInBounds_toArray, List.set_cons_zero, List.set_cons_succ])
              refine tl_val (S := fun X => Fr w D s3 [(G, pcells p, 37)] X) (.int .i64 (e1 : Int)) (by rfl) hx0 (fun X hX => by first | rfl | go_simp) ?_
              (try simp only [Act.put, List.setIfInBounds_toArray, List.set_cons_zero, List.set_cons_succ])
              refine tl_val (S := fun X => Fr w D s3 [(G, pcells p, 37)] X) (.bool false) (by rfl) hx0 (fun X hX => (ex_eqi Tryd.underlying46 rfl rfl rfl).trans (by rw [HQ1.out]; rfl)) ?_
              (try simp only [Act.put, List.setIfInBounds_toArray, List.set_cons_zero, List.set_cons_succ])
              refine tl_val (S := fun X => Fr w D s3 [(G, pcells p, 37)] X) (.bool true) (by rfl) hx0 (fun X hX => by first | rfl | go_simp) ?_
              (try simp only [Act.put, List.setIfInBounds_toArray, List.set_cons_zero, List.set_cons_succ])
              refine tl_val (S := fun X => Fr w D s3 [(G, pcells p, 37)] X) (.bool false) (by rfl) hx0 (fun X hX => by first | rfl | go_simp) ?_
              (try simp only [Act.put, List.setIfInBounds_toArray, List.set_cons_zero, List.set_cons_succ])
              refine tl_val (S := fun X => Fr w D s3 [(G, pcells p, 37)] X) (.bool false) (by rfl) hx0 (fun X hX => by first | rfl | go_simp) ?_
              (try simp only [Act.put, List.setIfInBounds_toArray, List.set_cons_zero, List.set_cons_succ])
              refine tl_val (S := fun X => Fr w D s3 [(G, pcells p, 37)] X) (.int .u32 (off : Int)) (by rfl) hx0 (fun X hX => by first | rfl | go_simp) ?_
              (try simp only [Act.put, List.setIfInBounds_toArray, List.set_cons_zero, List.set_cons_succ])
              refine tl_val (S := fun X => Fr w D s3 [(G, pcells p, 37)] X) (.bool false) (by rfl) hx0 (fun X hX => ex_ge32 HO.out rfl rfl rfl) ?_
              (try simp only [Act.put, List.setIfInBounds_toArray, List.set_cons_zero, List.set_cons_succ])
              refine tl_val (S := fun X => Fr w D s3 [(G, pcells p, 37)] X) (.bool false) (by rfl) hx0 (fun X hX => by first | rfl | go_simp) ?_
              (try simp only [Act.put, List.setIfInBounds_toArray, List.set_cons_zero, List.set_cons_succ])
              refine tl_val (S := fun X => Fr w D s3 [(G, pcells p, 37)] X) (.bool false) (by rfl) hx0 (fun X hX => by first | rfl | go_simp) ?_
              (try simp only [Act.put, List.setIfInBounds_toArray, List.set_cons_zero, List.set_cons_succ])
              refine tl_val (S := fun X => Fr w D s3 [(G, pcells p, 37)] X) (.bool false) (by rfl) hx0 (fun X hX => by first | rfl | go_simp) ?_
              (try simp only [Act.put, List.setIfInBounds_toArray, List.set_cons_zero, List.set_cons_succ])
              refine tl_val (S := fun X => Fr w D s3 [(G, pcells p, 37)] X) (.bool false) (by rfl) hx0 (fun X hX => by first | rfl | go_simp) ?_
              (try simp only [Act.put, List.setIfInBounds_toArray, List.set_cons_zero, List.set_cons_succ])
              refine tl_val (S := fun X => Fr w D s3 [(G, pcells p, 37)] X) (.int .i64 (e2 : Int)) (by rfl) hx0 (fun X hX => by first | rfl | go_simp) ?_
              (try simp only [Act.put, List.setIfInBounds_toArray, List.set_cons_zero, List.set_cons_succ])
              refine tl_val (S := fun X => Fr w D s3 [(G, pcells p, 37)] X) (.bool false) (by rfl) hx0 (fun X hX => (ex_eqi Tryd.underlying46 rfl rfl rfl).trans (by rw [HQ2.out]; rfl)) ?_
              (try simp only [Act.put, List.setIfInBounds_toArray, List.set_cons_zero, List.set_cons_succ])
              refine tl_val (S := fun X => Fr w D s3 [(G, pcells p, 37)] X) (.bool true) (by rfl) hx0 (fun X hX => by first | rfl | go_simp) ?_
              (try simp only [Act.put, List.setIfInBounds_toArray, List.set_cons_zero, List.set_cons_succ])
              refine tl_val (S := fun X => Fr w D s3 [(G, pcells p, 37)] X) (.bool false) (by rfl) hx0 (fun X hX => by first | rfl | go_simp) ?_
              (try simp only [Act.put, List.setIfInBounds_toArray, List.set_cons_zero, List.set_cons_succ])
              refine tl_val (S := fun X => Fr w D s3 [(G, pcells p, 37)] X) (.bool false) (by rfl) hx0 (fun X hX => by first | rfl | go_simp) ?_
              (try simp only [Act.put, List.setIfInBounds_toArray, List.set_cons_zero, List.set_cons_succ])
              refine tl_val (S := fun X => Fr w D s3 [(G, pcells p, 37)] X) (.bool false) (by rfl) hx0 (fun X hX => by first | rfl | go_simp) ?_
              (try simp only [Act.put, List.setIfInBounds_toArray, List.set_cons_zero, List.set_cons_succ])
              refine tl_val (S := fun X => Fr w D s3 [(G, pcells p, 37)] X) (.int .i64 (e3 : Int)) (by rfl) hx0 (fun X hX => by first | rfl | go_simp) ?_
              (try simp only [Act.put, List.setIfInBounds_toArray, List.set_cons_zero, List.set_cons_succ])
              refine tl_val (S := fun X => Fr w D s3 [(G, pcells p, 37)] X) (.bool false) (by rfl) hx0 (fun X hX => (ex_eqi Tryd.underlying46 rfl rfl rfl).trans (by rw [HQ3.out]; rfl)) ?_
              (try simp only [Act.put, List.setIfInBounds_toArray, List.set_cons_zero, List.set_cons_succ])
              refine tl_val (S := fun X => Fr w D s3 [(G, pcells p, 37)] X) (.bool true) (by rfl) hx0 (fun X hX => by first | rfl | go_simp) ?_
              (try simp only [Act.put, List.setIfInBounds_toArray, List.set_cons_zero, List.set_cons_succ])
              refine tl_val (S := fun X => Fr w D s3 [(G, pcells p, 37)] X) (.bool false) (by rfl) hx0 (fun X hX => by first | rfl | go_simp) ?_
              (try simp only [Act.put, List.setIfInBounds_toArray, List.set_cons_zero, List.set_cons_succ])
              refine tl_val (S := fun X => Fr w D s3 [(G, pcells p, 37)] X) (.bool false) (by rfl) hx0 (fun X hX => by first | rfl | go_simp) ?_
              (try simp only [Act.put, List.setIfInBounds_toArray, List.set_cons_zero, List.set_cons_succ])
              refine wpList_nil ?_
              have HF6 := Lib.hid hx0
              clear hx0
              go_wp2_with fail
              go_meet
              case rel => exact ⟨rfl, HF6.out⟩
        · cases B
          · as_aux_lemma =>
              refine wp_region_list ?_
              refine tl_val (S := fun X => Fr w D s3 [(G, pcells p, 37)] X) (.int .i64 2) (by rfl) hx0 (fun X hX => by first | rfl | go_simp) ?_
              (try simp only [Act.put, List.setIfInBounds_toArray, List.set_cons_zero, List.set_cons_succ])
              refine tl_val (S := fun X => Fr w D s3 [(G, pcells p, 37)] X) (.bool false) (by rfl) hx0 (fun X hX => by first | rfl | go_simp) ?_
              (try simp only [Act.put, List.setIfInBounds_toArray, List.set_cons_zero, List.set_cons_succ])
              refine tl_val (S := fun X => Fr w D s3 [(G, pcells p, 37)] X) (.bool false) (by rfl) hx0 (fun X hX => by first | rfl | go_simp) ?_
              (try simp only [Act.put, List.setIfInBounds_toArray, List.set_cons_zero, List.set_cons_succ])
              refine tl_val (S := fun X => Fr w D s3 [(G, pcells p, 37)] X) (.int .i64 2) (by rfl) hx0 (fun X hX => by first | rfl | go_simp) ?_
              (try simp only [Act.put, List.setIfInBounds_toArray, List.set_cons_zero, List.set_cons_succ])
              refine tl_val (S := fun X => Fr w D s3 [(G, pcells p, 37)] X) (.bool false) (by rfl) hx0 (fun X hX => by first | rfl | go_simp) ?_
              (try simp only [Act.put, List.setIfInBounds_toArray, List.set_cons_zero, List.set_cons_succ])
              refine tl_val (S := fun X => Fr w D s3 [(G, pcells p, 37)] X) (.bool false) (by rfl) hx0 (fun X hX => by first | rfl | go_simp) ?_
              (try simp only [Act.put, List.setIfInBounds_toArray, List.set_cons_zero, List.set_cons_succ])
              refine tl_val (S := fun X => Fr w D s3 [(G, pcells p, 37)] X) (.bool false) (by rfl) hx0 (fun X hX => by first | rfl | go_simp) ?_
              (try simp only [Act.put, List.setIfInBounds_toArray, List.set_cons_zero, List.set_cons_succ])
              refine tl_val (S := fun X => Fr w D s3 [(G, pcells p, 37)] X) (.int .i64 2) (by rfl) hx0 (fun X hX => by first | rfl | go_simp) ?_
              (try simp only [Act.put, List.setIfInBounds_toArray, List.set_cons_zero, List.set_cons_succ])
              refine tl_val (S := fun X => Fr w D s3 [(G, pcells p, 37)] X) (.bool false) (by rfl) hx0 (fun X hX => by first | rfl | go_simp) ?_
              (try simp only [Act.put, List.setIfInBounds_toArray, List.set_cons_zero, List.set_cons_succ])
              refine tl_val (S := fun X => Fr w D s3 [(G, pcells p, 37)] X) (.bool false) (by rfl) hx0 (fun X hX => by first | rfl | go_simp) ?_
              (try simp only [Act.put, List.setIfInBounds_toArray, List.set_cons_zero, List.set_cons_succ])
              refine tl_val (S := fun X => Fr w D s3 [(G, pcells p, 37)] X) (.bool false) (by rfl) hx0 (fun X hX => by first | rfl | go_simp) ?_
              (try simp only [Act.put, List.setIfInBounds_toArray, List.set_cons_zero, List.set_cons_succ])
              refine tl_val (S := fun X => Fr w D s3 [(G, pcells p, 37)] X) (.int .i64 (e1 : Int)) (by rfl) hx0 (fun X hX => by first | rfl | go_simp) ?_
              (try simp only [Act.put, List.setIfInBounds_toArray, List.set_cons_zero, List.set_cons_succ])
              refine tl_val (S := fun X => Fr w D s3 [(G, pcells p, 37)] X) (.bool true) (by rfl) hx0 (fun X hX => (ex_eqi Tryd.underlying46 rfl rfl rfl).trans (by rw [HQ1.out]; rfl)) ?_
              (try simp only [Act.put, List.setIfInBounds_toArray, List.set_cons_zero, List.set_cons_succ])
              refine tl_val (S := fun X => Fr w D s3 [(G, pcells p, 37)] X) (.bool true) (by rfl) hx0 (fun X hX => by first | rfl | go_simp) ?_
              (try simp only [Act.put, List.setIfInBounds_toArray, List.set_cons_zero, List.set_cons_succ])
              refine tl_val (S := fun X => Fr w D s3 [(G, pcells p, 37)] X) (.bool false) (by rfl) hx0 (fun X hX => by first | rfl | go_simp) ?_
              (try simp only [Act.put, List.setIfInBounds_toArray, List.set_cons_zero, List.set_cons_succ])
              refine tl_val (S := fun X => Fr w D s3 [(G, pcells p, 37)] X) (.bool false) (by rfl) hx0 (fun X hX => by first | rfl | go_simp) ?_
              (try simp only [Act.put, List.setIfInBounds_toArray, List.set_cons_zero, List.set_cons_succ])
              refine tl_val (S := fun X => Fr w D s3 [(G, pcells p, 37)] X) (.int .u32 (off : Int)) (by rfl) hx0 (fun X hX => by first | rfl | go_simp) ?_
              (try simp only [Act.put, List.setIfInBounds_toArray, List.set_cons_zero, List.set_cons_succ])
              refine tl_val (S := fun X => Fr w D s3 [(G, pcells p, 37)] X) (.bool true) (by rfl) hx0 (fun X hX => ex_ge32 HO.out rfl rfl rfl) ?_
              (try simp only [Act.put, List.setIfInBounds_toArray, List.set_cons_zero, List.set_cons_succ])
              refine tl_val (S := fun X => Fr w D s3 [(G, pcells p, 37)] X) (.bool true) (by rfl) hx0 (fun X hX => by first | rfl | go_simp) ?_
              (try simp only [Act.put, List.setIfInBounds_toArray, List.set_cons_zero, List.set_cons_succ])
              refine tl_val (S := fun X => Fr w D s3 [(G, pcells p, 37)] X) (.bool false) (by rfl) hx0 (fun X hX => by first | rfl | go_simp) ?_
              (try simp only [Act.put, List.setIfInBounds_toArray, List.set_cons_zero, List.set_cons_succ])
              refine tl_val (S := fun X => Fr w D s3 [(G, pcells p, 37)] X) (.bool false) (by rfl) hx0 (fun X hX => by first | rfl | go_simp) ?_
              (try simp only [Act.put, List.setIfInBounds_toArray, List.set_cons_zero, List.set_cons_succ])
              refine tl_val (S := fun X => Fr w D s3 [(G, pcells p, 37)] X) (.bool false) (by rfl) hx0 (fun X hX => by first | rfl | go_simp) ?_
              (try simp only [Act.put, List.setIfInBounds_toArray, List.set_cons_zero, List.set_cons_succ])
              refine tl_val (S := fun X => Fr w D s3 [(G, pcells p, 37)] X) (.int .i64 (e2 : Int)) (by rfl) hx0 (fun X hX => by first | rfl | go_simp) ?_
              (try simp only [Act.put, List.setIfInBounds_toArray, List.set_cons_zero, List.set_cons_succ])
              refine tl_val (S := fun X => Fr w D s3 [(G, pcells p, 37)] X) (.bool false) (by rfl) hx0 (fun X hX => (ex_eqi Tryd.underlying46 rfl rfl rfl).trans (by rw [HQ2.out]; rfl)) ?_
              (try simp only [Act.put, List.setIfInBounds_toArray, List.set_cons_zero, List.set_cons_succ])
              refine tl_val (S := fun X => Fr w D s3 [(G, pcells p, 37)] X) (.bool true) (by rfl) hx0 (fun X hX => by first | rfl | go_simp) ?_
              (try simp only [Act.put, List.setIfInBounds_toArray, List.set_cons_zero, List.set_cons_succ])
              refine tl_val (S := fun X => Fr w D s3 [(G, pcells p, 37)] X) (.bool false) (by rfl) hx0 (fun X hX => by first | rfl | go_simp) ?_
              (try simp only [Act.put, List.setIfInBounds_toArray, List.set_cons_zero, List.set_cons_succ])
              refine tl_val (S := fun X => Fr w D s3 [(G, pcells p, 37)] X) (.bool false) (by rfl) hx0 (fun X hX => by first | rfl | go_simp) ?_
              (try simp only [Act.put, List.setIfInBounds_toArray, List.set_cons_zero, List.set_cons_succ])
              refine tl_val (S := fun X => Fr w D s3 [(G, pcells p, 37)] X) (.bool false) (by rfl) hx0 (fun X hX => by first | rfl | go_simp) ?_
              (try simp only [Act.put, List.setIfInBounds_toArray, List.set_cons_zero, List.set_cons_succ])
              refine tl_val (S := fun X => Fr w D s3 [(G, pcells p, 37)] X) (.int .i64 (e3 : Int)) (by rfl) hx0 (fun X hX => by first | rfl | go_simp) ?_
              (try simp only [Act.put, List.setIfInBounds_toArray, List.set_cons_zero, List.set_cons_succ])
              refine tl_val (S := fun X => Fr w D s3 [(G, pcells p, 37)] X) (.bool true) (by rfl) hx0 (fun X hX => (ex_eqi Tryd.underlying46 rfl rfl rfl).trans (by rw [HQ3.out]; rfl)) ?_
              (try simp only [Act.put, List.setIfInBounds_toArray, List.set_cons_zero, List.set_cons_succ])
              refine tl_val (S := fun X => Fr w D s3 [(G, pcells p, 37)] X) (.bool false) (by rfl) hx0 (fun X hX => by first | rfl | go_simp) ?_
              (try simp only [Act.put, List.setIfInBounds_toArray, List.set_cons_zero, List.set_cons_succ])
              refine tl_val (S := fun X => Fr w D s3 [(G, pcells p, 37)] X) (.bool false) (by rfl) hx0 (fun X hX => by first | rfl | go_simp) ?_
              (try simp only [Act.put, List.setIfInBounds_toArray, List.set_cons_zero, List.set_cons_succ])
              refine tl_val (S := fun X => Fr w D s3 [(G, pcells p, 37)] X) (.bool false) (by rfl) hx0 (fun X hX => by first | rfl | go_simp) ?_
              (try simp only [Act.put, List.setIfInBounds_toArray, List.set_cons_zero, List.set_cons_succ])
              refine wpList_nil ?_
              have HF6 := Lib.hid hx0
              clear hx0
              go_wp2_with fail
              go_meet
              case rel => exact ⟨rfl, HF6.out⟩
          · as_aux_lemma =>
              refine wp_region_list ?_
              refine tl_val (S := fun X => Fr w D s3 [(G, pcells p, 37)] X) (.int .i64 2) (by rfl) hx0 (fun X hX => by first | rfl | go_simp) ?_
              (try simp only [Act.put, List.setIfInBounds_toArray, List.set_cons_zero, List.set_cons_succ])
              refine tl_val (S := fun X => Fr w D s3 [(G, pcells p, 37)] X) (.bool false) (by rfl) hx0 (fun X hX => by first | rfl | go_simp) ?_
              (try simp only [Act.put, List.setIfInBounds_toArray, List.set_cons_zero, List.set_cons_succ])
              refine tl_val (S := fun X => Fr w D s3 [(G, pcells p, 37)] X) (.bool false) (by rfl) hx0 (fun X hX => by first | rfl | go_simp) ?_
              (try simp only [Act.put, List.setIfInBounds_toArray, List.set_cons_zero, List.set_cons_succ])
              refine tl_val (S := fun X => Fr w D s3 [(G, pcells p, 37)] X) (.int .i64 2) (by rfl) hx0 (fun X hX => by first | rfl | go_simp) ?_
              (try simp only [Act.put, List.setIfInBounds_toArray, List.set_cons_zero, List.set_cons_succ])
              refine tl_val (S := fun X => Fr w D s3 [(G, pcells p, 37)] X) (.bool false) (by rfl) hx0 (fun X hX => by first | rfl | go_simp) ?_
              (try simp only [Act.put, List.setIfInBounds_toArray, List.set_cons_zero, List.set_cons_succ])
              refine tl_val (S := fun X => Fr w D s3 [(G, pcells p, 37)] X) (.bool false) (by rfl) hx0 (fun X hX => by first | rfl | go_simp) ?_
              (try simp only [Act.put, List.setIfInBounds_toArray, List.set_cons_zero, List.set_cons_succ])
              refine tl_val (S := fun X => Fr w D s3 [(G, pcells p, 37)] X) (.bool false) (by rfl) hx0 (fun X hX => by first | rfl | go_simp) ?_
              (try simp only [Act.put, List.setIfInBounds_toArray, List.set_cons_zero, List.set_cons_succ])
              refine tl_val (S := fun X => Fr w D s3 [(G, pcells p, 37)] X) (.int .i64 2) (by rfl) hx0 (fun X hX => by first | rfl | go_simp) ?_
              (try simp only [Act.put, List.setIfInBounds_toArray, List.set_cons_zero, List.set_cons_succ])
              refine tl_val (S := fun X => Fr w D s3 [(G, pcells p, 37)] X) (.bool false) (by rfl) hx0 (fun X hX => by first | rfl | go_simp) ?_
              (try simp only [Act.put, List.setIfInBounds_toArray, List.set_cons_zero, List.set_cons_succ])
              refine tl_val (S := fun X => Fr w D s3 [(G, pcells p, 37)] X) (.bool false) (by rfl) hx0 (fun X hX => by first | rfl | go_simp) ?_
              (try simp only [Act.put, List.setIfInBounds_toArray, List.set_cons_zero, List.set_cons_succ])
              refine tl_val (S := fun X => Fr w D s3 [(G, pcells p, 37)] X) (.bool false) (by rfl) hx0 (fun X hX => by first | rfl | go_simp) ?_
              (try simp only [Act.put, List.setIfInBounds_toArray, List.set_cons_zero, List.set_cons_succ])
              refine tl_val (S := fun X => Fr w D s3 [(G, pcells p, 37)] X) (.int .i64 (e1 : Int)) (by rfl) hx0 (fun X hX => by first | rfl | go_simp) ?_
              (try simp only [Act.put, List.setIfInBounds_toArray, List.set_cons_zero, List.set_cons_succ])
              refine tl_val (S := fun X => Fr w D s3 [(G, pcells p, 37)] X) (.bool true) (by rfl) hx0 (fun X hX => (ex_eqi Tryd.underlying46 rfl rfl rfl).trans (by rw [HQ1.out]; rfl)) ?_
              (try simp only [Act.put, List.setIfInBounds_toArray, List.set_cons_zero, List.set_cons_succ])
              refine tl_val (S := fun X => Fr w D s3 [(G, pcells p, 37)] X) (.bool true) (by rfl) hx0 (fun X hX => by first | rfl | go_simp) ?_
              (try simp only [Act.put, List.setIfInBounds_toArray, List.set_cons_zero, List.set_cons_succ])
              refine tl_val (S := fun X => Fr w D s3 [(G, pcells p, 37)] X) (.bool false) (by rfl) hx0 (fun X hX => by first | rfl | go_simp) ?_
              (try simp only [Act.put, List.setIfInBounds_toArray, List.set_cons_zero, List.set_cons_succ])
              refine tl_val (S := fun X => Fr w D s3 [(G, pcells p, 37)] X) (.bool false) (by rfl) hx0 (fun X hX => by first | rfl | go_simp) ?_
              (try simp only [Act.put, List.setIfInBounds_toArray, List.set_cons_zero, List.set_cons_succ])
              refine tl_val (S := fun X => Fr w D s3 [(G, pcells p, 37)] X) (.int .u32 (off : Int)) (by rfl) hx0 (fun X hX => by first | rfl | go_simp) ?_
              (try simp only [Act.put, List.setIfInBounds_toArray, List.set_cons_zero, List.set_cons_succ])
              refine tl_val (S := fun X => Fr w D s3 [(G, pcells p, 37)] X) (.bool true) (by rfl) hx0 (fun X hX => ex_ge32 HO.out rfl rfl rfl) ?_
              (try simp only [Act.put, List.setIfInBounds_toArray, List.set_cons_zero, List.set_cons_succ])
              refine tl_val (S := fun X => Fr w D s3 [(G, pcells p, 37)] X) (.bool true) (by rfl) hx0 (fun X hX => by first | rfl | go_simp) ?_
              (try simp only [Act.put, List.setIfInBounds_toArray, List.set_cons_zero, List.set_cons_succ])
              refine tl_val (S := fun X => Fr w D s3 [(G, pcells p, 37)] X) (.bool false) (by rfl) hx0 (fun X hX => by first | rfl | go_simp) ?_
              (try simp only [Act.put, List.setIfInBounds_toArray, List.set_cons_zero, List.set_cons_succ])
              refine tl_val (S := fun X => Fr w D s3 [(G, pcells p, 37)] X) (.bool false) (by rfl) hx0 (fun X hX => by first | rfl | go_simp) ?_
              (try simp only [Act.put, List.setIfInBounds_toArray, List.set_cons_zero, List.set_cons_succ])
              refine tl_val (S := fun X => Fr w D s3 [(G, pcells p, 37)] X) (.bool false) (by rfl) hx0 (fun X hX => by first | rfl | go_simp) ?_
              (try simp only [Act.put, List.setIfInBounds_toArray, List.set_cons_zero, List.set_cons_succ])
              refine tl_val (S := fun X => Fr w D s3 [(G, pcells p, 37)] X) (.int .i64 (e2 : Int)) (by rfl) hx0 (fun X hX => by first | rfl | go_simp) ?_
              (try simp only [Act.put, List.setIfInBounds_toArray, List.set_cons_zero, List.set_cons_succ])
              refine tl_val (S := fun X => Fr w D s3 [(G, pcells p, 37)] X) (.bool false) (by rfl) hx0 (fun X hX => (ex_eqi Tryd.underlying46 rfl rfl rfl).trans (by rw [HQ2.out]; rfl)) ?_
              (try simp only [Act.put, List.setIfInBounds_toArray, List.set_cons_zero, List.set_cons_succ])
              refine tl_val (S := fun X => Fr w D s3 [(G, pcells p, 37)] X) (.bool true) (by rfl) hx0 (fun X hX => by first | rfl | go_simp) ?_
              (try simp only [Act.put, List.setIfInBounds_toArray, List.set_cons_zero, List.set_cons_succ])
              refine tl_val (S := fun X => Fr w D s3 [(G, pcells p, 37)] X) (.bool false) (by rfl) hx0 (fun X hX => by first | rfl | go_simp) ?_
              (try simp only [Act.put, List.setIfInBounds_toArray, List.set_cons_zero, List.set_cons_succ])
              refine tl_val (S := fun X => Fr w D s3 [(G, pcells p, 37)] X) (.bool false) (by rfl) hx0 (fun X hX => by first | rfl | go_simp) ?_
              (try simp only [Act.put, List.setIfInBounds_toArray, List.set_cons_zero, List.set_cons_succ])
              refine tl_val (S := fun X => Fr w D s3 [(G, pcells p, 37)] X) (.bool false) (by rfl) hx0 (fun X hX => by first | rfl | go_simp) ?_
              (try simp only [Act.put, List.setIfInBounds_toArray, List.set_cons_zero, List.set_cons_succ])
              refine tl_val (S := fun X => Fr w D s3 [(G, pcells p, 37)] X) (.int .i64 (e3 : Int)) (by rfl) hx0 (fun X hX => by first | rfl | go_simp) ?_
              (try simp only [Act.put, List.setIfInBounds_toArray, List.set_cons_zero, List.set_cons_succ])
              refine tl_val (S := fun X => Fr w D s3 [(G, pcells p, 37)] X) (.bool false) (by rfl) hx0 (fun X hX => (ex_eqi Tryd.underlying46 rfl rfl rfl).trans (by rw [HQ3.out]; rfl)) ?_
              (try simp only [Act.put, List.setIfInBounds_toArray, List.set_cons_zero, List.set_cons_succ])
              refine tl_val (S := fun X => Fr w D s3 [(G, pcells p, 37)] X) (.bool true) (by rfl) hx0 (fun X hX => by first | rfl | go_simp) ?_
              (try simp only [Act.put, List.setIfInBounds_toArray, List.set_cons_zero, List.set_cons_succ])
              refine tl_val (S := fun X => Fr w D s3 [(G, pcells p, 37)] X) (.bool false) (by rfl) hx0 (fun X hX => by first | rfl | go_simp) ?_
              (try simp only [Act.put, List.setIfInBounds_toArray, List.set_cons_zero, List.set_cons_succ])
              refine tl_val (S := fun X => Fr w D s3 [(G, pcells p, 37)] X) (.bool false) (by rfl) hx0 (fun X hX => by first | rfl | go_simp) ?_
              (try simp only [Act.put, List.setIfInBounds_toArray, List.set_cons_zero, List.set_cons_succ])
              refine wpList_nil ?_
              have HF6 := Lib.hid hx0
              clear hx0
              go_wp2_with fail
              go_meet
              case rel => exact ⟨rfl, HF6.out⟩
    case rest =>
    obtain ⟨rfl, hf6⟩ := hcut
    have HF6 := Lib.hid hf6
    clear hf6 HF5 HQ1 HQ2 HQ3
    go_upto_region 18 with fail
    go_cut [192] (fun v wx => v = .bool false ∧ Fr w D s3 [(G, pcells p, 37)] wx)
    case first =>
      obtain ⟨X6, hX6⟩ : ∃ X, wc = X := ⟨_, rfl⟩
      rw [hX6] at HF6 ⊢
      clear hX6
      cases A
      · have e3 : s3 = sh0 := by rw [← HS3.out, ← HS2.out, ← HS1.out]; exact still sh0 p off l HA.out
        have hf := HF6.out
        rw [e3] at hf
        obtain ⟨L1, v1, h1, -⟩ := hf.call
        obtain ⟨spr, capr, er, -⟩ := owns_form h1.rd.1
        have c5 := h1.blk.cell (j := 5) rfl
        rw [er] at c5
        have HC5 : Hid (X6.cell? ⟨D, 5, none⟩ = some (.slice spr 0 capr)) := Lib.hid c5
        clear h1 er c5 hf e3
        have hx0 : X6 = X6 := rfl
        as_aux_lemma =>
          refine wp_region_list ?_
          refine tl_val (S := fun X => X = X6) (.bool false) (by rfl) hx0 (fun X hX => by first | rfl | go_simp) ?_
          (try simp only [Act.put, List.setIfInBounds_toArray, List.set_cons_zero, List.set_cons_succ])
          refine tl_val (S := fun X => X = X6) (.bool true) (by rfl) hx0 (fun X hX => by first | rfl | go_simp) ?_
          (try simp only [Act.put, List.setIfInBounds_toArray, List.set_cons_zero, List.set_cons_succ])
          refine tl_val (S := fun X => X = X6) (.bool true) (by rfl) hx0 (fun X hX => by first | rfl | go_simp) ?_
          (try simp only [Act.put, List.setIfInBounds_toArray, List.set_cons_zero, List.set_cons_succ])
          refine tl_val (S := fun X => X = X6) (.pointer (some ⟨D, 0, none⟩)) (by rfl) hx0 (fun X hX => by first | rfl | go_simp) ?_
          (try simp only [Act.put, List.setIfInBounds_toArray, List.set_cons_zero, List.set_cons_succ])
          refine tl_val (S := fun X => X = X6) (.pointer (some ⟨D, 0, none⟩)) (by rfl) hx0 (fun X hX => ex_nc rfl rfl) ?_
          (try simp only [Act.put, List.setIfInBounds_toArray, List.set_cons_zero, List.set_cons_succ])
          refine tl_val (S := fun X => X = X6) (.pointer (some ⟨D, 5, none⟩)) (by rfl) hx0 (fun X hX => ex_faS (by omega) rfl rfl) ?_
          (try simp only [Act.put, List.setIfInBounds_toArray, List.set_cons_zero, List.set_cons_succ])
          refine tl_val (S := fun X => X = X6) (.slice spr 0 capr) (by rfl) hx0 (fun X hX => by subst hX; exact ex_ldPs rfl rfl HC5.out) ?_
          (try simp only [Act.put, List.setIfInBounds_toArray, List.set_cons_zero, List.set_cons_succ])
          refine tl_val (S := fun X => X = X6) (.int .i64 0) (by rfl) hx0 (fun X hX => by first | rfl | go_simp) ?_
          (try simp only [Act.put, List.setIfInBounds_toArray, List.set_cons_zero, List.set_cons_succ])
          refine tl_val (S := fun X => X = X6) (.bool false) (by rfl) hx0 (fun X hX => by first | rfl | go_simp) ?_
          (try simp only [Act.put, List.setIfInBounds_toArray, List.set_cons_zero, List.set_cons_succ])
          refine tl_val (S := fun X => X = X6) (.bool false) (by rfl) hx0 (fun X hX => by first | rfl | go_simp) ?_
          (try simp only [Act.put, List.setIfInBounds_toArray, List.set_cons_zero, List.set_cons_succ])
          refine wpList_nil ?_
          go_wp2_with fail
          go_meet
          case rel => exact ⟨rfl, HF6.out⟩
      · obtain ⟨z, hz⟩ : ∃ z, false = z := ⟨_, rfl⟩
        have HZT := Lib.hid hz.symm
        clear hz
        have hx0 : X6 = X6 := rfl
        as_aux_lemma =>
          refine wp_region_list ?_
          refine tl_val (S := fun X => X = X6) (.bool true) (by rfl) hx0 (fun X hX => by first | rfl | go_simp) ?_
          (try simp only [Act.put, List.setIfInBounds_toArray, List.set_cons_zero, List.set_cons_succ])
          refine tl_val (S := fun X => X = X6) (.bool z) (by rfl) hx0 (fun X hX => by rw [HZT.out]; first | rfl | go_simp) ?_
          (try simp only [Act.put, List.setIfInBounds_toArray, List.set_cons_zero, List.set_cons_succ])
          refine tl_val (S := fun X => X = X6) (.bool z) (by rfl) hx0 (fun X hX => by first | rfl | go_simp) ?_
          (try simp only [Act.put, List.setIfInBounds_toArray, List.set_cons_zero, List.set_cons_succ])
          refine tl_skip (by rw [HZT.out]; rfl) ?_
          (try simp only [Act.put, List.setIfInBounds_toArray, List.set_cons_zero, List.set_cons_succ])
          refine tl_skip (by rw [HZT.out]; rfl) ?_
          (try simp only [Act.put, List.setIfInBounds_toArray, List.set_cons_zero, List.set_cons_succ])
          refine tl_skip (by rw [HZT.out]; rfl) ?_
          (try simp only [Act.put, List.setIfInBounds_toArray, List.set_cons_zero, List.set_cons_succ])
          refine tl_skip (by rw [HZT.out]; rfl) ?_
          (try simp only [Act.put, List.setIfInBounds_toArray, List.set_cons_zero, List.set_cons_succ])
          refine tl_skip (by rw [HZT.out]; rfl) ?_
          (try simp only [Act.put, List.setIfInBounds_toArray, List.set_cons_zero, List.set_cons_succ])
          refine tl_skip (by rw [HZT.out]; rfl) ?_
          (try simp only [Act.put, List.setIfInBounds_toArray, List.set_cons_zero, List.set_cons_succ])
          refine tl_val (S := fun X => X = X6) (.bool false) (by rfl) hx0 (fun X hX => by rw [HZT.out]; rfl) ?_
          (try simp only [Act.put, List.setIfInBounds_toArray, List.set_cons_zero, List.set_cons_succ])
          refine wpList_nil ?_
          go_wp2_with fail
          go_meet
          case rel => exact ⟨rfl, HF6.out⟩
    case rest =>
    obtain ⟨rfl, hf7⟩ := hcut
    obtain ⟨X7, hX7⟩ : ∃ X, wc = X := ⟨_, rfl⟩
    rw [hX7] at hf7 ⊢
    have HF7 := Lib.hid hf7
    have HBD : Hid (s3.bad = []) := Lib.hid (by rw [← HS3.out, sets_bad, ← HS2.out, alls_bad, ← HS1.out, gets_bad]; rfl)
    obtain ⟨L1, v1, h1, -⟩ := hf7.call
    have c0 := h1.blk.cell (j := 0) rfl
    have hfz := h1.blk.free 0
    have hDl := h1.blk.lt
    have hDn : ¬ D = X7.heap.size := by omega
    have hDm : ¬ X7.heap.size = D := by omega
    have hDs : ¬ X7.heap.size ≤ D := by omega
    have hc0 : (X7.alloc (.cells #[.slice spb M capb] 41)).cell? ⟨D, 0, none⟩ = some v1.bl := (h1.blk.alloc _).cell (j := 0) rfl
    have hf0 : (X7.alloc (.cells #[.slice spb M capb] 41)).frozen? ⟨D, 0, none⟩ = false := (h1.blk.alloc _).free 0
    have hbl := HF7.out.blocks b spb capb HCB.out HZB.out HBS.out HBT.out (fun y hy => by simp at hy; subst hy; rintro ⟨a, ha, e⟩; have := HBT.out a ha; have := HGE.out; have e : G = a.block := e; omega) (Y := X7.alloc (.cells #[.slice spb M capb] 41)) (g := X7.heap.size) ((Below.refl _ _).alloc (Nat.le_refl _) _) (Nat.le_refl _) (by rw [HM.out]; exact Blk.new _ [.slice spb M capb] _)
    have hco : (X7.alloc (.cells #[.slice spb M capb] 41)).setCell ⟨D, 0, none⟩ (.slice (some ⟨X7.heap.size, 0, none⟩) 1 1) = (X7.setCell ⟨D, 0, none⟩ (.slice (some ⟨X7.heap.size, 0, none⟩) 1 1)).alloc (.cells #[.slice spb M capb] 41) := by go_simp
    rw [hco] at hbl
    have HBL := Lib.hid hbl
    clear hX7 hf7 HF6 HS1 HS2 HS3 HE1 HE2 HE3 h1 hbl hco
    go_upto_region 21 with fail
    refine (fun (k' : ∀ W, Fr w D { s3 with blocks := [b] } [(G, pcells p, 37)] W → Code.wp _ _ _ _ W) => k' _ HBL.out) ?_
    intro X8 hX8
    clear HBL HF7 c0 hfz hDl hDn hDm hDs hc0 hf0
    generalize X7.heap.size = gX at *
    have HL5 : Hid (Lim (0 + 73 + 73 + 715) { s3 with blocks := [b] }) := Lib.hid ⟨HL4.out.rd, HL4.out.md, HL4.out.gn, HL4.out.n, by simp, HL4.out.bd, HL4.out.rm⟩
    have hget := hX8.get kpt kpt_ok 0 (by omega) HL5.out (by omega)
    have hke : b.length ≠ 512 → getE { s3 with blocks := [b] } kpt 0 = 21 := kpt_err rfl HBD.out
    have hq4 := getP_ok { s3 with blocks := [b] } 0 kpt_ok
    obtain ⟨s4, hs4⟩ : ∃ s, getS { s3 with blocks := [b] } kpt 0 = s := ⟨_, rfl⟩
    obtain ⟨e4, he4⟩ : ∃ s, getE { s3 with blocks := [b] } kpt 0 = s := ⟨_, rfl⟩
    obtain ⟨q4, hq5⟩ : ∃ s, getP { s3 with blocks := [b] } kpt 0 = s := ⟨_, rfl⟩
    rw [hs4, he4, hq5] at hget
    rw [he4, HM.out] at hke
    rw [hq5] at hq4
    have HGET := Lib.hid hget; have HKE := Lib.hid hke
    have HSQ := Lib.hid (size_pc hq4)
    have HLQ : Hid ((pcells q4).toArray.size = 41) := Lib.hid (by rw [List.size_toArray, pcells_length hq4])
    clear hX8 hget hke hq4 hs4 he4 hq5 HL4 HL5 HBD
    go_wp2_with (first | (refine wpL_val rfl (ex_bldK rfl rfl rfl rfl) ?_) | fail)
    refine HGET.out.mono ?_
    rintro e X9 ⟨rfl, hf9, -⟩
    have HF9 := Lib.hid hf9
    clear hf9 HGET
    go_upto_region 22 with (first | (refine wpList_store_row rfl 37 (.tmp 27) (.tmp 204) rfl X9.heap.size (pcells q4).toArray rfl rfl 37 _ (heap_alloc_new X9 _) HSQ.out (by rw [HLQ.out]; rfl) (one_pc q4) ?_) | fail)
    refine (fun (k' : ∀ W, Fr w D s4 [(G, pcells p, 37)] W → Code.wp _ _ _ _ W) => k' _ (HF9.out.below (blk_row1 X9 _ (pcells q4) 37).2)) ?_
    intro Xa hXa
    generalize X9.heap.size = g27
    have HFa := Lib.hid hXa
    have hx0 : Xa = Xa := rfl
    clear hXa HF9 HSQ HLQ
    by_cases h5 : M = 512
    · have H5 : Hid (decide ((M : Int) = 512) = true) := Lib.hid (by simp; omega)
      clear h5
      as_aux_lemma =>
        refine wp_region_list ?_
        refine tl_val (S := fun X => X = Xa) (.slice spb M capb) (by rfl) hx0 (fun X hX => by first | rfl | go_simp) ?_
        (try simp only [Act.put, List.setIfInBounds_toArray, List.set_cons_zero, List.set_cons_succ])
        refine tl_val (S := fun X => X = Xa) (.int .i64 M) (by rfl) hx0 (fun X hX => by first | rfl | go_simp) ?_
        (try simp only [Act.put, List.setIfInBounds_toArray, List.set_cons_zero, List.set_cons_succ])
        refine tl_val (S := fun X => X = Xa) (.bool true) (by rfl) hx0 (fun X hX => (ex_eqi Tryd.underlying3 rfl rfl rfl).trans (by rw [H5.out])) ?_
        (try simp only [Act.put, List.setIfInBounds_toArray, List.set_cons_zero, List.set_cons_succ])
        refine tl_val (S := fun X => X = Xa) (.bool true) (by rfl) hx0 (fun X hX => by first | rfl | go_simp) ?_
        (try simp only [Act.put, List.setIfInBounds_toArray, List.set_cons_zero, List.set_cons_succ])
        refine tl_skip (by rfl) ?_
        (try simp only [Act.put, List.setIfInBounds_toArray, List.set_cons_zero, List.set_cons_succ])
        refine tl_skip (by rfl) ?_
        (try simp only [Act.put, List.setIfInBounds_toArray, List.set_cons_zero, List.set_cons_succ])
        refine tl_val (S := fun X => X = Xa) (.bool true) (by rfl) hx0 (fun X hX => by first | rfl | go_simp) ?_
        (try simp only [Act.put, List.setIfInBounds_toArray, List.set_cons_zero, List.set_cons_succ])
        refine tl_val (S := fun X => X = Xa) (.bool true) (by rfl) hx0 (fun X hX => by first | rfl | go_simp) ?_
        (try simp only [Act.put, List.setIfInBounds_toArray, List.set_cons_zero, List.set_cons_succ])
        refine tl_call (by rfl) 7 #[] (by go_simp) (fun u X => u = .bool true ∧ Below Xa.heap.size Xa X) ((twakes_any Xa HFa.out.tab).mono fun e Y ⟨e1, hb⟩ => ⟨_, e1, rfl, hb⟩) ?_
        rintro u Xb ⟨rfl, hb⟩
        (try simp only [Act.put, List.setIfInBounds_toArray, List.set_cons_zero, List.set_cons_succ])
        have HE := Lib.hid (HP.out Xb (HFa.out.bel.trans (hb.mono HFa.out.bel.size)))
        refine tl_val (S := fun X => X = Xb) (.bool true) (by rfl) (rfl : Xb = Xb) (fun X hX => by first | rfl | go_simp) ?_
        (try simp only [Act.put, List.setIfInBounds_toArray, List.set_cons_zero, List.set_cons_succ])
        refine tl_val (S := fun X => X = Xb) (.bool true) (by rfl) (rfl : Xb = Xb) (fun X hX => by first | rfl | go_simp) ?_
        (try simp only [Act.put, List.setIfInBounds_toArray, List.set_cons_zero, List.set_cons_succ])
        refine wpList_nil ?_
        clear hb
        go_wp2_with fail
        first | exact HE.out | (go_ret; exact HE.out)
    · have H5 : Hid (decide ((M : Int) = 512) = false) := Lib.hid (by simp; omega)
      obtain rfl : e4 = 21 := HKE.out h5
      clear h5
      as_aux_lemma =>
        refine wp_region_list ?_
        refine tl_val (S := fun X => X = Xa) (.slice spb M capb) (by rfl) hx0 (fun X hX => by first | rfl | go_simp) ?_
        (try simp only [Act.put, List.setIfInBounds_toArray, List.set_cons_zero, List.set_cons_succ])
        refine tl_val (S := fun X => X = Xa) (.int .i64 M) (by rfl) hx0 (fun X hX => by first | rfl | go_simp) ?_
        (try simp only [Act.put, List.setIfInBounds_toArray, List.set_cons_zero, List.set_cons_succ])
        refine tl_val (S := fun X => X = Xa) (.bool false) (by rfl) hx0 (fun X hX => (ex_eqi Tryd.underlying3 rfl rfl rfl).trans (by rw [H5.out])) ?_
        (try simp only [Act.put, List.setIfInBounds_toArray, List.set_cons_zero, List.set_cons_succ])
        refine tl_val (S := fun X => X = Xa) (.bool false) (by rfl) hx0 (fun X hX => by first | rfl | go_simp) ?_
        (try simp only [Act.put, List.setIfInBounds_toArray, List.set_cons_zero, List.set_cons_succ])
        refine tl_val (S := fun X => X = Xa) (.int .i64 ((21 : Nat) : Int)) (by rfl) hx0 (fun X hX => by first | rfl | go_simp) ?_
        (try simp only [Act.put, List.setIfInBounds_toArray, List.set_cons_zero, List.set_cons_succ])
        refine tl_val (S := fun X => X = Xa) (.bool true) (by rfl) hx0 (fun X hX => (ex_eqi Tryd.underlying46 rfl rfl rfl).trans rfl) ?_
        (try simp only [Act.put, List.setIfInBounds_toArray, List.set_cons_zero, List.set_cons_succ])
        refine tl_val (S := fun X => X = Xa) (.bool true) (by rfl) hx0 (fun X hX => by first | rfl | go_simp) ?_
        (try simp only [Act.put, List.setIfInBounds_toArray, List.set_cons_zero, List.set_cons_succ])
        refine tl_val (S := fun X => X = Xa) (.bool true) (by rfl) hx0 (fun X hX => by first | rfl | go_simp) ?_
        (try simp only [Act.put, List.setIfInBounds_toArray, List.set_cons_zero, List.set_cons_succ])
        refine tl_call (by rfl) 7 #[] (by go_simp) (fun u X => u = .bool true ∧ Below Xa.heap.size Xa X) ((twakes_any Xa HFa.out.tab).mono fun e Y ⟨e1, hb⟩ => ⟨_, e1, rfl, hb⟩) ?_
        rintro u Xb ⟨rfl, hb⟩
        (try simp only [Act.put, List.setIfInBounds_toArray, List.set_cons_zero, List.set_cons_succ])
        have HE := Lib.hid (HP.out Xb (HFa.out.bel.trans (hb.mono HFa.out.bel.size)))
        refine tl_val (S := fun X => X = Xb) (.bool true) (by rfl) (rfl : Xb = Xb) (fun X hX => by first | rfl | go_simp) ?_
        (try simp only [Act.put, List.setIfInBounds_toArray, List.set_cons_zero, List.set_cons_succ])
        refine tl_val (S := fun X => X = Xb) (.bool true) (by rfl) (rfl : Xb = Xb) (fun X hX => by first | rfl | go_simp) ?_
        (try simp only [Act.put, List.setIfInBounds_toArray, List.set_cons_zero, List.set_cons_succ])
        refine wpList_nil ?_
        clear hb
        go_wp2_with fail
        first | exact HE.out | (go_ret; exact HE.out)
end Go.Proofs.YtkbkmfmekjpleaaDoor
