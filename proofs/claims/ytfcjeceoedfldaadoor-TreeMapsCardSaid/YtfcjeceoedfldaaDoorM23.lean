/- The tree's All. -/
import Derived.Test.YtfcjeceoedfldaaDoorM22
namespace Go.Proofs.YtfcjeceoedfldaaDoor
open Go.RowKit

attribute [local go_sem] Oper.semAt_some

theorem ShAt.erase2 {w w' : World} {L L' : Nat → Nat} {D : Nat} {s : Sh} {v : Sv} (hlo : Lo L) (h : ShAt w' L' D s v) (m : Mv 9 L w L' w') : ∃ L2, ShAt w' L2 D s v ∧ Mv 5 L w L2 w' ∧ ∀ g, 6 ≤ L' g ∧ L' g ≤ 9 → L2 g = 0 ∧ w.heap.size ≤ g := by
  have hold : ∀ g, g < w.heap.size → (if 6 ≤ L' g ∧ L' g ≤ 9 then 0 else L' g) = L g := fun g hg => by
    have := hlo g
    rw [m.old g hg, if_neg (by omega)]
  refine ⟨fun g => if 6 ≤ L' g ∧ L' g ≤ 9 then 0 else L' g, h.out (Chg.refl (fun _ => False) w') (fun _ hf => hf.elim) (fun g _ => ?_) (fun g hg => ?_), ⟨?_, hold, fun g hg => ?_⟩, fun g hg => ⟨if_pos hg, ?_⟩⟩
  · by_cases h1 : 6 ≤ L' g ∧ L' g ≤ 9
    · right; rw [if_pos h1]; omega
    · left; rw [if_neg h1]
  · refine h.lt g (fun e => hg ?_)
    rw [e]; rfl
  · refine (Chg.refl (Foot 5 L) w).trans m.chg (fun g hg => ?_)
    left
    unfold Foot at *
    have := hlo g
    omega
  · have := m.new g hg
    by_cases h1 : 6 ≤ L' g ∧ L' g ≤ 9
    · left; rw [if_pos h1]; omega
    · rw [if_neg h1]; omega
  · by_cases hs : g < w.heap.size
    · have := m.old g hs; have := hlo g; omega
    · omega
def allR (s : Sh) (p : Pt) : Bw := belowP 0 64 2 s [] [] p 0
def allE (s : Sh) (p : Pt) : Nat := if refE p ≠ 0 then refE p else (allR s p).e
def allS (s : Sh) (p : Pt) : Sh := if refE p ≠ 0 then s else (allR s p).s
def allL (s : Sh) (p : Pt) : List Lf := if allE s p ≠ 0 then [] else (allR s p).ls
def allN (s : Sh) (p : Pt) : List Pt := if allE s p ≠ 0 then [] else (allR s p).ns
/-- What All hands back. -/
structure AllW (L : Nat → Nat) (w : World) (D : Nat) (s1 : Sh) (ls : List Lf) (ns : List Pt) (lv nv : Value) (w' : World) : Prop where
  sh : ∃ L2 v2, ShAt w' L2 D s1 v2 ∧ Mv 5 L w L2 w' ∧ (∀ g, lv.ownBlock = some g → L2 g = 0) ∧ ∀ g, nv.ownBlock = some g → L2 g = 0
  lo : OwnL w' 0 lv ls ∧ ∀ g, lv.ownBlock = some g → w.heap.size ≤ g
  no : OwnM w' 0 nv ns ∧ ∀ g, nv.ownBlock = some g → w.heap.size ≤ g
  okl : ∀ x ∈ ls, Lf.OK x
  okn : ∀ q ∈ ns, q.OK
def AllPost (L : Nat → Nat) (w : World) (D : Nat) (s : Sh) (p : Pt) (m : Nat) (e : Ending) (w' : World) : Prop :=
  ∃ lv nv, e = .returned (.tuple #[lv, nv, .int .i64 (allE s p : Int)]) ∧ AllW L w D (allS s p) (allL s p) (allN s p) lv nv w' ∧ Lim m (allS s p)
/-- What stands while All goes on: the pointer's box. -/
structure AlS (L : Nat → Nat) (w : World) (D G : Nat) (s : Sh) (p : Pt) (X : World) : Prop where
  sh : ∃ v, ShAt X L D s v ∧ Mv 5 L w L X
  box : Blk X G (pcells p) 37
theorem AlS.below {L : Nat → Nat} {w : World} {D G : Nat} {s : Sh} {p : Pt} {X Y : World} (h : AlS L w D G s p X) (hb : Below X.heap.size X Y) : AlS L w D G s p Y := by
  obtain ⟨⟨v, h1, h2⟩, h3⟩ := h
  exact ⟨⟨v, h1.below hb, h2.trans (Mv.of_below hb h1.lt)⟩, h3.below hb h3.lt⟩
theorem AlS.begin {L : Nat → Nat} {w : World} {D G Bx Wk fr tt : Nat} {md : Bool} {s : Sh} {p : Pt} {W X Y : World} {y : Array Value} (h : AlS L w D G s p W) (hb : Below W.heap.size W X) (hBx : Bx = W.heap.size) (hWk : Wk = W.heap.size + 1) (hsz : X.heap.size = W.heap.size + 1)
    (hga : if md then Blk X Bx [.slice none 0 0] 39 else Blk X Bx (pcells zeroP) 37) (hY : Y = (X.alloc (.cells y 69)).setRow Wk (wkcells D fr tt (.slice none 0 0) md Bx).toArray) :
    (∃ L', WkAt Y L' D Wk Bx md fr tt s [] [] ∧ Mv 9 L w L' Y) ∧ Blk Y G (pcells p) 37 := by
  subst hBx hWk hY
  obtain ⟨⟨v, h1, h2⟩, h3⟩ := h
  have hb2 : Below W.heap.size W (X.alloc (.cells y 69)) := hb.alloc hb.size _
  have hn : Blk (X.alloc (.cells y 69)) (W.heap.size + 1) y.toList 69 := Blk.new' _ _ _ _ _ hsz.symm (by simp)
  have hb3 := below_row hb2 (g := W.heap.size + 1) (by omega) (wkcells D fr tt (.slice none 0 0) md W.heap.size).toArray
  obtain ⟨k1, k2⟩ := wk_start (md := md) (fr := fr) (tt := tt) h1 h2 hb3 (Nat.le_refl _) (by omega) (by omega) (hn.row _) (by
    cases md
    · exact (Blk.alloc hga _).rowOther (by omega) _
    · exact (Blk.alloc hga _).rowOther (by omega) _)
  exact ⟨⟨_, k1, k2⟩, h3.below hb3 h3.lt⟩
theorem AllW.drew {L : Nat → Nat} {w : World} {D : Nat} {s1 : Sh} {ls : List Lf} {ns : List Pt} {lv nv : Value} {X : World} (h : AllW L w D s1 ls ns lv nv X) : AllW L w D s1 ls ns lv nv X.drew := by
  obtain ⟨⟨L2, v2, h1, h2, h3, h4⟩, h5, h6, h7, h8⟩ := h
  have hb : Below X.heap.size X X.drew := (Below.refl _ _).drew
  exact ⟨⟨L2, v2, h1.below hb, h2.trans (Mv.of_below hb h1.lt), h3, h4⟩, h5, h6, h7, h8⟩
theorem allW_none {L : Nat → Nat} {w : World} {D : Nat} {s1 : Sh} {X : World} (h : ShPost 5 L w D s1 X) : AllW L w D s1 [] [] (.slice none 0 0) (.slice none 0 0) X := by
  obtain ⟨L2, v2, h1, h2⟩ := h
  exact ⟨⟨L2, v2, h1, h2, (fun g hg => by cases hg), (fun g hg => by cases hg)⟩, ⟨World.ownsRow_nil _ _ _ _, fun g hg => by cases hg⟩, ⟨World.ownsRow_nil _ _ _ _, fun g hg => by cases hg⟩, fun x hx => by simp at hx, fun x hx => by simp at hx⟩
set_option maxRecDepth 100000 in
set_option maxHeartbeats 8000000 in
theorem trAll_any {w : World} {L : Nat → Nat} {D : Nat} {s : Sh} {v : Sv} {m : Nat} (p : Pt) (hp : p.OK) (h : ShAt w L D s v) (hlo : Lo L) (hk : Lim m s) (hm : m + cB 2 < 1000000) : Calls Tryd.prog 11 #[shI D, .agg (pcells p).toArray] w (AllPost L w D s p (m + cB 2)) := by
  have HPO := Lib.hid hp
  have hw1 : Below w.heap.size w (w.alloc (.cells (pcells p).toArray 37)) := (Below.refl _ _).alloc (Nat.le_refl _) _
  have HX : Hid (AlS L w D w.heap.size s p (w.alloc (.cells (pcells p).toArray 37))) := Lib.hid ⟨⟨v, h.below hw1, Mv.of_below hw1 h.lt⟩, Blk.new _ _ _⟩
  have HLO := Lib.hid hlo
  have HK := Lib.hid hk
  have HM : Hid (m + 73 < 1000000) := Lib.hid hm
  generalize hPost : AllPost L w D s p (m + cB 2) = Post
  have HP : Hid (∀ lv nv w', AllW L w D (allS s p) (allL s p) (allN s p) lv nv w' → Lim (m + 73) (allS s p) → Post (.returned (.tuple #[lv, nv, .int .i64 (allE s p : Int)])) w') := Lib.hid fun lv nv w' h2 h3 => by rw [← hPost]; exact ⟨lv, nv, rfl, h2, h3⟩
  clear hp h hlo hk hm hPost hw1
  unfold shI
  go_enter Tryd.func11, Tryd.ntmps11
  go_upto_region 1 with fail
  obtain ⟨G, hG⟩ : ∃ G, w.heap.size = G := ⟨_, rfl⟩
  rw [hG] at HX ⊢
  generalize (w.alloc (.cells (pcells p).toArray 37)) = W at HX ⊢
  obtain ⟨⟨v1, hs1, -⟩, -⟩ := HX.out
  have HRF := Lib.hid (trRefuse_any p HPO.out D W hs1.tab.1)
  clear hs1 v1
  go_wp2_with (first | (refine wpL_val rfl (ex_ldP HPO.out HX.out.box rfl rfl) ?_) | fail)
  refine HRF.out.mono ?_
  rintro e W2 ⟨rfl, hb2⟩
  have HX2 := Lib.hid (HX.out.below hb2)
  clear hb2 HX HRF
  obtain ⟨re, hre⟩ : ∃ re, refE p = re := ⟨_, rfl⟩
  have HRE := Lib.hid hre
  rw [hre]
  clear hre
  by_cases h0 : re = 0
  · subst h0
    rw [show ((0 : Nat) : Int) = (0 : Int) from rfl]
    have HBX : Hid (Below W2.heap.size W2 (W2.alloc (.cells #[.slice none 0 0] 39)) ∧ Blk (W2.alloc (.cells #[.slice none 0 0] 39)) W2.heap.size [.slice none 0 0] 39 ∧ (W2.alloc (.cells #[.slice none 0 0] 39)).heap.size = W2.heap.size + 1) := Lib.hid (box_new W2 _ 39 [.slice none 0 0] rfl)
    go_upto_region 5 with fail
    refine (fun (k : ∀ X, (Below W2.heap.size W2 X ∧ Blk X W2.heap.size [.slice none 0 0] 39 ∧ X.heap.size = W2.heap.size + 1) → Code.wp _ _ _ _ X) => k _ HBX.out) ?_
    rintro X ⟨hx1, hx2, hx3⟩
    obtain ⟨Bx, hBx⟩ : ∃ b, W2.heap.size = b := ⟨_, rfl⟩
    obtain ⟨Y, hY⟩ : ∃ Y, (X.alloc (.cells #[.nilIface, .int .u32 0, .int .u32 0, .slice none 0 0, .nilFunc] 69)).setRow (Bx + 1) (wkcells D 0 64 (.slice none 0 0) true Bx).toArray = Y := ⟨_, rfl⟩
    have hbg := HX2.out.begin (md := true) (Bx := Bx) (Wk := Bx + 1) (fr := 0) (tt := 64) hx1 hBx.symm (by omega) hx3 (by rw [← hBx]; exact hx2) hY.symm
    have HBG := Lib.hid hbg
    have hnW : (X.alloc (.cells #[.nilIface, .int .u32 0, .int .u32 0, .slice none 0 0, .nilFunc] 69)).heap[Bx + 1]? = some (.cells #[.nilIface, .int .u32 0, .int .u32 0, .slice none 0 0, .nilFunc] 69 (0, 0)) := by
      rw [← hBx, ← hx3]; exact heap_alloc_new X _
    have hal : ∀ {ρ : Operand → Value} {o : Oper}, o.op = .alloc 69 → (execOp ρ o).run Tryd.prog X = .ok (.value (.pointer (some ⟨Bx + 1, 0, none⟩))) (X.alloc (.cells #[.nilIface, .int .u32 0, .int .u32 0, .slice none 0 0, .nilFunc] 69)) := fun h => by
      rw [← hBx, ← hx3]; exact ex_alW h
    rw [hBx]
    clear hbg hx1 hx2 hx3 HBX HX2
    refine wp_region_list ?_
    refine wpL_val (v := shI D) (w' := X) rfl (by first | rfl | go_simp) ?_
    (try simp only [Act.put, List.setIfInBounds_toArray, List.set_cons_zero, List.set_cons_succ])
    refine wpL_val (v := .func (.func 18) #[] #[.pointer (some ⟨Bx, 0, none⟩)]) (w' := X) rfl (by first | rfl | go_simp) ?_
    (try simp only [Act.put, List.setIfInBounds_toArray, List.set_cons_zero, List.set_cons_succ])
    refine wpL_val (v := .agg (wkcells D 0 64 (.slice none 0 0) true Bx).toArray) (w' := X) rfl (ex_bldW (D := D) (fr := 0) (tt := 64) (f := 18) (c := .pointer (some ⟨Bx, 0, none⟩)) rfl rfl rfl rfl rfl) ?_
    (try simp only [Act.put, List.setIfInBounds_toArray, List.set_cons_zero, List.set_cons_succ])
    refine wpL_val (v := .pointer (some ⟨Bx + 1, 0, none⟩)) (w' := _) rfl (hal rfl) ?_
    (try simp only [Act.put, List.setIfInBounds_toArray, List.set_cons_zero, List.set_cons_succ])
    refine wpList_store_row rfl 69 (.tmp 9) (.tmp 19) rfl (Bx + 1) (wkcells D 0 64 (.slice none 0 0) true Bx).toArray rfl rfl 69 _ hnW sizeWk rfl (wk_one _ _ _ _ _) ?_
    (try simp only [Act.put, List.setIfInBounds_toArray, List.set_cons_zero, List.set_cons_succ])
    refine wpList_nil ?_
    rw [hY]
    clear hnW hal hY
    obtain ⟨⟨L2, k1, k2⟩, k4⟩ := HBG.out
    have HCL := Lib.hid (below_any 2 (Nat.le_refl _) p HPO.out 0 k1 ⟨HK.out, by simp, by simp⟩ (by have := HM.out; show m + 73 < _; omega) (by omega) (by omega))
    have HMV := Lib.hid k2; have HBP := Lib.hid k4
    clear k1 k2 k4 HBG
    obtain ⟨rb, hrb⟩ : ∃ rb, belowP 0 64 2 s [] [] p 0 = rb := ⟨_, rfl⟩
    have HGR : Hid (allR s p = rb) := Lib.hid hrb
    rw [hrb] at HCL
    clear hrb
    go_wp2_with (first | (refine wpL_val rfl (ex_ldP HPO.out HBP.out rfl rfl) ?_) | fail)
    refine HCL.out.mono ?_
    rintro e X3 ⟨rfl, ⟨L3, h3, m3⟩, lk3⟩
    have HSH := Lib.hid h3
    have HMM := Lib.hid (HMV.out.trans m3)
    have HLK := Lib.hid lk3
    clear h3 m3 lk3 HCL HMV HBP
    by_cases he : rb.e = 0
    · obtain ⟨v3, hs3⟩ := HSH.out.sh
      obtain ⟨nv, j1, j2, j3⟩ := HSH.out.wk
      obtain ⟨lv, g1, g2, g3⟩ := HSH.out.ga
      obtain ⟨L4, e1, e2, e3⟩ := hs3.erase2 HLO.out HMM.out
      have HAW : Hid (AllW L w D rb.s rb.ls rb.ns lv nv X3) := Lib.hid ⟨⟨L4, v3, e1, e2, fun g hg => (e3 g (by rw [g3 g hg]; omega)).1, fun g hg => (e3 g (by rw [j3 g hg]; omega)).1⟩, ⟨g2, fun g hg => (e3 g (by rw [g3 g hg]; omega)).2⟩, ⟨j2, fun g hg => (e3 g (by rw [j3 g hg]; omega)).2⟩, HSH.out.okl, HSH.out.okn⟩
      have HE : Hid (∀ X, AllW L w D rb.s rb.ls rb.ns lv nv X → Post (.returned (.tuple #[lv, nv, .int .i64 0])) X) := Lib.hid (fun X hX => by
        have h1 := HP.out lv nv X
        have e0 : allE s p = 0 := by unfold allE; rw [HRE.out, if_neg (by simp), HGR.out, he]
        have e1 : allS s p = rb.s := by unfold allS; rw [HRE.out, if_neg (by simp), HGR.out]
        have e2 : allL s p = rb.ls := by unfold allL; rw [e0, if_neg (by simp), HGR.out]
        have e3 : allN s p = rb.ns := by unfold allN; rw [e0, if_neg (by simp), HGR.out]
        rw [e0, e1, e2, e3] at h1
        exact h1 hX HLK.out.lim)
      have c0 : ∀ Y, Blk Y Bx [lv] 39 → Y.cell? ⟨Bx, 0, none⟩ = some lv := fun Y hY => hY.cell rfl
      have he' : (rb.e : Int) = 0 := by omega
      have HG1 := Lib.hid g1; have HJ1 := Lib.hid j1
      obtain ⟨spl, capl, el, -⟩ := owns_form g2
      obtain ⟨spn, capn, en, -⟩ := owns_form j2
      rw [he']
      clear he he' HP HSH hs3 HMM g1 j1 g2 j2 g3 j3 e1 e2 e3 HGR c0
      subst el en
      obtain ⟨nl, hnl⟩ : ∃ n, rb.ls.length = n := ⟨_, rfl⟩
      obtain ⟨nn, hnn⟩ : ∃ n, rb.ns.length = n := ⟨_, rfl⟩
      rw [hnl, hnn] at HAW HE
      rw [hnl] at HG1
      rw [hnn] at HJ1
      clear hnl hnn
      go_upto_region 9 with fail
      have hAW2 := HAW.out.drew
      refine wp_region_sched (.take 0 (.take 1 (.take 2 (.take 3 (.take 4 (.take 5 (.nil))))))) (by kernel_rfl) (by kernel_rfl) (fun d _ _ _ _ h => by cases d <;> exact h) (fun X => Blk X Bx [.slice spl nl capl] 39 ∧ Blk X (Bx + 1) (wkcells D 0 64 (.slice spn nn capn) true Bx) 69 ∧ True) (⟨HG1.out.drew, HJ1.out.drew, trivial⟩) ?_
      refine wpG_take _ (.slice spl nl capl) rfl (by rfl) (fun X hX => ex_ldLs rfl rfl (hX.1.cell rfl)) ?_
      (try simp only [Act.put, List.setIfInBounds_toArray, List.set_cons_zero, List.set_cons_succ])
      refine wpG_take _ (.pointer (some ⟨Bx + 1, 3, none⟩)) rfl (by rfl) (fun X hX => ex_faW (by omega) rfl rfl) ?_
      (try simp only [Act.put, List.setIfInBounds_toArray, List.set_cons_zero, List.set_cons_succ])
      refine wpG_take _ (.slice spn nn capn) rfl (by rfl) (fun X hX => ex_ldPs rfl rfl (hX.2.1.cell rfl)) ?_
      (try simp only [Act.put, List.setIfInBounds_toArray, List.set_cons_zero, List.set_cons_succ])
      refine wpG_take _ (.slice spl nl capl) rfl (by rfl) (fun X hX => by first | rfl | go_simp) ?_
      (try simp only [Act.put, List.setIfInBounds_toArray, List.set_cons_zero, List.set_cons_succ])
      refine wpG_take _ (.slice spn nn capn) rfl (by rfl) (fun X hX => by first | rfl | go_simp) ?_
      (try simp only [Act.put, List.setIfInBounds_toArray, List.set_cons_zero, List.set_cons_succ])
      refine wpG_take _ (.int .i64 0) rfl (by rfl) (fun X hX => by first | rfl | go_simp) ?_
      (try simp only [Act.put, List.setIfInBounds_toArray, List.set_cons_zero, List.set_cons_succ])
      refine wpG_nil ?_
      go_wp2_with fail
      exact HE.out _ hAW2
    · have HE : Hid (Post (.returned (.tuple #[.slice none 0 0, .slice none 0 0, .int .i64 (rb.e : Int)])) X3) := Lib.hid (by
        obtain ⟨v3, hs3⟩ := HSH.out.sh
        have h1 := HP.out (.slice none 0 0) (.slice none 0 0) X3
        have e0 : allE s p = rb.e := by unfold allE; rw [HRE.out, if_neg (by simp), HGR.out]
        have e1 : allS s p = rb.s := by unfold allS; rw [HRE.out, if_neg (by simp), HGR.out]
        have e2 : allL s p = [] := by unfold allL; rw [e0, if_pos he]
        have e3 : allN s p = [] := by unfold allN; rw [e0, if_pos he]
        rw [e0, e1, e2, e3] at h1
        exact h1 (allW_none (hs3.erase HLO.out HMM.out)) HLK.out.lim)
      have he' : ¬ (rb.e : Int) = 0 := by omega
      clear he HP HSH HMM
      go_wp2_with fail
      exact HE.out
  · have hre0 : ¬ (re : Int) = 0 := by omega
    have HE : Hid (Post (.returned (.tuple #[.slice none 0 0, .slice none 0 0, .int .i64 (re : Int)])) W2) := Lib.hid (by
      obtain ⟨⟨v2, k1, k2⟩, k3⟩ := HX2.out
      have h1 := HP.out (.slice none 0 0) (.slice none 0 0) W2
      have e0 : allE s p = re := by unfold allE; rw [HRE.out, if_pos h0]
      have e1 : allS s p = s := by unfold allS; rw [HRE.out, if_pos h0]
      have e2 : allL s p = [] := by unfold allL; rw [e0, if_pos h0]
      have e3 : allN s p = [] := by unfold allN; rw [e0, if_pos h0]
      rw [e0, e1, e2, e3] at h1
      exact h1 (allW_none ⟨L, v2, k1, k2⟩) (HK.out.mono (by omega) HM.out))
    clear HP h0
    go_wp2_with fail
    exact HE.out
end Go.Proofs.YtfcjeceoedfldaaDoor
