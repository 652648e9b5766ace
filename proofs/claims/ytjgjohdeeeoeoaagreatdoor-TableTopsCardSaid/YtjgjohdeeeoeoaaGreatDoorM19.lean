/- The tree's Get. -/
import Derived.Test.YtjgjohdeeeoeoaaGreatDoorM18
namespace Go.Proofs.YtjgjohdeeeoeoaaGreatDoor
open Go.RowKit
attribute [local go_sem] Oper.semAt_some
def Lo (L : Nat → Nat) : Prop := ∀ g, L g ≤ 5 ∨ L g = 10
theorem Lo.mv {L L' : Nat → Nat} {w w' : World} (h : Lo L) (m : Mv 5 L w L' w') : Lo L' := fun g => by
  by_cases hg : g < w.heap.size
  · rw [m.old g hg]; exact h g
  · exact m.new g (by omega)
def upd (L : Nat → Nat) (b j : Nat) : Nat → Nat := fun g => if g = b then j else L g
theorem upd_at (L : Nat → Nat) (b j : Nat) : upd L b j b = j := if_pos rfl
theorem upd_ne {L : Nat → Nat} {b j g : Nat} (h : g ≠ b) : upd L b j g = L g := if_neg h
theorem ShAt.erase {w w' : World} {L L' : Nat → Nat} {D : Nat} {s : Sh} {v : Sv} (hlo : Lo L) (h : ShAt w' L' D s v) (m : Mv 9 L w L' w') : ShPost 5 L w D s w' := by
  have hold : ∀ g, g < w.heap.size → (if 6 ≤ L' g ∧ L' g ≤ 9 then 0 else L' g) = L g := fun g hg => by
    have := hlo g
    rw [m.old g hg, if_neg (by omega)]
  refine ⟨fun g => if 6 ≤ L' g ∧ L' g ≤ 9 then 0 else L' g, v, h.out (Chg.refl (fun _ => False) w') (fun _ hf => hf.elim) (fun g _ => ?_) (fun g hg => ?_), ⟨?_, hold, fun g hg => ?_⟩⟩
  · by_cases h1 : 6 ≤ L' g ∧ L' g ≤ 9
    · right; rw [if_pos h1]; omega
    · left; rw [if_neg h1]
  · refine h.lt g (fun e => hg ?_)
    rw [e]; rfl
  · refine (Chg.refl (Foot 5 L) w).trans m.chg (fun g hg => ?_)
    left
    unfold Foot at *
    have := hlo g
    omega
  · have := m.new g hg
    by_cases h1 : 6 ≤ L' g ∧ L' g ≤ 9
    · left; rw [if_pos h1]; omega
    · rw [if_neg h1]; omega
theorem wk_start {w W X : World} {L : Nat → Nat} {D Wk Bx fr tt : Nat} {md : Bool} {s : Sh} {v : Sv} (hs : ShAt W L D s v) (hw : Mv 5 L w L W) (hb : Below W.heap.size W X) (h1 : W.heap.size ≤ Bx) (h2 : W.heap.size ≤ Wk) (hne : Bx ≠ Wk) (hwk : Blk X Wk (wkcells D fr tt (.slice none 0 0) md Bx) 149)
    (hga : if md then Blk X Bx [.slice none 0 0] 95 else Blk X Bx (pcells zeroP) 28) : WkAt X (upd (upd L Bx 6) Wk 7) D Wk Bx md fr tt s [] [] ∧ Mv 9 L w (upd (upd L Bx 6) Wk 7) X := by
  have hlt := hwk.lt
  have hBx : Bx < X.heap.size := by
    cases md
    · exact Blk.lt hga
    · exact Blk.lt hga
  have hold : ∀ g, g < W.heap.size → upd (upd L Bx 6) Wk 7 g = L g := fun g hg => by rw [upd_ne (by omega), upd_ne (by omega)]
  have hws := hw.size
  refine ⟨⟨⟨v, hs.out (Chg.of_below (F := fun _ => False) hb) (fun _ hf => hf.elim) (fun g hg => .inl (hold g hg)) (fun g hg => ?_)⟩, ⟨_, hwk, World.ownsRow_nil _ _ _ _, fun g hg => by cases hg⟩, ?_, upd_at _ _ _, by rw [upd_ne hne, upd_at], fun q hq => by simp at hq, fun q hq => by simp at hq⟩, ⟨?_, fun g hg => (hold g (by omega)).trans (hw.old g hg), fun g hg => ?_⟩⟩
  · by_cases e1 : g = Wk
    · omega
    · rw [upd_ne e1] at hg
      by_cases e2 : g = Bx
      · omega
      · rw [upd_ne e2] at hg
        exact Nat.lt_of_lt_of_le (hs.lt g hg) hb.size
  · cases md
    · exact hga
    · exact ⟨_, hga, World.ownsRow_nil _ _ _ _, fun g hg => by cases hg⟩
  · exact (hw.mono (j := 9) (by omega)).chg.trans (Chg.of_below (F := Foot 9 L) hb) (fun _ h => .inl h)
  · by_cases e1 : g = Wk
    · left; rw [e1, upd_at]; omega
    · rw [upd_ne e1]
      by_cases e2 : g = Bx
      · left; rw [e2, upd_at]; omega
      · rw [upd_ne e2]
        rcases hw.new g hg with e | e
        · left; omega
        · exact .inr e
section
variable {ρ : Operand → Value} {o : Oper} {x y z u : Operand} {w : World}
theorem ex_bldW {D fr tt : Nat} {f : Nat} {c : Value} (ho : o.op = .build 149 #[(0, x), (1, y), (2, z), (4, u)]) (hx : ρ x = shI D) (hy : ρ y = .int .u32 (fr : Int)) (hz : ρ z = .int .u32 (tt : Int)) (hu : ρ u = .func (.func f) #[] #[c]) :
    (execOp ρ o).run Tryz.prog w = .ok (.value (.agg [shI D, .int .u32 (fr : Int), .int .u32 (tt : Int), .slice none 0 0, .func (.func f) #[] #[c]].toArray)) w := by
  unfold shI at *
  unfold execOp
  simp only [ho]
  go_simp
end
theorem sizeWk : (Tryz.prog.info? 149).map (·.size) = some 5 := by kernel_rfl
def getR (s : Sh) (p : Pt) (off : Nat) : Bw := belowP off (off + 1) 2 s [] [] p 0
def getE (s : Sh) (p : Pt) (off : Nat) : Nat := if refE p ≠ 0 then refE p else if 64 ≤ off then 1 else (getR s p off).e
def getP (s : Sh) (p : Pt) (off : Nat) : Pt := if refE p ≠ 0 ∨ 64 ≤ off ∨ (getR s p off).e ≠ 0 then zeroP else lastP (getR s p off).ls
def getS (s : Sh) (p : Pt) (off : Nat) : Sh := if refE p ≠ 0 ∨ 64 ≤ off then s else (getR s p off).s
structure GeS (L : Nat → Nat) (w : World) (D G : Nat) (s : Sh) (p : Pt) (X : World) : Prop where
  sh : ∃ v, ShAt X L D s v ∧ Mv 5 L w L X
  box : Blk X G (pcells p) 28
  res : Blk X (G + 1) (pcells zeroP) 28
  lo : w.heap.size ≤ G ∧ L G = 0 ∧ L (G + 1) = 0
theorem GeS.below {L : Nat → Nat} {w : World} {D G : Nat} {s : Sh} {p : Pt} {X Y : World} (h : GeS L w D G s p X) (hb : Below X.heap.size X Y) : GeS L w D G s p Y := by
  obtain ⟨⟨v, h1, h2⟩, h3, h4, h5⟩ := h
  exact ⟨⟨v, h1.below hb, h2.trans (Mv.of_below hb h1.lt)⟩, h3.below hb h3.lt, h4.below hb h4.lt, h5⟩
def GetPost (L : Nat → Nat) (w : World) (D : Nat) (s : Sh) (p : Pt) (off m : Nat) (e : Ending) (w' : World) : Prop :=
  e = .returned (.tuple #[.agg (pcells (getP s p off)).toArray, .int .i64 (getE s p off : Int)]) ∧ ShPost 5 L w D (getS s p off) w' ∧ Lim m (getS s p off)
theorem res_ends {L L1 : Nat → Nat} {w : World} {D R : Nat} {s1 : Sh} {X : World} {v1 : Sv} (hlo : Lo L) (h : ShAt X L1 D s1 v1) (m : Mv 9 L w L1 X) (hR : w.heap.size ≤ R ∧ L1 R = 0) {old : List Value} (hr : Blk X R old 28) (q : Pt) : ShPost 5 L w D s1 (X.setRow R (pcells q).toArray) ∧ Blk (X.setRow R (pcells q).toArray) R (pcells q) 28 := by
  have hc := chgR X R (pcells q).toArray
  have hz : (X.setRow R (pcells q).toArray).heap.size = X.heap.size := by simp
  have h2 : ShAt (X.setRow R (pcells q).toArray) L1 D s1 v1 := h.out hc (fun g e _ => .inl (by rw [e]; exact hR.2)) (fun _ _ => .inl rfl) (fun g hg => by rw [hz]; exact h.lt g hg)
  exact ⟨h2.erase hlo ⟨m.chg.trans hc (fun g e => by right; have : g = R := e; omega), m.old, m.new⟩, hr.row _⟩
theorem box_new (W : World) (z : Array Value) (t : TypeId) (cs : List Value) (hz : z = cs.toArray) : Below W.heap.size W (W.alloc (.cells z t)) ∧ Blk (W.alloc (.cells z t)) W.heap.size cs t ∧ (W.alloc (.cells z t)).heap.size = W.heap.size + 1 := by
  subst hz
  exact ⟨(Below.refl _ _).alloc (Nat.le_refl _) _, Blk.new _ _ _, by simp⟩
theorem GeS.begin {L : Nat → Nat} {w : World} {D G Bx Wk fr tt : Nat} {md : Bool} {s : Sh} {p : Pt} {W X Y : World} {y : Array Value} (h : GeS L w D G s p W) (hb : Below W.heap.size W X) (hBx : Bx = W.heap.size) (hWk : Wk = W.heap.size + 1) (hsz : X.heap.size = W.heap.size + 1)
    (hga : if md then Blk X Bx [.slice none 0 0] 95 else Blk X Bx (pcells zeroP) 28) (hY : Y = (X.alloc (.cells y 149)).setRow Wk (wkcells D fr tt (.slice none 0 0) md Bx).toArray) :
    (∃ L', WkAt Y L' D Wk Bx md fr tt s [] [] ∧ Mv 9 L w L' Y ∧ L' (G + 1) = 0) ∧ Blk Y G (pcells p) 28 ∧ Blk Y (G + 1) (pcells zeroP) 28 := by
  subst hBx hWk hY
  obtain ⟨⟨v, h1, h2⟩, h3, h4, h5⟩ := h
  have hb2 : Below W.heap.size W (X.alloc (.cells y 149)) := hb.alloc hb.size _
  have hn : Blk (X.alloc (.cells y 149)) (W.heap.size + 1) y.toList 149 := Blk.new' _ _ _ _ _ hsz.symm (by simp)
  have hb3 := below_row hb2 (g := W.heap.size + 1) (by omega) (wkcells D fr tt (.slice none 0 0) md W.heap.size).toArray
  obtain ⟨k1, k2⟩ := wk_start (md := md) (fr := fr) (tt := tt) h1 h2 hb3 (Nat.le_refl _) (by omega) (by omega) (hn.row _) (by
    cases md
    · exact (Blk.alloc hga _).rowOther (by omega) _
    · exact (Blk.alloc hga _).rowOther (by omega) _)
  have := h3.lt
  have := h4.lt
  exact ⟨⟨_, k1, k2, by rw [upd_ne (by omega), upd_ne (by omega)]; exact h5.2.2⟩, h3.below hb3 h3.lt, h4.below hb3 h4.lt⟩
section
variable {ρ : Operand → Value} {o : Oper} {x y : Operand} {w : World}
theorem ex_alW (ho : o.op = .alloc 149) : (execOp ρ o).run Tryz.prog w = .ok (.value (.pointer (some ⟨w.heap.size, 0, none⟩))) (w.alloc (.cells #[.nilIface, .int .u32 0, .int .u32 0, .slice none 0 0, .nilFunc] 149)) := by
  unfold execOp
  simp only [ho]
  go_simp
end
theorem wk_one (D fr tt : Nat) (md : Bool) (Bx : Nat) : (wkcells D fr tt (.slice none 0 0) md Bx).toArray.all (·.oneCell') = true := by
  simp [wkcells, shI, leafF, fval, Value.oneCell']
set_option maxRecDepth 100000 in
set_option maxHeartbeats 8000000 in
theorem trGet_any {w : World} {L : Nat → Nat} {D : Nat} {s : Sh} {v : Sv} {m : Nat} (p : Pt) (hp : p.OK) (off : Nat) (hoff : off < 4294967296) (h : ShAt w L D s v) (hlo : Lo L) (hk : Lim m s) (hm : m + cB 2 < 100000000) : Calls Tryz.prog 69 #[shI D, .agg (pcells p).toArray, .int .u32 (off : Int)] w (GetPost L w D s p off (m + cB 2)) := by
  have HPO := Lib.hid hp
  have HX : Hid (∀ z, z = (pcells zeroP).toArray → GeS L w D w.heap.size s p ((w.alloc (.cells (pcells p).toArray 28)).alloc (.cells z 28))) := Lib.hid (fun z hz => by
    subst hz
    have hw1 : Below w.heap.size w ((w.alloc (.cells (pcells p).toArray 28)).alloc (.cells (pcells zeroP).toArray 28)) := ((Below.refl _ _).alloc (Nat.le_refl _) _).alloc (by simp) _
    exact ⟨⟨v, h.below hw1, Mv.of_below hw1 h.lt⟩, (Blk.new _ _ _).alloc _, Blk.new' _ _ _ _ _ (by simp) rfl, Nat.le_refl _, h.not (Nat.le_refl _), h.not (by omega)⟩)
  have HLO := Lib.hid hlo
  have HK := Lib.hid hk
  have HM : Hid (m + 73 < 100000000) := Lib.hid hm
  have HSZ := Lib.hid (size_pc zeroP_ok)
  generalize hPost : GetPost L w D s p off (m + cB 2) = Post
  have HP : Hid (∀ w', ShPost 5 L w D (getS s p off) w' → Lim (m + 73) (getS s p off) → Post (.returned (.tuple #[.agg (pcells (getP s p off)).toArray, .int .i64 (getE s p off : Int)])) w') := Lib.hid fun w' h2 h3 => by rw [← hPost]; exact ⟨rfl, h2, h3⟩
  have HOF := Lib.hid hoff
  clear hp h hlo hk hm hPost hoff
  unfold shI
  go_enter Tryz.func69, Tryz.ntmps69
  go_upto_region 1 with fail
  refine (fun (k : ∀ W, GeS L w D w.heap.size s p W → Code.wp _ _ _ _ W) => k _ (HX.out _ rfl)) ?_
  intro W hW
  obtain ⟨G, hG⟩ : ∃ G, w.heap.size = G := ⟨_, rfl⟩
  rw [hG] at hW ⊢
  have HX1 := Lib.hid hW
  clear HX hW
  obtain ⟨⟨v1, hs1, -⟩, -⟩ := HX1.out
  have HRF := Lib.hid (trRefuse_any p HPO.out D W hs1.tab.1)
  clear hs1 v1
  go_wp2_with (first | (refine wpL_val rfl (ex_ldP HPO.out HX1.out.box rfl rfl) ?_) | fail)
  refine HRF.out.mono ?_
  rintro e W2 ⟨rfl, hb2⟩
  have HX2 := Lib.hid (HX1.out.below hb2)
  have HRB := Lib.hid HX2.out.res
  clear hb2 HX1 HRF
  obtain ⟨re, hre⟩ : ∃ re, refE p = re := ⟨_, rfl⟩
  have HRE := Lib.hid hre
  rw [hre]
  clear hre
  by_cases h0 : re = 0
  · subst h0
    rw [show ((0 : Nat) : Int) = (0 : Int) from rfl]
    by_cases h64 : 64 ≤ off
    · have h64' : (64 : Int) ≤ (off : Int) := by omega
      obtain ⟨⟨v2, k1, k2⟩, k3, k4, k5⟩ := HX2.out
      have HBE := Lib.hid (res_ends HLO.out k1 (k2.mono (by omega)) (R := G + 1) (by omega) k4 zeroP)
      have HE : Hid (Post (.returned (.tuple #[.agg (pcells zeroP).toArray, .int .i64 1])) (W2.setRow (G + 1) (pcells zeroP).toArray)) := Lib.hid (by
        have h1 := HP.out (W2.setRow (G + 1) (pcells zeroP).toArray)
        have e1 : getP s p off = zeroP := by unfold getP; rw [if_pos (.inr (.inl h64))]
        have e2 : getE s p off = 1 := by unfold getE; rw [HRE.out, if_neg (by simp), if_pos h64]
        have e3 : getS s p off = s := by unfold getS; rw [if_pos (.inr h64)]
        rw [e1, e2, e3] at h1
        exact h1 HBE.out.1 (HK.out.mono (by omega) HM.out))
      clear k1 k2 k3 k4 k5 h64 HP
      go_wp2_with (first | (refine wpL_val rfl (ex_bld0 rfl) ?_) | (refine wpList_store_row rfl 28 (.tmp 6) (.tmp 21) rfl (G + 1) (pcells zeroP).toArray rfl rfl 28 _ HRB.out HSZ.out rfl (one_pc zeroP) ?_) | fail)
      refine bodyPost_ret (results_cs Tryz.results69 _ _ (G + 1) 28 _ rfl HBE.out.2 (size_pcl zeroP_ok)) rfl ?_
      exact HE.out
    · have h64' : ¬ (64 : Int) ≤ (off : Int) := by omega
      have h64f : decide ((64 : Int) ≤ (off : Int)) = false := decide_eq_false h64'
      have hwo : IntKind.u32.wrap ((off : Int) + 1) = ((off + 1 : Nat) : Int) := by rw [IntKind.wrap_u32]; omega
      have HO64 : Hid (off < 64) := Lib.hid (by omega)
      clear h64
      obtain ⟨t1, ht1⟩ : ∃ t1, off + 1 = t1 := ⟨_, rfl⟩
      rw [ht1] at hwo
      have HBX := Lib.hid (box_new W2)
      go_upto_region 7 with fail
      refine (fun (k : ∀ X, (Below W2.heap.size W2 X ∧ Blk X W2.heap.size (pcells zeroP) 28 ∧ X.heap.size = W2.heap.size + 1) → Code.wp _ _ _ _ X) => k _ (HBX.out _ _ _ rfl)) ?_
      rintro X ⟨hx1, hx2, hx3⟩
      obtain ⟨Bx, hBx⟩ : ∃ b, W2.heap.size = b := ⟨_, rfl⟩
      obtain ⟨Y, hY⟩ : ∃ Y, (X.alloc (.cells #[.nilIface, .int .u32 0, .int .u32 0, .slice none 0 0, .nilFunc] 149)).setRow (Bx + 1) (wkcells D off t1 (.slice none 0 0) false Bx).toArray = Y := ⟨_, rfl⟩
      have hbg := HX2.out.begin (md := false) (Bx := Bx) (Wk := Bx + 1) (fr := off) (tt := t1) hx1 hBx.symm (by omega) hx3 (by rw [← hBx]; exact hx2) hY.symm
      have HBG := Lib.hid hbg
      have hnW : (X.alloc (.cells #[.nilIface, .int .u32 0, .int .u32 0, .slice none 0 0, .nilFunc] 149)).heap[Bx + 1]? = some (.cells #[.nilIface, .int .u32 0, .int .u32 0, .slice none 0 0, .nilFunc] 149 (0, 0)) := by
        rw [← hBx, ← hx3]; exact heap_alloc_new X _
      have hal : ∀ {ρ : Operand → Value} {o : Oper}, o.op = .alloc 149 → (execOp ρ o).run Tryz.prog X = .ok (.value (.pointer (some ⟨Bx + 1, 0, none⟩))) (X.alloc (.cells #[.nilIface, .int .u32 0, .int .u32 0, .slice none 0 0, .nilFunc] 149)) := fun h => by
        rw [← hBx, ← hx3]; exact ex_alW h
      rw [hBx]
      clear hbg hx1 hx2 hx3 HBX HX2 HRB
      refine wp_region_list ?_
      refine wpL_val (v := shI D) (w' := X) rfl (by first | rfl | go_simp) ?_; try simp only [pS]
      refine wpL_val (v := .int .u32 (off : Int)) (w' := X) rfl (by first | rfl | go_simp) ?_; try simp only [pS]
      refine wpL_val (v := .int .u32 (off : Int)) (w' := X) rfl (by first | rfl | go_simp) ?_; try simp only [pS]
      refine wpL_val (v := .int .u32 (t1 : Int)) (w' := X) rfl (by first | rfl | go_simp) ?_; try simp only [pS]
      refine wpL_val (v := .func (.func 91) #[] #[.pointer (some ⟨Bx, 0, none⟩)]) (w' := X) rfl (by first | rfl | go_simp) ?_; try simp only [pS]
      refine wpL_val (v := .agg (wkcells D off t1 (.slice none 0 0) false Bx).toArray) (w' := X) rfl (ex_bldW (D := D) (fr := off) (tt := t1) (f := 91) (c := .pointer (some ⟨Bx, 0, none⟩)) rfl rfl rfl rfl rfl) ?_; try simp only [pS]
      refine wpL_val (v := .pointer (some ⟨Bx + 1, 0, none⟩)) (w' := _) rfl (hal rfl) ?_; try simp only [pS]
      refine wpList_store_row rfl 149 (.tmp 10) (.tmp 27) rfl (Bx + 1) (wkcells D off t1 (.slice none 0 0) false Bx).toArray rfl rfl 149 _ hnW sizeWk rfl (wk_one _ _ _ _ _) ?_; try simp only [pS]
      refine wpList_nil ?_
      rw [hY]
      clear hnW hal hY
      obtain ⟨⟨L2, k1, k2, k3⟩, k4, k5⟩ := HBG.out
      have HCL := Lib.hid (below_any 2 (Nat.le_refl _) p HPO.out 0 k1 ⟨HK.out, by simp, by simp⟩ (by have := HM.out; show m + 73 < _; omega) (by omega) ⟨by have := HO64.out; omega, by have := HO64.out; omega⟩)
      have HMV := Lib.hid k2; have HLR := Lib.hid k3; have HBP := Lib.hid k4; have HRP := Lib.hid k5
      clear k1 k2 k3 k4 k5 HBG
      obtain ⟨rb, hrb⟩ : ∃ rb, belowP off t1 2 s [] [] p 0 = rb := ⟨_, rfl⟩
      have HGR : Hid (getR s p off = rb) := Lib.hid (by unfold getR; rw [ht1]; exact hrb)
      rw [hrb] at HCL
      clear hrb
      go_wp2_with (first | (refine wpL_val rfl (ex_ldP HPO.out HBP.out rfl rfl) ?_) | fail)
      refine HCL.out.mono ?_
      rintro e X3 ⟨rfl, ⟨L3, h3, m3⟩, lk3⟩
      have HRQ := Lib.hid (m3.blk HRP.out HLR.out)
      have HSH := Lib.hid h3
      have HMM := Lib.hid (HMV.out.trans m3)
      have HLZ : Hid (L3 (G + 1) = 0) := Lib.hid ((m3.old _ HRP.out.lt).trans HLR.out)
      have HLK := Lib.hid lk3
      have HGG : Hid (w.heap.size ≤ G + 1) := Lib.hid (by omega)
      clear h3 m3 lk3 HCL HMV HLR HBP HRP
      obtain ⟨v3, hs3⟩ := HSH.out.sh
      by_cases he : rb.e = 0
      · have HLP : Hid (lastP rb.ls).OK := Lib.hid (by
          unfold lastP
          cases hl : rb.ls.getLast? with
          | none => exact zeroP_ok
          | some y => exact (HSH.out.okl y (List.mem_of_getLast? hl)).2)
        have HGA : Hid (Blk X3 Bx (pcells (lastP rb.ls)) 28) := Lib.hid HSH.out.ga
        have HSL := Lib.hid (size_pc HLP.out)
        have HZL : Hid ((pcells zeroP).toArray.size = (pcells (lastP rb.ls)).toArray.size) := Lib.hid (by rw [List.size_toArray, List.size_toArray, pcells_length HLP.out, pcells_length zeroP_ok])
        have HBE := Lib.hid (res_ends HLO.out hs3 HMM.out (R := G + 1) ⟨HGG.out, HLZ.out⟩ HRQ.out (lastP rb.ls))
        have HE : Hid (Post (.returned (.tuple #[.agg (pcells (lastP rb.ls)).toArray, .int .i64 0])) (X3.setRow (G + 1) (pcells (lastP rb.ls)).toArray)) := Lib.hid (by
          have h1 := HP.out (X3.setRow (G + 1) (pcells (lastP rb.ls)).toArray)
          have e1 : getP s p off = lastP rb.ls := by unfold getP; rw [HGR.out, if_neg (by rw [HRE.out]; have := HO64.out; omega)]
          have e2 : getE s p off = 0 := by unfold getE; rw [HRE.out, if_neg (by simp), if_neg (by have := HO64.out; omega), HGR.out, he]
          have e3 : getS s p off = rb.s := by unfold getS; rw [HGR.out, if_neg (by rw [HRE.out]; have := HO64.out; omega)]
          rw [e1, e2, e3] at h1
          exact h1 HBE.out.1 HLK.out.lim)
        have he' : (rb.e : Int) = 0 := by omega
        rw [he']
        clear he he' HP HSH hs3 HMM
        go_wp2_with (first | (refine wpL_val rfl (ex_ldP HLP.out HGA.out rfl rfl) ?_) | (refine wpList_store_row rfl 28 (.tmp 6) (.tmp 34) rfl (G + 1) (pcells (lastP rb.ls)).toArray rfl rfl 28 _ HRQ.out HSL.out HZL.out (one_pc _) ?_) | fail)
        refine bodyPost_ret (results_cs Tryz.results69 _ _ (G + 1) 28 _ rfl HBE.out.2 (size_pcl HLP.out)) rfl ?_
        exact HE.out
      · have HBE := Lib.hid (res_ends HLO.out hs3 HMM.out (R := G + 1) ⟨HGG.out, HLZ.out⟩ HRQ.out zeroP)
        have HE : Hid (Post (.returned (.tuple #[.agg (pcells zeroP).toArray, .int .i64 (rb.e : Int)])) (X3.setRow (G + 1) (pcells zeroP).toArray)) := Lib.hid (by
          have h1 := HP.out (X3.setRow (G + 1) (pcells zeroP).toArray)
          have e1 : getP s p off = zeroP := by unfold getP; rw [HGR.out, if_pos (.inr (.inr he))]
          have e2 : getE s p off = rb.e := by unfold getE; rw [HRE.out, if_neg (by simp), if_neg (by have := HO64.out; omega), HGR.out]
          have e3 : getS s p off = rb.s := by unfold getS; rw [HGR.out, if_neg (by rw [HRE.out]; have := HO64.out; omega)]
          rw [e1, e2, e3] at h1
          exact h1 HBE.out.1 HLK.out.lim)
        have he' : ¬ (rb.e : Int) = 0 := by omega
        clear he HP HSH hs3 HMM
        go_wp2_with (first | (refine wpL_val rfl (ex_bld0 rfl) ?_) | (refine wpList_store_row rfl 28 (.tmp 6) (.tmp 32) rfl (G + 1) (pcells zeroP).toArray rfl rfl 28 _ HRQ.out HSZ.out rfl (one_pc zeroP) ?_) | fail)
        refine bodyPost_ret (results_cs Tryz.results69 _ _ (G + 1) 28 _ rfl HBE.out.2 (size_pcl zeroP_ok)) rfl ?_
        exact HE.out
  · have hre0 : ¬ (re : Int) = 0 := by omega
    obtain ⟨⟨v2, k1, k2⟩, k3, k4, k5⟩ := HX2.out
    have HBE := Lib.hid (res_ends HLO.out k1 (k2.mono (by omega)) (R := G + 1) (by omega) k4 zeroP)
    have HE : Hid (Post (.returned (.tuple #[.agg (pcells zeroP).toArray, .int .i64 (re : Int)])) (W2.setRow (G + 1) (pcells zeroP).toArray)) := Lib.hid (by
      have h1 := HP.out (W2.setRow (G + 1) (pcells zeroP).toArray)
      have e1 : getP s p off = zeroP := by unfold getP; rw [HRE.out, if_pos (.inl h0)]
      have e2 : getE s p off = re := by unfold getE; rw [HRE.out, if_pos h0]
      have e3 : getS s p off = s := by unfold getS; rw [HRE.out, if_pos (.inl h0)]
      rw [e1, e2, e3] at h1
      exact h1 HBE.out.1 (HK.out.mono (by omega) HM.out))
    clear k1 k2 k3 k4 k5 HP h0
    go_wp2_with (first | (refine wpL_val rfl (ex_bld0 rfl) ?_) | (refine wpList_store_row rfl 28 (.tmp 6) (.tmp 17) rfl (G + 1) (pcells zeroP).toArray rfl rfl 28 _ HRB.out HSZ.out rfl (one_pc zeroP) ?_) | fail)
    refine bodyPost_ret (results_cs Tryz.results69 _ _ (G + 1) 28 _ rfl HBE.out.2 (size_pcl zeroP_ok)) rfl ?_
    exact HE.out
theorem ShAt.erase2 {w w' : World} {L L' : Nat → Nat} {D : Nat} {s : Sh} {v : Sv} (hlo : Lo L) (h : ShAt w' L' D s v) (m : Mv 9 L w L' w') : ∃ L2, ShAt w' L2 D s v ∧ Mv 5 L w L2 w' ∧ ∀ g, 6 ≤ L' g ∧ L' g ≤ 9 → L2 g = 0 ∧ w.heap.size ≤ g := by
  have hold : ∀ g, g < w.heap.size → (if 6 ≤ L' g ∧ L' g ≤ 9 then 0 else L' g) = L g := fun g hg => by
    have := hlo g
    rw [m.old g hg, if_neg (by omega)]
  refine ⟨fun g => if 6 ≤ L' g ∧ L' g ≤ 9 then 0 else L' g, h.out (Chg.refl (fun _ => False) w') (fun _ hf => hf.elim) (fun g _ => ?_) (fun g hg => ?_), ⟨?_, hold, fun g hg => ?_⟩, fun g hg => ⟨if_pos hg, ?_⟩⟩
  · by_cases h1 : 6 ≤ L' g ∧ L' g ≤ 9
    · right; rw [if_pos h1]; omega
    · left; rw [if_neg h1]
  · refine h.lt g (fun e => hg ?_)
    rw [e]; rfl
  · refine (Chg.refl (Foot 5 L) w).trans m.chg (fun g hg => ?_)
    left
    unfold Foot at *
    have := hlo g
    omega
  · have := m.new g hg
    by_cases h1 : 6 ≤ L' g ∧ L' g ≤ 9
    · left; rw [if_pos h1]; omega
    · rw [if_neg h1]; omega
  · by_cases hs : g < w.heap.size
    · have := m.old g hs; have := hlo g; omega
    · omega
def allR (s : Sh) (p : Pt) : Bw := belowP 0 64 2 s [] [] p 0
def allE (s : Sh) (p : Pt) : Nat := if refE p ≠ 0 then refE p else (allR s p).e
def allS (s : Sh) (p : Pt) : Sh := if refE p ≠ 0 then s else (allR s p).s
def allL (s : Sh) (p : Pt) : List Lf := if allE s p ≠ 0 then [] else (allR s p).ls
def allN (s : Sh) (p : Pt) : List Pt := if allE s p ≠ 0 then [] else (allR s p).ns
structure AllW (L : Nat → Nat) (w : World) (D : Nat) (s1 : Sh) (ls : List Lf) (ns : List Pt) (lv nv : Value) (w' : World) : Prop where
  sh : ∃ L2 v2, ShAt w' L2 D s1 v2 ∧ Mv 5 L w L2 w' ∧ (∀ g, lv.ownBlock = some g → L2 g = 0) ∧ ∀ g, nv.ownBlock = some g → L2 g = 0
  lo : OwnL w' 0 lv ls ∧ ∀ g, lv.ownBlock = some g → w.heap.size ≤ g
  no : OwnM w' 0 nv ns ∧ ∀ g, nv.ownBlock = some g → w.heap.size ≤ g
  okl : ∀ x ∈ ls, Lf.OK x
  okn : ∀ q ∈ ns, q.OK
def AllPost (L : Nat → Nat) (w : World) (D : Nat) (s : Sh) (p : Pt) (m : Nat) (e : Ending) (w' : World) : Prop :=
  ∃ lv nv, e = .returned (.tuple #[lv, nv, .int .i64 (allE s p : Int)]) ∧ AllW L w D (allS s p) (allL s p) (allN s p) lv nv w' ∧ Lim m (allS s p)
structure AlS (L : Nat → Nat) (w : World) (D G : Nat) (s : Sh) (p : Pt) (X : World) : Prop where
  sh : ∃ v, ShAt X L D s v ∧ Mv 5 L w L X
  box : Blk X G (pcells p) 28
theorem AlS.below {L : Nat → Nat} {w : World} {D G : Nat} {s : Sh} {p : Pt} {X Y : World} (h : AlS L w D G s p X) (hb : Below X.heap.size X Y) : AlS L w D G s p Y := by
  obtain ⟨⟨v, h1, h2⟩, h3⟩ := h
  exact ⟨⟨v, h1.below hb, h2.trans (Mv.of_below hb h1.lt)⟩, h3.below hb h3.lt⟩
theorem AlS.begin {L : Nat → Nat} {w : World} {D G Bx Wk fr tt : Nat} {md : Bool} {s : Sh} {p : Pt} {W X Y : World} {y : Array Value} (h : AlS L w D G s p W) (hb : Below W.heap.size W X) (hBx : Bx = W.heap.size) (hWk : Wk = W.heap.size + 1) (hsz : X.heap.size = W.heap.size + 1)
    (hga : if md then Blk X Bx [.slice none 0 0] 95 else Blk X Bx (pcells zeroP) 28) (hY : Y = (X.alloc (.cells y 149)).setRow Wk (wkcells D fr tt (.slice none 0 0) md Bx).toArray) :
    (∃ L', WkAt Y L' D Wk Bx md fr tt s [] [] ∧ Mv 9 L w L' Y) ∧ Blk Y G (pcells p) 28 := by
  subst hBx hWk hY
  obtain ⟨⟨v, h1, h2⟩, h3⟩ := h
  have hb2 : Below W.heap.size W (X.alloc (.cells y 149)) := hb.alloc hb.size _
  have hn : Blk (X.alloc (.cells y 149)) (W.heap.size + 1) y.toList 149 := Blk.new' _ _ _ _ _ hsz.symm (by simp)
  have hb3 := below_row hb2 (g := W.heap.size + 1) (by omega) (wkcells D fr tt (.slice none 0 0) md W.heap.size).toArray
  obtain ⟨k1, k2⟩ := wk_start (md := md) (fr := fr) (tt := tt) h1 h2 hb3 (Nat.le_refl _) (by omega) (by omega) (hn.row _) (by
    cases md
    · exact (Blk.alloc hga _).rowOther (by omega) _
    · exact (Blk.alloc hga _).rowOther (by omega) _)
  exact ⟨⟨_, k1, k2⟩, h3.below hb3 h3.lt⟩
theorem AllW.drew {L : Nat → Nat} {w : World} {D : Nat} {s1 : Sh} {ls : List Lf} {ns : List Pt} {lv nv : Value} {X : World} (h : AllW L w D s1 ls ns lv nv X) : AllW L w D s1 ls ns lv nv X.drew := by
  obtain ⟨⟨L2, v2, h1, h2, h3, h4⟩, h5, h6, h7, h8⟩ := h
  have hb : Below X.heap.size X X.drew := (Below.refl _ _).drew
  exact ⟨⟨L2, v2, h1.below hb, h2.trans (Mv.of_below hb h1.lt), h3, h4⟩, h5, h6, h7, h8⟩
theorem allW_none {L : Nat → Nat} {w : World} {D : Nat} {s1 : Sh} {X : World} (h : ShPost 5 L w D s1 X) : AllW L w D s1 [] [] (.slice none 0 0) (.slice none 0 0) X := by
  obtain ⟨L2, v2, h1, h2⟩ := h
  exact ⟨⟨L2, v2, h1, h2, (fun g hg => by cases hg), (fun g hg => by cases hg)⟩, ⟨World.ownsRow_nil _ _ _ _, fun g hg => by cases hg⟩, ⟨World.ownsRow_nil _ _ _ _, fun g hg => by cases hg⟩, fun x hx => by simp at hx, fun x hx => by simp at hx⟩
set_option maxRecDepth 100000 in
set_option maxHeartbeats 8000000 in
theorem trAll_any {w : World} {L : Nat → Nat} {D : Nat} {s : Sh} {v : Sv} {m : Nat} (p : Pt) (hp : p.OK) (h : ShAt w L D s v) (hlo : Lo L) (hk : Lim m s) (hm : m + cB 2 < 100000000) : Calls Tryz.prog 45 #[shI D, .agg (pcells p).toArray] w (AllPost L w D s p (m + cB 2)) := by
  have HPO := Lib.hid hp
  have hw1 : Below w.heap.size w (w.alloc (.cells (pcells p).toArray 28)) := (Below.refl _ _).alloc (Nat.le_refl _) _
  have HX : Hid (AlS L w D w.heap.size s p (w.alloc (.cells (pcells p).toArray 28))) := Lib.hid ⟨⟨v, h.below hw1, Mv.of_below hw1 h.lt⟩, Blk.new _ _ _⟩
  have HLO := Lib.hid hlo
  have HK := Lib.hid hk
  have HM : Hid (m + 73 < 100000000) := Lib.hid hm
  generalize hPost : AllPost L w D s p (m + cB 2) = Post
  have HP : Hid (∀ lv nv w', AllW L w D (allS s p) (allL s p) (allN s p) lv nv w' → Lim (m + 73) (allS s p) → Post (.returned (.tuple #[lv, nv, .int .i64 (allE s p : Int)])) w') := Lib.hid fun lv nv w' h2 h3 => by rw [← hPost]; exact ⟨lv, nv, rfl, h2, h3⟩
  clear hp h hlo hk hm hPost hw1
  unfold shI
  go_enter Tryz.func45, Tryz.ntmps45
  go_upto_region 1 with fail
  obtain ⟨G, hG⟩ : ∃ G, w.heap.size = G := ⟨_, rfl⟩
  rw [hG] at HX ⊢
  generalize (w.alloc (.cells (pcells p).toArray 28)) = W at HX ⊢
  obtain ⟨⟨v1, hs1, -⟩, -⟩ := HX.out
  have HRF := Lib.hid (trRefuse_any p HPO.out D W hs1.tab.1)
  clear hs1 v1
  go_wp2_with (first | (refine wpL_val rfl (ex_ldP HPO.out HX.out.box rfl rfl) ?_) | fail)
  refine HRF.out.mono ?_
  rintro e W2 ⟨rfl, hb2⟩
  have HX2 := Lib.hid (HX.out.below hb2)
  clear hb2 HX HRF
  obtain ⟨re, hre⟩ : ∃ re, refE p = re := ⟨_, rfl⟩
  have HRE := Lib.hid hre
  rw [hre]
  clear hre
  by_cases h0 : re = 0
  · subst h0
    rw [show ((0 : Nat) : Int) = (0 : Int) from rfl]
    have HBX : Hid (Below W2.heap.size W2 (W2.alloc (.cells #[.slice none 0 0] 95)) ∧ Blk (W2.alloc (.cells #[.slice none 0 0] 95)) W2.heap.size [.slice none 0 0] 95 ∧ (W2.alloc (.cells #[.slice none 0 0] 95)).heap.size = W2.heap.size + 1) := Lib.hid (box_new W2 _ 95 [.slice none 0 0] rfl)
    go_upto_region 5 with fail
    refine (fun (k : ∀ X, (Below W2.heap.size W2 X ∧ Blk X W2.heap.size [.slice none 0 0] 95 ∧ X.heap.size = W2.heap.size + 1) → Code.wp _ _ _ _ X) => k _ HBX.out) ?_
    rintro X ⟨hx1, hx2, hx3⟩
    obtain ⟨Bx, hBx⟩ : ∃ b, W2.heap.size = b := ⟨_, rfl⟩
    obtain ⟨Y, hY⟩ : ∃ Y, (X.alloc (.cells #[.nilIface, .int .u32 0, .int .u32 0, .slice none 0 0, .nilFunc] 149)).setRow (Bx + 1) (wkcells D 0 64 (.slice none 0 0) true Bx).toArray = Y := ⟨_, rfl⟩
    have hbg := HX2.out.begin (md := true) (Bx := Bx) (Wk := Bx + 1) (fr := 0) (tt := 64) hx1 hBx.symm (by omega) hx3 (by rw [← hBx]; exact hx2) hY.symm
    have HBG := Lib.hid hbg
    have hnW : (X.alloc (.cells #[.nilIface, .int .u32 0, .int .u32 0, .slice none 0 0, .nilFunc] 149)).heap[Bx + 1]? = some (.cells #[.nilIface, .int .u32 0, .int .u32 0, .slice none 0 0, .nilFunc] 149 (0, 0)) := by
      rw [← hBx, ← hx3]; exact heap_alloc_new X _
    have hal : ∀ {ρ : Operand → Value} {o : Oper}, o.op = .alloc 149 → (execOp ρ o).run Tryz.prog X = .ok (.value (.pointer (some ⟨Bx + 1, 0, none⟩))) (X.alloc (.cells #[.nilIface, .int .u32 0, .int .u32 0, .slice none 0 0, .nilFunc] 149)) := fun h => by
      rw [← hBx, ← hx3]; exact ex_alW h
    rw [hBx]
    clear hbg hx1 hx2 hx3 HBX HX2
    refine wp_region_list ?_
    refine wpL_val (v := shI D) (w' := X) rfl (by first | rfl | go_simp) ?_; try simp only [pS]
    refine wpL_val (v := .func (.func 74) #[] #[.pointer (some ⟨Bx, 0, none⟩)]) (w' := X) rfl (by first | rfl | go_simp) ?_; try simp only [pS]
    refine wpL_val (v := .agg (wkcells D 0 64 (.slice none 0 0) true Bx).toArray) (w' := X) rfl (ex_bldW (D := D) (fr := 0) (tt := 64) (f := 74) (c := .pointer (some ⟨Bx, 0, none⟩)) rfl rfl rfl rfl rfl) ?_; try simp only [pS]
    refine wpL_val (v := .pointer (some ⟨Bx + 1, 0, none⟩)) (w' := _) rfl (hal rfl) ?_; try simp only [pS]
    refine wpList_store_row rfl 149 (.tmp 9) (.tmp 19) rfl (Bx + 1) (wkcells D 0 64 (.slice none 0 0) true Bx).toArray rfl rfl 149 _ hnW sizeWk rfl (wk_one _ _ _ _ _) ?_; try simp only [pS]
    refine wpList_nil ?_
    rw [hY]
    clear hnW hal hY
    obtain ⟨⟨L2, k1, k2⟩, k4⟩ := HBG.out
    have HCL := Lib.hid (below_any 2 (Nat.le_refl _) p HPO.out 0 k1 ⟨HK.out, by simp, by simp⟩ (by have := HM.out; show m + 73 < _; omega) (by omega) (by omega))
    have HMV := Lib.hid k2; have HBP := Lib.hid k4
    clear k1 k2 k4 HBG
    obtain ⟨rb, hrb⟩ : ∃ rb, belowP 0 64 2 s [] [] p 0 = rb := ⟨_, rfl⟩
    have HGR : Hid (allR s p = rb) := Lib.hid hrb
    rw [hrb] at HCL
    clear hrb
    go_wp2_with (first | (refine wpL_val rfl (ex_ldP HPO.out HBP.out rfl rfl) ?_) | fail)
    refine HCL.out.mono ?_
    rintro e X3 ⟨rfl, ⟨L3, h3, m3⟩, lk3⟩
    have HSH := Lib.hid h3
    have HMM := Lib.hid (HMV.out.trans m3)
    have HLK := Lib.hid lk3
    clear h3 m3 lk3 HCL HMV HBP
    by_cases he : rb.e = 0
    · obtain ⟨v3, hs3⟩ := HSH.out.sh
      obtain ⟨nv, j1, j2, j3⟩ := HSH.out.wk
      obtain ⟨lv, g1, g2, g3⟩ := HSH.out.ga
      obtain ⟨L4, e1, e2, e3⟩ := hs3.erase2 HLO.out HMM.out
      have HAW : Hid (AllW L w D rb.s rb.ls rb.ns lv nv X3) := Lib.hid ⟨⟨L4, v3, e1, e2, fun g hg => (e3 g (by rw [g3 g hg]; omega)).1, fun g hg => (e3 g (by rw [j3 g hg]; omega)).1⟩, ⟨g2, fun g hg => (e3 g (by rw [g3 g hg]; omega)).2⟩, ⟨j2, fun g hg => (e3 g (by rw [j3 g hg]; omega)).2⟩, HSH.out.okl, HSH.out.okn⟩
      have HE : Hid (∀ X, AllW L w D rb.s rb.ls rb.ns lv nv X → Post (.returned (.tuple #[lv, nv, .int .i64 0])) X) := Lib.hid (fun X hX => by
        have h1 := HP.out lv nv X
        have e0 : allE s p = 0 := by unfold allE; rw [HRE.out, if_neg (by simp), HGR.out, he]
        have e1 : allS s p = rb.s := by unfold allS; rw [HRE.out, if_neg (by simp), HGR.out]
        have e2 : allL s p = rb.ls := by unfold allL; rw [e0, if_neg (by simp), HGR.out]
        have e3 : allN s p = rb.ns := by unfold allN; rw [e0, if_neg (by simp), HGR.out]
        rw [e0, e1, e2, e3] at h1
        exact h1 hX HLK.out.lim)
      have c0 : ∀ Y, Blk Y Bx [lv] 95 → Y.cell? ⟨Bx, 0, none⟩ = some lv := fun Y hY => hY.cell rfl
      have he' : (rb.e : Int) = 0 := by omega
      have HG1 := Lib.hid g1; have HJ1 := Lib.hid j1
      obtain ⟨spl, capl, el, -⟩ := owns_form g2
      obtain ⟨spn, capn, en, -⟩ := owns_form j2
      rw [he']
      clear he he' HP HSH hs3 HMM g1 j1 g2 j2 g3 j3 e1 e2 e3 HGR c0
      subst el en
      obtain ⟨nl, hnl⟩ : ∃ n, rb.ls.length = n := ⟨_, rfl⟩
      obtain ⟨nn, hnn⟩ : ∃ n, rb.ns.length = n := ⟨_, rfl⟩
      rw [hnl, hnn] at HAW HE
      rw [hnl] at HG1
      rw [hnn] at HJ1
      clear hnl hnn
      go_upto_region 9 with fail
      have hAW2 := HAW.out.drew
      refine gS (.take 0 (.take 1 (.take 2 (.take 3 (.take 4 (.take 5 (.nil))))))) (fun X => Blk X Bx [.slice spl nl capl] 95 ∧ Blk X (Bx + 1) (wkcells D 0 64 (.slice spn nn capn) true Bx) 149 ∧ True) (⟨HG1.out.drew, HJ1.out.drew, trivial⟩) ?_
      refine wpG_take _ (.slice spl nl capl) rfl (by rfl) (fun X hX => ex_ldLs rfl rfl (hX.1.cell rfl)) ?_; try simp only [pS]
      refine wpG_take _ (.pointer (some ⟨Bx + 1, 3, none⟩)) rfl (by rfl) (fun X hX => ex_faW (by omega) rfl rfl) ?_; try simp only [pS]
      refine wpG_take _ (.slice spn nn capn) rfl (by rfl) (fun X hX => ex_ldPs rfl rfl (hX.2.1.cell rfl)) ?_; try simp only [pS]
      refine gT (.slice spl nl capl) ?_; try simp only [pS]
      refine gT (.slice spn nn capn) ?_; try simp only [pS]
      refine gT (.int .i64 0) ?_; try simp only [pS]
      refine wpG_nil ?_
      go_wp2_with fail
      exact HE.out _ hAW2
    · have HE : Hid (Post (.returned (.tuple #[.slice none 0 0, .slice none 0 0, .int .i64 (rb.e : Int)])) X3) := Lib.hid (by
        obtain ⟨v3, hs3⟩ := HSH.out.sh
        have h1 := HP.out (.slice none 0 0) (.slice none 0 0) X3
        have e0 : allE s p = rb.e := by unfold allE; rw [HRE.out, if_neg (by simp), HGR.out]
        have e1 : allS s p = rb.s := by unfold allS; rw [HRE.out, if_neg (by simp), HGR.out]
        have e2 : allL s p = [] := by unfold allL; rw [e0, if_pos he]
        have e3 : allN s p = [] := by unfold allN; rw [e0, if_pos he]
        rw [e0, e1, e2, e3] at h1
        exact h1 (allW_none (hs3.erase HLO.out HMM.out)) HLK.out.lim)
      have he' : ¬ (rb.e : Int) = 0 := by omega
      clear he HP HSH HMM
      go_wp2_with fail
      exact HE.out
  · have hre0 : ¬ (re : Int) = 0 := by omega
    have HE : Hid (Post (.returned (.tuple #[.slice none 0 0, .slice none 0 0, .int .i64 (re : Int)])) W2) := Lib.hid (by
      obtain ⟨⟨v2, k1, k2⟩, k3⟩ := HX2.out
      have h1 := HP.out (.slice none 0 0) (.slice none 0 0) W2
      have e0 : allE s p = re := by unfold allE; rw [HRE.out, if_pos h0]
      have e1 : allS s p = s := by unfold allS; rw [HRE.out, if_pos h0]
      have e2 : allL s p = [] := by unfold allL; rw [e0, if_pos h0]
      have e3 : allN s p = [] := by unfold allN; rw [e0, if_pos h0]
      rw [e0, e1, e2, e3] at h1
      exact h1 (allW_none ⟨L, v2, k1, k2⟩) (HK.out.mono (by omega) HM.out))
    clear HP h0
    go_wp2_with fail
    exact HE.out
end Go.Proofs.YtjgjohdeeeoeoaaGreatDoor
