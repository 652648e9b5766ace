/- No source; what errors there are; what is bad stays. -/
import Derived.Test.YtkbkmfmekjpleaaDoorM38
namespace Go.Proofs.YtkbkmfmekjpleaaDoor
open Go.RowKit

attribute [local go_sem] Oper.semAt_some

theorem trGet_nil (p : Pt) (hp : p.OK) (off : Nat) (w : World) : Calls Tryd.prog 13 #[.nilIface, .agg (pcells p).toArray, .int .u32 (off : Int)] w fun e w' => e = .returned (.tuple #[.agg (pcells zeroP).toArray, .int .i64 2]) ∧ Below w.heap.size w w' := by
  have HPO := Lib.hid hp
  have HX : Hid (∀ z, z = (pcells zeroP).toArray → Below w.heap.size w ((w.alloc (.cells (pcells p).toArray 37)).alloc (.cells z 37)) ∧ Blk ((w.alloc (.cells (pcells p).toArray 37)).alloc (.cells z 37)) w.heap.size (pcells p) 37 ∧ Blk ((w.alloc (.cells (pcells p).toArray 37)).alloc (.cells z 37)) (w.heap.size + 1) (pcells zeroP) 37) := Lib.hid (fun z hz => by
    subst hz
    exact ⟨((Below.refl _ _).alloc (Nat.le_refl _) _).alloc (by simp) _, (Blk.new _ _ _).alloc _, Blk.new' _ _ _ _ _ (by simp) rfl⟩)
  have HSZ := Lib.hid (size_pc zeroP_ok)
  clear hp
  go_enter Tryd.func13, Tryd.ntmps13
  go_upto_region 1 with fail
  refine (fun (k : ∀ W, (Below w.heap.size w W ∧ Blk W w.heap.size (pcells p) 37 ∧ Blk W (w.heap.size + 1) (pcells zeroP) 37) → Code.wp _ _ _ _ W) => k _ (HX.out _ rfl)) ?_
  rintro W ⟨h1, h2, h3⟩
  have H1 := Lib.hid h1; have H2 := Lib.hid h2; have H3 := Lib.hid h3
  clear h1 h2 h3 HX
  go_wp2_with (first | (refine wpL_val rfl (ex_ldP HPO.out H2.out rfl rfl) ?_) | fail)
  refine (trRefuse_nil p W).mono ?_
  rintro e W2 ⟨rfl, hb⟩
  have HB := Lib.hid (H1.out.trans (hb.mono H1.out.size))
  have HR := Lib.hid (H3.out.below hb H3.out.lt)
  clear hb H1 H2 H3
  go_wp2_with (first | (refine wpL_val rfl (ex_bld0 rfl) ?_) | (refine wpList_store_row rfl 37 (.tmp 6) (.tmp 17) rfl (w.heap.size + 1) (pcells zeroP).toArray rfl rfl 37 _ HR.out HSZ.out rfl (one_pc zeroP) ?_) | fail)
  exact bodyPost_ret (results_cs Tryd.results13 _ _ (w.heap.size + 1) 37 _ rfl (HR.out.row _) (size_pcl zeroP_ok)) rfl ⟨rfl, below_row HB.out (by omega) _⟩
theorem trSet_nil (p : Pt) (hp : p.OK) (obj : Value) (v : Value) (w : World) : Calls Tryd.prog 9 #[.nilIface, .agg (pcells p).toArray, obj, v] w fun e w' => e = .returned (.tuple #[.agg (pcells zeroP).toArray, .int .i64 2]) ∧ Below w.heap.size w w' := by
  have HPO := Lib.hid hp
  have HX : Hid (∀ z, z = (pcells zeroP).toArray → Below w.heap.size w ((w.alloc (.cells (pcells p).toArray 37)).alloc (.cells z 37)) ∧ Blk ((w.alloc (.cells (pcells p).toArray 37)).alloc (.cells z 37)) w.heap.size (pcells p) 37 ∧ Blk ((w.alloc (.cells (pcells p).toArray 37)).alloc (.cells z 37)) (w.heap.size + 1) (pcells zeroP) 37) := Lib.hid (fun z hz => by
    subst hz
    exact ⟨((Below.refl _ _).alloc (Nat.le_refl _) _).alloc (by simp) _, (Blk.new _ _ _).alloc _, Blk.new' _ _ _ _ _ (by simp) rfl⟩)
  have HSZ := Lib.hid (size_pc zeroP_ok)
  clear hp
  go_enter Tryd.func9, Tryd.ntmps9
  go_upto_region 1 with fail
  refine (fun (k : ∀ W, (Below w.heap.size w W ∧ Blk W w.heap.size (pcells p) 37 ∧ Blk W (w.heap.size + 1) (pcells zeroP) 37) → Code.wp _ _ _ _ W) => k _ (HX.out _ rfl)) ?_
  rintro W ⟨h1, h2, h3⟩
  have H1 := Lib.hid h1; have H2 := Lib.hid h2; have H3 := Lib.hid h3
  clear h1 h2 h3 HX
  go_wp2_with (first | (refine wpL_val rfl (ex_ldP HPO.out H2.out rfl rfl) ?_) | fail)
  refine (trRefuse_nil p W).mono ?_
  rintro e W2 ⟨rfl, hb⟩
  have HB := Lib.hid (H1.out.trans (hb.mono H1.out.size))
  have HR := Lib.hid (H3.out.below hb H3.out.lt)
  clear hb H1 H2 H3
  go_wp2_with (first | (refine wpL_val rfl (ex_bld0 rfl) ?_) | (refine wpList_store_row rfl 37 (.tmp 8) (.tmp 16) rfl (w.heap.size + 1) (pcells zeroP).toArray rfl rfl 37 _ HR.out HSZ.out rfl (one_pc zeroP) ?_) | fail)
  exact bodyPost_ret (results_cs Tryd.results9 _ _ (w.heap.size + 1) 37 _ rfl (HR.out.row _) (size_pcl zeroP_ok)) rfl ⟨rfl, below_row HB.out (by omega) _⟩
theorem trAll_nil (p : Pt) (hp : p.OK) (w : World) : Calls Tryd.prog 12 #[.nilIface, .agg (pcells p).toArray] w fun e w' => e = .returned (.tuple #[.slice none 0 0, .slice none 0 0, .int .i64 2]) ∧ Below w.heap.size w w' := by
  have HPO := Lib.hid hp
  have H1 : Hid (Below w.heap.size w (w.alloc (.cells (pcells p).toArray 37))) := Lib.hid ((Below.refl _ _).alloc (Nat.le_refl _) _)
  have H2 : Hid (Blk (w.alloc (.cells (pcells p).toArray 37)) w.heap.size (pcells p) 37) := Lib.hid (Blk.new _ _ _)
  generalize hPost : (fun e w' => e = Ending.returned (.tuple #[.slice none 0 0, .slice none 0 0, .int .i64 2]) ∧ Below w.heap.size w w') = Post
  have HP : Hid (∀ w', Below w.heap.size w w' → Post (.returned (.tuple #[.slice none 0 0, .slice none 0 0, .int .i64 2])) w') := Lib.hid fun w' h => by rw [← hPost]; exact ⟨rfl, h⟩
  clear hp hPost
  go_enter Tryd.func12, Tryd.ntmps12
  go_upto_region 1 with fail
  obtain ⟨G, hG⟩ : ∃ g, w.heap.size = g := ⟨_, rfl⟩
  have HG := Lib.hid hG
  rw [hG] at H2 ⊢
  generalize (w.alloc (.cells (pcells p).toArray 37)) = W at H1 H2 ⊢
  clear hG
  go_wp2_with (first | (refine wpL_val rfl (ex_ldP HPO.out H2.out rfl rfl) ?_) | fail)
  refine (trRefuse_nil p W).mono ?_
  rintro e W2 ⟨rfl, hb⟩
  have HE := Lib.hid (HP.out W2 (H1.out.trans (hb.mono H1.out.size)))
  clear hb H1 H2
  go_wp2_with fail
  exact HE.out
/-- The errors of a walk and of a Set; what is bad stays. -/
def EOk (e : Nat) : Prop := e = 0 ∨ e = 5 ∨ e = 6 ∨ e = 21 ∨ e = 30
theorem EOk.ne {e : Nat} (h : EOk e) : e ≠ 1 := by unfold EOk at h; omega
theorem rdE_ok (s : Sh) (p : Pt) : rdE s p = 0 ∨ rdE s p = 6 ∨ rdE s p = 21 := by
  unfold rdE
  split
  · omega
  · split <;> omega
theorem rnE_ok (s : Sh) (p : Pt) : EOk (rnE s p) := by
  have h := rdE_ok s p
  unfold rnE EOk
  split
  · omega
  · split
    · omega
    · split <;> omega
theorem rnS_bad (s : Sh) (p : Pt) : (rnS s p).bad = s.bad := by unfold rnS; split <;> rfl
theorem goB_pres {f : Sh → List Pt → List Lf → Pt → Nat → Bw} (hf : ∀ s ns ls q a, EOk (f s ns ls q a).e ∧ (f s ns ls q a).s.bad = s.bad) (wide first fr tt : Nat) : ∀ (qs : List Pt) (i : Nat) (s : Sh) (ns : List Pt) (ls : List Lf), EOk (goB f wide first fr tt qs i s ns ls).e ∧ (goB f wide first fr tt qs i s ns ls).s.bad = s.bad
  | [], i, s, ns, ls => ⟨.inl rfl, rfl⟩
  | q :: qs, i, s, ns, ls => by
    by_cases hc : first + i * wide + wide ≤ fr ∨ tt ≤ first + i * wide
    · rw [goB_skip hc]; exact goB_pres hf wide first fr tt qs _ _ _ _
    · by_cases he : (f s ns ls q (first + i * wide)).e = 0
      · rw [goB_ok hc he]
        have h1 := goB_pres hf wide first fr tt qs (i + 1) (f s ns ls q (first + i * wide)).s (f s ns ls q (first + i * wide)).ns (f s ns ls q (first + i * wide)).ls
        exact ⟨h1.1, h1.2.trans (hf _ _ _ _ _).2⟩
      · rw [goB_err hc he]; exact hf _ _ _ _ _
theorem belowP_pres (fr tt : Nat) : ∀ (n : Nat) (s : Sh) (ns : List Pt) (ls : List Lf) (p : Pt) (first : Nat), EOk (belowP fr tt n s ns ls p first).e ∧ (belowP fr tt n s ns ls p first).s.bad = s.bad
  | 0, s, ns, ls, p, first => by
    unfold belowP
    split
    · exact ⟨.inl rfl, rfl⟩
    · exact ⟨.inl rfl, rfl⟩
  | n + 1, s, ns, ls, p, first => by
    rw [belowP_succ]
    split
    · exact ⟨.inl rfl, rfl⟩
    · split
      · exact ⟨rnE_ok s p, rnS_bad s p⟩
      · have h1 := goB_pres (belowP_pres fr tt n) (8 ^ n) first fr tt (rnN s p) 0 (rnS s p) (ns ++ [p]) ls
        exact ⟨h1.1, h1.2.trans (rnS_bad s p)⟩
theorem lostG_bad (was now : List Pt) : ∀ (ps : List Pt) (i : Nat) (s : Sh), (lostG was now i ps s).bad = s.bad
  | [], _, _ => rfl
  | p :: ps, i, s => by
    rw [lostG_cons, lostG_bad was now ps]
    split <;> rfl
theorem oldN_bad (s : Sh) (p : Pt) (lv : Nat) (was now : List Pt) : (oldN s p lv was now).bad = s.bad := by
  unfold oldN lostS
  split
  · split
    · exact lostG_bad _ _ _ _ _
    · rfl
  · show (if lv = 1 then lostG was now 0 was s else s).bad = s.bad
    split
    · exact lostG_bad _ _ _ _ _
    · rfl
theorem an_pres (s : Sh) (ns : List Pt) (lv obj off : Nat) : EOk (anE s ns) ∧ (anS s ns lv obj off).bad = s.bad := by
  unfold anE anS nwE nwS EOk
  constructor
  · split
    · omega
    · split
      · omega
      · split <;> omega
  · split
    · rfl
    · split
      · rfl
      · split <;> rfl
theorem endW_pres (obj n : Nat) (p : Pt) (was : List Pt) (off : Nat) (g : Gw) (s : Sh) (h : EOk g.e ∧ g.s.bad = s.bad) : EOk (endW obj n p was off g).e ∧ (endW obj n p was off g).s.bad = s.bad := by
  unfold endW
  split
  · exact h
  · split
    · exact ⟨.inl rfl, h.2⟩
    · have h1 := an_pres (oldN g.s p n was g.now) g.now n obj off
      exact ⟨h1.1, h1.2.trans ((oldN_bad _ _ _ _ _).trans h.2)⟩
theorem goW_pres {f : Sh → Pt → List Lf → Ww} (hf : ∀ s q l, EOk (f s q l).e ∧ (f s q l).s.bad = s.bad) (wide : Nat) (was : List Pt) : ∀ (fuel : Nat) (s : Sh) (now : List Pt) (l : List Lf), EOk (goW f wide was fuel s now l).e ∧ (goW f wide was fuel s now l).s.bad = s.bad
  | 0, s, now, l => ⟨.inl rfl, rfl⟩
  | fuel + 1, s, now, l => by
    by_cases h0 : l = []
    · subst h0; rw [goW_nil]; exact ⟨.inl rfl, rfl⟩
    · by_cases he : (f s (was.getD ((l.getD 0 dl).1 / wide % 8) zeroP) (l.take (headN wide l))).e = 0
      · rw [goW_ok h0 he]
        have h1 := goW_pres hf wide was fuel (f s (was.getD ((l.getD 0 dl).1 / wide % 8) zeroP) (l.take (headN wide l))).s (now.set ((l.getD 0 dl).1 / wide % 8) (f s (was.getD ((l.getD 0 dl).1 / wide % 8) zeroP) (l.take (headN wide l))).p) (l.drop (headN wide l))
        exact ⟨h1.1, h1.2.trans (hf _ _ _).2⟩
      · obtain ⟨e1, e2⟩ := goW_err (fuel := fuel) (now := now) h0 he
        rw [e1, e2]
        exact hf _ _ _
theorem withP_pres (obj : Nat) : ∀ (n : Nat) (s : Sh) (p : Pt) (l : List Lf), EOk (withP obj n s p l).e ∧ (withP obj n s p l).s.bad = s.bad
  | 0, s, p, l => by
    unfold withP
    split
    · exact ⟨.inl rfl, rfl⟩
    · exact ⟨.inl rfl, rfl⟩
  | n + 1, s, p, l => by
    rw [withP_succ]
    split
    · exact ⟨.inl rfl, rfl⟩
    · split
      · exact ⟨rnE_ok s p, rnS_bad s p⟩
      · have h1 := goW_pres (withP_pres obj n) (8 ^ n) (rnN s p) l.length (rnS s p) (rnN s p) l
        exact endW_pres _ _ _ _ _ _ _ ⟨h1.1, h1.2.trans (rnS_bad s p)⟩
/-- Whether a root may be. -/
def rootOk (p : Pt) : Bool := eqP p zeroP || (mayP p && decide (p.kind = 3) && decide (p.level = 2))
theorem refE_may (p : Pt) : refE p = if rootOk p = true then 0 else 1 := by
  unfold refE rootOk
  cases h1 : eqP p zeroP
  · cases h2 : mayP p
    · simp
    · by_cases h3 : p.kind = 3
      · by_cases h4 : p.level = 2
        · simp [h3, h4]
        · simp [h4]
      · simp [h3]
  · simp
theorem getE_one (s : Sh) (p : Pt) (off : Nat) : (getE s p off = 1) ↔ (rootOk p = false ∨ 64 ≤ off) := by
  unfold getE
  rw [refE_may]
  cases h : rootOk p
  · simp
  · have := (belowP_pres off (off + 1) 2 s [] [] p 0).1.ne
    by_cases h64 : 64 ≤ off
    · simp [h64]
    · simp [h64]; exact this
theorem allE_one (s : Sh) (p : Pt) : (allE s p = 1) ↔ rootOk p = false := by
  unfold allE
  rw [refE_may]
  cases h : rootOk p
  · simp
  · have := (belowP_pres 0 64 2 s [] [] p 0).1.ne
    simp; exact this
theorem setE_one (s : Sh) (p : Pt) (l : List Lf) : ((setR s p 9 l).e = 1) ↔ (rootOk p && setOk l) = false := by
  unfold setR
  rw [refE_may]
  cases h : rootOk p
  · simp
  · cases h2 : setOk l
    · simp
    · have := (withP_pres 9 2 s p l).1.ne
      simp; exact this
theorem gets_bad (s : Sh) (p : Pt) (off : Nat) : (getS s p off).bad = s.bad := by
  unfold getS
  split
  · rfl
  · exact (belowP_pres _ _ _ _ _ _ _ _).2
theorem alls_bad (s : Sh) (p : Pt) : (allS s p).bad = s.bad := by
  unfold allS
  split
  · rfl
  · exact (belowP_pres _ _ _ _ _ _ _ _).2
theorem sets_bad (s : Sh) (p : Pt) (l : List Lf) : (setR s p 9 l).s.bad = s.bad := by
  unfold setR
  split
  · rfl
  · split
    · rfl
    · exact (withP_pres _ _ _ _ _).2
/-- Where the root may not be, nothing is read. -/
theorem still (s : Sh) (p : Pt) (off : Nat) (l : List Lf) (h : rootOk p = false) : (setR (allS (getS s p off) p) p 9 l).s = s := by
  have h1 : refE p ≠ 0 := by rw [refE_may, h]; simp
  have e1 : getS s p off = s := by unfold getS; rw [if_pos (.inl h1)]
  have e2 : ∀ s, allS s p = s := fun s => by unfold allS; rw [if_pos h1]
  rw [e1, e2]
  unfold setR
  rw [if_pos h1]
end Go.Proofs.YtkbkmfmekjpleaaDoor
/- TreeWrong, walked. -/
namespace Go.Proofs.YtkbkmfmekjpleaaDoor
open Go.RowKit

attribute [local go_sem] Oper.semAt_some

theorem Fr.setO {w X : World} {D : Nat} {s : Sh} {bs : Bxs} (h : Fr w D s bs X) (p : Pt) (hp : p.OK) (l : List Lf) (hok : ∀ x ∈ l, Lf.OK x) (sp : Option Addr) (cap : Nat) (hc : l.length ≤ cap) (hl : l.length ≤ 64) (hS : SrcF w sp l) (hlt : ∀ a, sp = some a → a.block < w.heap.size) {m : Nat} (hk : Lim m s) (hm : m + 715 < 1000000) :
    Calls Tryd.prog 9 #[shI D, .agg (pcells p).toArray, .int .u16 9, .slice sp l.length cap] X fun e Y => e = .returned (.tuple #[.agg (pcells (setR s p 9 l).p).toArray, .int .i64 ((setR s p 9 l).e : Int)]) ∧ Fr w D (setR s p 9 l).s bs Y ∧ Lim (m + 715) (setR s p 9 l).s ∧ (setR s p 9 l).p.OK := by
  obtain ⟨L1, v1, h1, h2, h3, h4, h5⟩ := h.call
  refine (trSet_any (obj := 9) p hp (by omega) l hok sp cap hc hl (hS.grown h.bel) (fun a ha => ⟨Nat.lt_of_lt_of_le (hlt a ha) h.bel.size, h3 _ (hlt a ha)⟩) h1 hk hm).mono ?_
  rintro e Y ⟨e1, e2, e3, e4⟩
  exact ⟨e1, h5 _ Y e2, e3, e4⟩
theorem Fr.allE {w X : World} {D : Nat} {s : Sh} {bs : Bxs} (h : Fr w D s bs X) (p : Pt) (hp : p.OK) {m : Nat} (hk : Lim m s) (hm : m + 73 < 1000000) :
    Calls Tryd.prog 12 #[shI D, .agg (pcells p).toArray] X fun e Y => ∃ lv nv, e = .returned (.tuple #[lv, nv, .int .i64 (allE s p : Int)]) ∧ Fr w D (allS s p) bs Y ∧ Lim (m + 73) (allS s p) := by
  obtain ⟨L1, v1, h1, h2, h3, h4, h5⟩ := h.call
  refine (trAll_any p hp h1 h2 hk hm).mono ?_
  rintro e Y ⟨lv, nv, e1, ⟨⟨L2, v2, k1, k2, _⟩, _⟩, e3⟩
  exact ⟨lv, nv, e1, h5 _ Y ⟨L2, v2, k1, k2⟩, e3⟩
/-- The blocks are one that lies in old memory. -/
theorem Fr.blocks {w X Y : World} {D : Nat} {s : Sh} {bs : Bxs} (h : Fr w D s bs X) (b : Bs) (sp : Option Addr) (cap : Nat) (hc : b.length ≤ cap) (hz : sp = none → cap = 0) (hS : SrcA w sp b) (hlt : ∀ a, sp = some a → a.block < w.heap.size) (hbox : ∀ y ∈ bs, ¬ ∃ a, sp = some a ∧ y.1 = a.block) {g : Nat} (hb : Below X.heap.size X Y) (hg : X.heap.size ≤ g) (hn : Blk Y g [.slice sp b.length cap] 41) :
    Fr w D { s with blocks := [b] } bs (Y.setCell ⟨D, 0, none⟩ (.slice (some ⟨g, 0, none⟩) 1 1)) := by
  obtain ⟨⟨L1, v1, h1, h2, h3, h4⟩, k, hl⟩ := h
  have hD : D ≠ g := by have := h1.blk.lt; omega
  have hgY := hn.lt
  have hlD : w.heap.size ≤ D := by
    by_cases e : w.heap.size ≤ D
    · exact e
    · have := h4 D (by omega); rw [h1.ld] at this; omega
  -- the labels behind it
  classical
  let L2 : Nat → Nat := fun x => if x = g then 2 else if (∃ a, sp = some a ∧ x = a.block) then 10 else L1 x
  have hsp1 : ∀ x, (∃ a, sp = some a ∧ x = a.block) → x < w.heap.size := fun x ⟨a, ha, e⟩ => by rw [e]; exact hlt a ha
  have hold : ∀ x, x < X.heap.size → (L1 x = 1 ∨ L1 x = 3 ∨ L1 x = 4 ∨ L1 x = 5 ∨ L1 x = 10 ∨ L1 x = 2) → L2 x = L1 x := fun x hx hx' => by
    show (if x = g then 2 else if (∃ a, sp = some a ∧ x = a.block) then 10 else L1 x) = L1 x
    rw [if_neg (by omega)]
    by_cases e : ∃ a, sp = some a ∧ x = a.block
    · rw [if_pos e]
      have := h4 x (hsp1 x e)
      omega
    · rw [if_neg e]
  have hc1 : Chg (fun x => x = D) X (Y.setCell ⟨D, 0, none⟩ (.slice (some ⟨g, 0, none⟩) 1 1)) := (Chg.of_below (F := fun x => x = D) hb).setCell (g := D) (.inl rfl) 0 _
  have hsz : (Y.setCell ⟨D, 0, none⟩ (.slice (some ⟨g, 0, none⟩) 1 1)).heap.size = Y.heap.size := by simp [World.setCell]
  have hDn : ∀ {j x : Nat}, j ≠ 1 → L1 x = j → ¬ x = D := fun hj hx e => by rw [e, h1.ld] at hx; exact hj hx.symm
  have ow : ∀ {x : Value} {l : List Pt} {j : Nat}, (j = 3 ∨ j = 4 ∨ j = 5) → (OwnM X 0 x l ∧ ∀ g, x.ownBlock = some g → L1 g = j) → (OwnM (Y.setCell ⟨D, 0, none⟩ (.slice (some ⟨g, 0, none⟩) 1 1)) 0 x l ∧ ∀ g, x.ownBlock = some g → L2 g = j) := fun hj ⟨ha, hb'⟩ =>
    ⟨owns_chg ha hc1 (fun y hy => hDn (by omega) (hb' y hy)), fun y hy => by rw [hold y (owns_lt ha hy) (by rw [hb' y hy]; omega)]; exact hb' y hy⟩
  have hbS : Blk (Y.setCell ⟨D, 0, none⟩ (.slice (some ⟨g, 0, none⟩) 1 1)) g [.slice sp b.length cap] 41 := hn.other (a := ⟨D, 0, none⟩) (fun e => hD e.symm) _
  refine ⟨⟨L2, { v1 with bl := .slice (some ⟨g, 0, none⟩) 1 1 }, ⟨(h1.blk.below hb h1.blk.lt).set 0 _, by rw [hold D h1.blk.lt (.inl h1.ld)]; exact h1.ld, ⟨[.slice sp b.length cap], ?_, fun x hx => ?_, rfl, fun i u b' hu hb' => ?_, fun u hu => by simp at hu; subst hu; rfl⟩, ?_, ow (by omega) h1.md, ow (by omega) h1.gn, ow (by omega) h1.rd, fun x hx => ?_, h1.okm, h1.okg, h1.okr, ?_⟩, fun x => ?_, fun y hy => ?_, fun x hx => ?_⟩, fun y hy => ?_, ?_⟩
  · exact hbS.owns (base := 0) (n := 1) (Nat.zero_le _) (by simp) (by unfold maxLen; simp)
  · injection hx with hx
    show (if x = g then 2 else _) = 2
    rw [if_pos hx.symm]
  · cases i with
    | zero =>
      simp at hu hb'
      subst hu hb'
      refine ⟨sp, cap, rfl, hc, hz, (hS.grown hl).chgF hc1 (fun a ha e => by have := hlt a ha; have e : a.block = D := e; omega), fun a ha => ?_⟩
      show (if a.block = g then 2 else if (∃ a', sp = some a' ∧ a.block = a'.block) then 10 else L1 a.block) = 10
      rw [if_neg (by have := hlt a ha; have := hl.size; omega), if_pos ⟨a, ha, rfl⟩]
    | succ i => simp at hu
  · obtain ⟨sp', cap', e, j1, j2, j3⟩ := h1.bad
    refine ⟨sp', cap', e, j1, j2, fun h0 => ?_⟩
    obtain ⟨g', o, e1, hg', hl', hcell⟩ := j3 h0
    refine ⟨g', o, e1, Nat.lt_of_lt_of_le hg' hc1.size, (hold g' hg' (by omega)).trans hl', fun i x hx => ?_⟩
    rw [World.cell?_of_block (w := X) (a := ⟨g', o + i, none⟩) (hc1.block g' hg' (hDn (by omega) hl'))]
    exact hcell i x hx
  · rw [hsz]
    have hx : (if x = g then 2 else if (∃ a, sp = some a ∧ x = a.block) then 10 else L1 x) ≠ 0 := hx
    by_cases e1 : x = g
    · omega
    · rw [if_neg e1] at hx
      by_cases e2 : ∃ a, sp = some a ∧ x = a.block
      · have := hsp1 x e2; have := hl.size; have := hb.size; omega
      · rw [if_neg e2] at hx
        have := h1.lt x hx; have := hb.size; omega
  · exact ⟨h1.tab.1.of_heap (hc1.block _ h1.tab.1.lt (hDn (by omega) h1.tab.2)), (hold _ h1.tab.1.lt (by rw [h1.tab.2]; omega)).trans h1.tab.2⟩
  · show (if x = g then 2 else if (∃ a, sp = some a ∧ x = a.block) then 10 else L1 x) ≤ 5 ∨ (if x = g then 2 else if (∃ a, sp = some a ∧ x = a.block) then 10 else L1 x) = 10
    by_cases e1 : x = g
    · rw [if_pos e1]; omega
    · rw [if_neg e1]
      by_cases e2 : ∃ a, sp = some a ∧ x = a.block
      · rw [if_pos e2]; omega
      · rw [if_neg e2]; exact h2 x
  · show (if y.1 = g then 2 else if (∃ a, sp = some a ∧ y.1 = a.block) then 10 else L1 y.1) = 0
    have hy1 := (k y hy).lt
    rw [if_neg (by omega), if_neg (fun e => hbox y hy e)]
    exact h3 y hy
  · show (if x = g then 2 else if (∃ a, sp = some a ∧ x = a.block) then 10 else L1 x) = 0 ∨ (if x = g then 2 else if (∃ a, sp = some a ∧ x = a.block) then 10 else L1 x) = 10
    have := hl.size
    rw [if_neg (by omega)]
    by_cases e2 : ∃ a, sp = some a ∧ x = a.block
    · right; rw [if_pos e2]
    · rw [if_neg e2]; exact h4 x hx
  · exact (k y hy).chg hc1 (fun e => by have := h3 y hy; have e : y.1 = D := e; rw [e, h1.ld] at this; omega)
  · exact (hl.trans (hb.mono hl.size)).trans ⟨rfl, rfl, rfl, by simp [World.setCell], fun x hx => Below.heap_setCell _ _ _ _ (by show x ≠ D; omega)⟩
end Go.Proofs.YtkbkmfmekjpleaaDoor
