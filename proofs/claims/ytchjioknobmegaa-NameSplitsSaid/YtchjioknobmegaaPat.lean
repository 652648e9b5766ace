/- A path in parts, as the program does it: the whole. -/
import Derived.Test.YtchjioknobmegaaPrt
namespace Go.Proofs.Ytchjioknobmegaa
open Go.RowKit

theorem Cuts.stay {l : List UInt8} {f i : Nat} {ps : List (List UInt8)} (h : Cuts l f i ps) : ∀ d, i + d ≤ l.length → (∀ j, j < d → ¬ gb l (i + j) = 47) → Cuts l f (i + d) ps
  | 0, _, _ => h
  | d + 1, hd, hj => (Cuts.stay h d (by omega) (fun j a => hj j (by omega))).go (by omega) (hj d (by omega))
theorem Cuts.rune {l : List UInt8} {f k : Nat} {ps : List (List UInt8)} (h : Cuts l f k ps) (hlt : k < l.length) (h47 : ¬ (decL (l.drop k)).1 = 47) : Cuts l f (k + (decL (l.drop k)).2) ps := by
  have hne := drop_ne hlt
  have hpos := decL_pos hne
  rw [List.length_drop] at hpos
  refine h.stay _ (by omega) (fun j hj => ?_)
  rw [← gb_drop]
  match j with
  | 0 =>
    rw [decL_rune hne (by decide)] at h47
    exact h47
  | j + 1 =>
    have := decL_tail hne hj (by omega)
    omega
theorem rune_slash {l : List UInt8} {k : Nat} (hlt : k < l.length) (h47 : (decL (l.drop k)).1 = 47) : gb l k = 47 ∧ (decL (l.drop k)).2 = 1 := by
  have hne := drop_ne hlt
  rw [decL_rune hne (by decide)] at h47
  have := decL_low hne (by omega)
  rw [gb_drop0] at h47
  exact ⟨h47, by rw [this]⟩
/-- What has been found of whether it begins with a slash. -/
def absK (l : List UInt8) (k : Nat) : Bool := decide (0 < k) && absL l
theorem absL_gb {l : List UInt8} (hl : 0 < l.length) : absL l = decide (gb l 0 = 47) := by
  obtain ⟨b, r, rfl⟩ : ∃ b r, l = b :: r := by cases l with | nil => simp at hl | cons b r => exact ⟨b, r, rfl⟩
  have : gb (b :: r) 0 = b.toNat := rfl
  rw [this]
  unfold absL
  simp only [List.head?_cons]
  by_cases h : b = 47
  · subst h; rfl
  · have h2 : ¬ b.toNat = 47 := fun e => h (UInt8.toNat_inj.1 e)
    simp [h, h2]

theorem filter_snoc (ps : List (List UInt8)) (x : List UInt8) : (ps ++ [x]).filter keep = if keep x = true then ps.filter keep ++ [x] else ps.filter keep := by
  rw [List.filter_append]
  by_cases h : keep x = true
  · simp [h]
  · simp [h]

theorem absK_rune {l : List UInt8} {k d : Nat} (hlt : k < l.length) (h47 : ¬ gb l k = 47) (hd : 1 ≤ d) : absK l k = absK l (k + d) := by
  unfold absK
  have h1 : 0 < k + d := by omega
  by_cases hk0 : k = 0
  · subst hk0
    have h2 : absL l = false := by rw [absL_gb (by omega)]; simpa using h47
    rw [h2]
    simp
  · have h3 : 0 < k := by omega
    simp [h1, h3]
theorem absK_slash {l : List UInt8} {k : Nat} (hlt : k < l.length) (h47 : gb l k = 47) : (absK l k || ((k : Int) == 0)) = absK l (k + 1) := by
  unfold absK
  have h1 : 0 < k + 1 := by omega
  by_cases hk0 : k = 0
  · subst hk0
    have h2 : absL l = true := by rw [absL_gb (by omega)]; simpa using h47
    rw [h2]
    simp
  · have h3 : 0 < k := by omega
    have h4 : ((k : Int) == 0) = false := by simp; omega
    simp [h1, h3, h4]
theorem two_new (w : World) (o o' : Obj) : ((w.alloc o).alloc o').heap[w.heap.size + 1]? = some o' := by
  have := heap_alloc_new (w.alloc o) o'
  rw [show (w.alloc o).heap.size = w.heap.size + 1 from by simp] at this
  exact this
/-- What the program has of a path. -/
structure Parted (l : List UInt8) (n : Nat) (w : World) (fn k : Nat) (a : Bool) (v : Value) (s : Bool) (qs : List (List UInt8)) (wr : World) : Prop where
  cuts : Cuts l fn k qs
  abs : a = absK l k
  bx : Bx wr (n + 1) 29 a v s
  own : Own wr (n + 1 + 1) v (qs.filter keep)
  res : Bx wr n 29 false (.slice none 0 0) false
  it : wr.heap[n + 1 + 1]? = some (.stringIter (str l) k)
  bel : Below n w wr

theorem one3 (a s : Bool) (sp : Option Addr) (n c : Nat) : (#[Value.bool a, Value.slice sp n c, Value.bool s]).all (·.oneCell') = true := by
  simp [Value.oneCell']
theorem info29 : (Try.prog.info? 29).map (·.size) = some 3 := by kernel_rfl
theorem info32 : (Try.prog.info? 32).map (·.size) = some 3 := by kernel_rfl
theorem Bx.row {w : World} {n t : Nat} {a0 s0 : Bool} {v0 : Value} (h : Bx w n t a0 v0 s0) (a s : Bool) (v : Value) : Bx (w.setRow n #[.bool a, v, .bool s]) n t a v s := by
  unfold Bx at *
  unfold World.setRow
  simp [Array.getElem?_modify, h]
theorem below_row {B : Nat} {a w : World} (h : Below B a w) {g : Nat} (hg : B ≤ g) (cs : Array Value) : Below B a (w.setRow g cs) :=
  h.trans ⟨rfl, rfl, rfl, by simp [World.setRow], fun k hk => by unfold World.setRow; simp [Array.getElem?_modify]; omega⟩
theorem Own.row {w : World} {B b t : Nat} {v : Value} {ls : List (List UInt8)} (h : Own w B v ls) {a s : Bool} {u : Value} (hb : Bx w b t a u s) (ht : t ≠ 9) (cs : Array Value) : Own (w.setRow b cs) B v ls := by
  refine h.kept (row := some b) ⟨rfl, rfl, rfl, by simp [World.setRow], fun k _ hk => by unfold World.setRow; simp [Array.getElem?_modify]; intro e; exact absurd (by rw [e]) hk⟩ (.inr ?_)
  rcases h.2 with ⟨rfl, _⟩ | ⟨g, cap, cur, rfl, _, hg, _⟩
  · simp [Value.ownBlock]
  · simp only [Value.ownBlock, ne_eq, Option.some.injEq]
    intro e
    unfold Bx at hb
    rw [e, hb] at hg
    simp at hg
    exact ht hg.2
theorem Own.base {w : World} {B B' : Nat} {v : Value} {ls : List (List UInt8)} (h : Own w B v ls) (hB : B' ≤ B) : Own w B' v ls := by
  refine ⟨h.1, h.2.imp id ?_⟩
  rintro ⟨g, cap, cur, e, hb, r⟩
  exact ⟨g, cap, cur, e, Nat.le_trans hB hb, r⟩
theorem seg_length (l : List UInt8) (f i : Nat) : (seg l f i).length ≤ l.length := by simp [seg]; omega
/-- .. once one piece more was taken. -/
theorem parted_step {l : List UInt8} {n fn k : Nat} {w W w2 : World} {a x s : Bool} {v : Value} {qs : List (List UInt8)} (hbx : Bx W (n + 1) 29 a v s) (hres : Bx W n 29 false (.slice none 0 0) false)
    (hit : W.heap[n + 1 + 1]? = some (.stringIter (str l) (k + 1))) (hbel : Below n w W) (hc : Cuts l (k + 1) (k + 1) (qs ++ [seg l fn k])) (hx : x = absK l (k + 1))
    (ht : Took (W.setCell ⟨n + 1, 0, none⟩ (.bool x)) (n + 1) (n + 1 + 1) x (qs.filter keep) (seg l fn k) w2) :
    ∃ v', Parted l n w (k + 1) (k + 1) x v' (dirLast (seg l fn k)) (qs ++ [seg l fn k]) w2 := by
  obtain ⟨⟨v', h1, h2⟩, h3, h4⟩ := ht
  refine ⟨v', hc, hx, h1, by rw [filter_snoc]; exact h2, ?_, ?_, ?_⟩
  · exact hres.of ((h3.block n (by omega)).trans (Below.heap_setCell _ _ _ _ (by simp)))
  · exact h4 _ _ _ ((Its.set hbx 0) _ _ _ hit)
  · exact (hbel.setCell (p := ⟨n + 1, 0, none⟩) (Nat.le_succ _) _).trans (h3.mono (Nat.le_succ _))

set_option maxRecDepth 100000 in
set_option maxHeartbeats 4000000 in
theorem parted_any (l : List UInt8) (hl : l.length < 1000000) (w : World) :
    Calls Try.prog 21 #[.string (str l)] w fun e w' => ∃ v, e = .returned (.agg #[.bool (absL l), v, .bool (slL l)]) ∧ Own w' w.heap.size v (parts l) ∧ Below w.heap.size w w' := by
  have hsz := str_size l
  go_enter Try.func21, Try.ntmps21
  go_wp2_with fail
  have hP0 : Parted l w.heap.size w 0 0 false (.slice none 0 0) false [] (((w.alloc (Obj.cells #[Value.bool false, Value.slice none 0 0, Value.bool false] 29)).alloc (Obj.cells #[Value.bool false, Value.slice none 0 0, Value.bool false] 29)).iter (str l) 0) := by
    refine ⟨Cuts.start l, rfl, ?_, Own.nil _ _, ?_, ?_, ?_⟩
    · exact Bx.of (two_new w _ _) (Below.heap_alloc _ _ _ (by simp))
    · exact Bx.of (Bx.of (heap_alloc_new w _) (Below.heap_alloc _ _ _ (by simp))) (Below.heap_alloc _ _ _ (by simp; omega))
    · have := World.iter_heap ((w.alloc (Obj.cells #[Value.bool false, Value.slice none 0 0, Value.bool false] 29)).alloc (Obj.cells #[Value.bool false, Value.slice none 0 0, Value.bool false] 29)) (str l) 0
      simpa using this
    · exact (((Below.refl _ w).alloc (Nat.le_refl _) _).alloc (by simp) _).alloc (by simp; omega) _
  have HP0 := Lib.hid hP0
  clear hP0
  go_loopw [5] (fun f wr => ∃ (fn k : Nat) (a : Bool) (v : Value) (s : Bool) (qs : List (List UInt8)), f = .int .i64 fn ∧ Hid (Parted l w.heap.size w fn k a v s qs wr)) (fun _ wr => l.length - wr.iterPos (w.heap.size + 1 + 1))
  case atStart => exact ⟨0, 0, _, _, _, _, rfl, HP0⟩
  case round =>
    obtain ⟨fn, k, a, v, s, qs, rfl, HP⟩ := hrel
    have hit := HP.out.it
    have hkl := HP.out.cuts.hi
    have hfk := HP.out.cuts.hf
    have hmeas : wr.iterPos (w.heap.size + 1 + 1) = k := by simp [World.iterPos, hit]
    have HM := Lib.hid hmeas
    have hwsz := (Array.getElem?_eq_some_iff.1 hit).1
    clear hmeas
    by_cases hlt : k < l.length
    · have hne := drop_ne hlt
      have hpos := decL_pos hne
      rw [List.length_drop] at hpos
      have hnx : ∀ ty, (Instr.next (.pointer (some ⟨w.heap.size + 1 + 1, 0, none⟩)) true ty).run Try.prog wr = _ := fun ty => Lib.run_next_any_at wr (w.heap.size + 1 + 1) (str l) k ty hit (by rw [str_size]; exact hlt)
      rw [decode_str] at hnx
      have hr47 := @rune_slash l k hlt
      have hrn := @Cuts.rune l fn k qs HP.out.cuts hlt
      have hgr := decL_rune hne (c := 47) (by decide)
      rw [gb_drop0] at hgr
      obtain ⟨r, hr⟩ : ∃ r : Nat, (decL (l.drop k)).1 = r := ⟨_, rfl⟩
      obtain ⟨d, hd⟩ : ∃ d : Nat, (decL (l.drop k)).2 = d := ⟨_, rfl⟩
      rw [hr, hd] at hnx hr47 hrn
      rw [hr] at hgr
      have HGR := Lib.hid hgr
      clear hgr
      rw [hd] at hpos
      clear hr hd hne
      have hW : Parted l w.heap.size w fn k a v s qs wr → True := fun _ => trivial
      obtain ⟨W, hWe⟩ : ∃ W, W = wr.iterAt (w.heap.size + 1 + 1) (str l) (k + d) := ⟨_, rfl⟩
      have hbx : Bx W (w.heap.size + 1) 29 a v s := HP.out.bx.of (by rw [hWe]; exact Lib.iterAt_other _ _ _ _ _ (by omega))
      have hres : Bx W w.heap.size 29 false (.slice none 0 0) false := HP.out.res.of (by rw [hWe]; exact Lib.iterAt_other _ _ _ _ _ (by omega))
      have hown : Own W (w.heap.size + 1 + 1) v (qs.filter keep) := by
        refine HP.out.own.kept (row := some (w.heap.size + 1 + 1)) (by rw [hWe]; exact ⟨rfl, rfl, rfl, by rw [Lib.iterAt_size]; exact Nat.le_refl _, fun j _ hj => Lib.iterAt_other _ _ _ _ _ (fun e => hj (by rw [e]))⟩) (.inr ?_)
        rcases HP.out.own.2 with ⟨rfl, _⟩ | ⟨g, cap, cur, rfl, _, hgg, _⟩
        · simp [Value.ownBlock]
        · simp only [Value.ownBlock, ne_eq, Option.some.injEq]
          intro e
          rw [e, hit] at hgg
          cases hgg
      have hitW : W.heap[w.heap.size + 1 + 1]? = some (.stringIter (str l) (k + d)) := by rw [hWe]; exact Lib.iterAt_heap _ _ _ _ _ hit
      have hbelW : Below w.heap.size w W := by rw [hWe]; exact Lib.below_iterAt HP.out.bel (by omega) _ _
      rw [← hWe] at hnx
      clear hWe hit
      have hd1 := hpos.1
      by_cases h47 : r = 47
      · obtain ⟨hg, rfl⟩ := hr47 h47
        have hc2 := HP.out.cuts.slash hlt hg
        have ha2 := absK_slash hlt hg
        rw [← HP.out.abs] at ha2
        have hql := HP.out.cuts.len
        have c0 := hbx.c0
        have f0 := hbx.frozen 0
        have hsl := sliceMid l fn k hfk (by omega)
        have HBX := Lib.hid hbx
        have HO := Lib.hid hown
        have HRES := Lib.hid hres
        have HIT := Lib.hid hitW
        have HBL := Lib.hid hbelW
        have HC2 := Lib.hid hc2
        have HA2 := Lib.hid ha2
        subst h47
        clear hbx hown hres hitW hbelW hc2 ha2 hr47 hrn hg
        go_wp2_with fail
        · have ha : a = true := by assumption
          refine (take_any (w.heap.size + 1) (w.heap.size + 1 + 1) true s v (qs.filter keep) (seg l fn k) (by have := seg_length l fn k; omega) (by have := List.length_filter_le keep qs; omega) _ (HBX.out.put0 true) (HO.out.setCell HBX.out (by decide) 0 _) (by omega) (by have := HBL.out.size; have := (Array.getElem?_eq_some_iff.1 HIT.out).1; simp [World.setCell]; omega)).mono ?_
          rintro e w2 ⟨rfl, ht⟩
          have hx : true = absK l (k + 1) := by rw [← HA2.out, ha]; rfl
          obtain ⟨v', hP2⟩ := parted_step HBX.out HRES.out HIT.out HBL.out HC2.out hx ht
          have HP2 := Lib.hid hP2
          have hm2 : w2.iterPos (w.heap.size + 1 + 1) = k + 1 := by simp [World.iterPos, hP2.it]
          have HM2 := Lib.hid hm2
          clear hP2 hx ht ha hm2
          go_wp2_with fail
          go_roundw
          case rel => exact ⟨k + 1, k + 1, _, _, _, _, by go_num, HP2⟩
          case measure => have h1 := HM.out; have h2 := HM2.out; omega
        · have ha : ¬ a = true := by assumption
          refine (take_any (w.heap.size + 1) (w.heap.size + 1 + 1) ((k : Int) == 0) s v (qs.filter keep) (seg l fn k) (by have := seg_length l fn k; omega) (by have := List.length_filter_le keep qs; omega) _ (HBX.out.put0 _) (HO.out.setCell HBX.out (by decide) 0 _) (by omega) (by have := HBL.out.size; have := (Array.getElem?_eq_some_iff.1 HIT.out).1; simp [World.setCell]; omega)).mono ?_
          rintro e w2 ⟨rfl, ht⟩
          have hx : ((k : Int) == 0) = absK l (k + 1) := by rw [← HA2.out]; simp [ha]
          obtain ⟨v', hP2⟩ := parted_step HBX.out HRES.out HIT.out HBL.out HC2.out hx ht
          have HP2 := Lib.hid hP2
          have hm2 : w2.iterPos (w.heap.size + 1 + 1) = k + 1 := by simp [World.iterPos, hP2.it]
          have HM2 := Lib.hid hm2
          clear hP2 hx ht ha hm2
          go_wp2_with fail
          go_roundw
          case rel => exact ⟨k + 1, k + 1, _, _, _, _, by go_num, HP2⟩
          case measure => have h1 := HM.out; have h2 := HM2.out; omega
      · have hc2 := hrn h47
        have hg : ¬ gb l k = 47 := fun e => h47 (HGR.out.2 e)
        have ha2 := absK_rune hlt hg hd1
        rw [← HP.out.abs] at ha2
        have hP2 : Parted l w.heap.size w fn (k + d) a v s qs W := ⟨hc2, ha2, hbx, hown, hres, hitW, hbelW⟩
        have HP2 := Lib.hid hP2
        have hm2 : W.iterPos (w.heap.size + 1 + 1) = k + d := by simp [World.iterPos, hitW]
        have HM2 := Lib.hid hm2
        have hr2 : ((r : Int) == 47) = false := by simp; omega
        clear hP2 hm2 hbx hown hres hitW hbelW hc2 ha2 hr47 hrn hg h47
        go_wp2_with fail
        go_roundw
        case rel => exact ⟨fn, k + d, _, _, _, _, by go_num, HP2⟩
        case measure => have h1 := HM.out; have h2 := HM2.out; omega
    · obtain rfl : k = l.length := by omega
      have hnx : ∀ ty, (Instr.next (.pointer (some ⟨w.heap.size + 1 + 1, 0, none⟩)) true ty).run Try.prog wr = _ := fun ty => Lib.run_next_end_at wr (w.heap.size + 1 + 1) (str l) l.length ty hit (by rw [str_size]; omega)
      have hsl := sliceFrom l fn (by omega)
      have hql := HP.out.cuts.len
      have hdone := HP.out.cuts.done
      have HD := Lib.hid hdone
      clear hit hdone
      go_wp2_with fail
      refine (take_any (w.heap.size + 1) (w.heap.size + 1 + 1) a s v (qs.filter keep) (l.drop fn) (by simp; omega) (by have := List.length_filter_le keep qs; omega) _ HP.out.bx HP.out.own (by omega) (by omega)).mono ?_
      rintro e w2 ⟨rfl, ht⟩
      obtain ⟨⟨v', h1, h2⟩, h3, h4⟩ := ht
      have hr2 := HP.out.res.of (h3.block w.heap.size (by omega))
      have hb2 : Below w.heap.size w w2 := HP.out.bel.trans (h3.mono (Nat.le_succ _))
      rw [← filter_snoc, HD.out] at h2
      have hs2 : dirLast (l.drop fn) = slL l := by unfold slL; rw [← HD.out, getLastD_append]
      have ha2 : a = absL l := by
        rw [HP.out.abs]
        unfold absK
        by_cases h0 : l = []
        · subst h0; rfl
        · have : 0 < l.length := by cases l <;> simp_all
          simp [this]
      rw [hs2] at h1
      subst ha2
      obtain ⟨sp', n', cap', rfl⟩ : ∃ sp n cap, v' = .slice sp n cap := by
        rcases h2.2 with ⟨h, _⟩ | ⟨g, cap, cur, h, _⟩ <;> exact ⟨_, _, _, h⟩
      have H1 := Lib.hid h1
      have H2 := Lib.hid h2
      have HR := Lib.hid hr2
      have HB := Lib.hid hb2
      clear h1 h2 h3 h4 hr2 hb2 hs2 HP HD
      go_wp2_with (first
        | (refine wpList_load_row rfl 29 (.tmp 3) rfl (w.heap.size + 1) rfl 29 _ _ _ H1.out Try.underlying29 rfl info29 ?_)
        | (refine wpList_store_row rfl 29 (.tmp 2) (.tmp 37) rfl w.heap.size _ rfl rfl 29 _ HR.out info29 rfl (one3 _ _ _ _ _) ?_)
        | fail)
      exact bodyPost_ret (results_cell_row Try.results21 _ _ w.heap.size 29 _ _ _ rfl (HR.out.row _ _ _) Try.underlying29 rfl info29) rfl ⟨_, rfl, Own.base (Own.row H2.out HR.out (by decide) _) (by omega), below_row HB.out (Nat.le_refl _) _⟩
end Go.Proofs.Ytchjioknobmegaa
