/- The program's Split. -/
import Derived.Test.YtchjioknobmegaaPat
namespace Go.Proofs.Ytchjioknobmegaa
open Go.RowKit

theorem results_pair {fn : Func} {p u : Tmp} {ty : TypeId} (h : fn.results = #[.cell p ty, .tmp u]) (tmps : Array Value) (w : World) (g t : Nat) (a s : Bool) (v : Value) {fs : Array Field}
    (hp : tmps.getD p undef = .pointer (some ⟨g, 0, none⟩)) (hg : Bx w g t a v s) (hu : Try.prog.underlying ty = some (.struct fs)) (hi : (Try.prog.info? ty).map (·.size) = some 3) :
    (results fn tmps).run Try.prog w = .ok (.tuple #[.agg #[.bool a, v, .bool s], tmps.getD u undef]) w := by
  rw [results_cell_tmp h, hp]
  simp only [asAddr, Sem.run_pure, Result.andThen_ok, run_loadVar_row w g t ty #[.bool a, v, .bool s] (0, 0) _ hg hu rfl hi]
/-- What is told of a path. -/
def Told (l : List UInt8) (w : World) (e : Ending) (w' : World) : Prop :=
  Below w.heap.size w w' ∧ ∃ v, (errS l ≠ 0 → e = .returned (.tuple #[.agg #[.bool false, .slice none 0 0, .bool false], .int .i64 (errS l)])) ∧
    (errS l = 0 → e = .returned (.tuple #[.agg #[.bool (absL l), v, .bool (slL l)], .int .i64 0]) ∧ Own w' w.heap.size v (parts l))
abbrev nilPath : Obj := .cells #[.bool false, .slice none 0 0, .bool false] 29
theorem told_err {l : List UInt8} {w w' : World} {k : Nat} {v : Value} (hk : errS l = k) (h0 : k ≠ 0) (hb : Below w.heap.size w w') (hv : v = .tuple #[.agg #[.bool false, .slice none 0 0, .bool false], .int .i64 (k : Int)]) : Told l w (.returned v) w' :=
  ⟨hb, undef, fun _ => by rw [hv, hk], fun h => absurd (hk.symm.trans h) h0⟩
theorem errS_0 : errS [] = 20 := rfl
theorem errS_1 {l : List UInt8} (h : l ≠ []) (h1 : 256 < l.length) : errS l = 33 := by unfold errS; rw [if_neg h, if_pos h1]
theorem errS_2 {l : List UInt8} (h : l ≠ []) (h1 : ¬ 256 < l.length) (h2 : flt false l ≠ 0) : errS l = flt false l := by unfold errS; rw [if_neg h, if_neg h1, if_pos h2]
theorem errS_3 {l : List UInt8} (h : l ≠ []) (h1 : ¬ 256 < l.length) (h2 : ¬ flt false l ≠ 0) (h3 : long (parts l) = true) : errS l = 33 := by unfold errS; rw [if_neg h, if_neg h1, if_neg h2, if_pos h3]
theorem errS_4 {l : List UInt8} (h : l ≠ []) (h1 : ¬ 256 < l.length) (h2 : ¬ flt false l ≠ 0) (h3 : ¬ long (parts l) = true) : errS l = 0 := by unfold errS; rw [if_neg h, if_neg h1, if_neg h2, if_neg h3]

theorem len_wt (L : List (List UInt8)) : L.length ≤ wt L := by
  induction L with
  | nil => simp
  | cons p L ih => rw [wt_cons]; simp; omega
theorem parts_len (l : List UInt8) : (parts l).length ≤ l.length + 1 := by
  have h1 := List.length_filter_le keep (cut l)
  have h2 := len_wt (cut l)
  have h3 := wt_cut _ l (Nat.le_refl _)
  unfold parts
  omega
theorem long_yes {P : List (List UInt8)} {k : Nat} (hk : k < P.length) (h : 24 < (P.getD k []).length) : long P = true := by
  refine List.any_eq_true.2 ⟨P[k], List.getElem_mem hk, ?_⟩
  rw [List.getD_eq_getElem?_getD, List.getElem?_eq_getElem hk] at h
  simpa using h
theorem long_no {P : List (List UInt8)} (h : ∀ j, j < P.length → (P.getD j []).length ≤ 24) : ¬ long P = true := by
  intro hl
  obtain ⟨p, hp, h2⟩ := List.any_eq_true.1 hl
  obtain ⟨k, hk, rfl⟩ := List.mem_iff_getElem.1 hp
  have := h k hk
  rw [List.getD_eq_getElem?_getD, List.getElem?_eq_getElem hk] at this
  simp at this h2
  omega

set_option maxRecDepth 100000 in
set_option maxHeartbeats 4000000 in
theorem split_any (l : List UInt8) (hl : l.length < 1000000) (w : World) : Calls Try.prog 12 #[.string (str l)] w (Told l w) := by
  have hsz := str_size l
  have hb1 : Below w.heap.size w (w.alloc nilPath) := (Below.refl _ w).alloc (Nat.le_refl _) _
  have hbx1 : Bx (w.alloc nilPath) w.heap.size 29 false (.slice none 0 0) false := heap_alloc_new w _
  have HB1 := Lib.hid hb1
  have HX1 := Lib.hid hbx1
  clear hb1 hbx1
  by_cases h0 : l = []
  · subst h0
    go_enter Try.func12, Try.ntmps12
    go_wp2_with fail
    exact bodyPost_ret (results_pair Try.results12 _ _ w.heap.size 29 _ _ _ rfl HX1.out Try.underlying29 info29) rfl (told_err errS_0 (by decide) HB1.out rfl)
  have h0' : l.isEmpty = false := by simpa using h0
  by_cases h1 : 256 < l.length
  · have HE := Lib.hid (errS_1 h0 h1)
    go_enter Try.func12, Try.ntmps12
    go_wp2_with fail
    exact bodyPost_ret (results_pair Try.results12 _ _ w.heap.size 29 _ _ _ rfl HX1.out Try.underlying29 info29) rfl (told_err HE.out (by decide) HB1.out rfl)
  obtain ⟨f, hf⟩ : ∃ f : Nat, flt false l = f := ⟨_, rfl⟩
  by_cases h2 : f ≠ 0
  · have HE : Hid (errS l = f) := Lib.hid (by rw [errS_2 h0 h1 (by rw [hf]; exact h2), hf])
    have HF := Lib.hid hf
    have H2 := Lib.hid h2
    have h2' : ((f : Int) != 0) = true := by simpa using h2
    clear h0 hf h2
    go_enter Try.func12, Try.ntmps12
    go_wp2_with fail
    refine (pFault_any false l hl _).mono ?_
    rintro e w' ⟨rfl, p, rfl⟩
    rw [HF.out]
    have hbW : Below w.heap.size w ((w.alloc nilPath).iter (str l) p) := HB1.out.alloc HB1.out.size (.stringIter (str l) p)
    have hxW : Bx ((w.alloc nilPath).iter (str l) p) w.heap.size 29 false (.slice none 0 0) false := HX1.out.of (Below.heap_alloc _ (.stringIter (str l) p) _ HX1.out.lt)
    generalize (w.alloc nilPath).iter (str l) p = W at hbW hxW ⊢
    have HBW := Lib.hid hbW
    have HXW := Lib.hid hxW
    clear hbW hxW
    go_wp2_with (first
      | (refine wpList_store_row rfl 29 (.tmp 2) (.tmp 21) rfl w.heap.size _ rfl rfl 29 _ HXW.out info29 rfl (one3 _ _ _ _ _) ?_)
      | fail)
    exact bodyPost_ret (results_pair Try.results12 _ _ w.heap.size 29 _ _ _ rfl (HXW.out.row _ _ _) Try.underlying29 info29) rfl (told_err HE.out H2.out (below_row HBW.out (Nat.le_refl _) _) rfl)
  · have hf0 : flt false l = 0 := by omega
    have HF := Lib.hid hf0
    have h2f : ¬ flt false l ≠ 0 := by omega
    have H3 := Lib.hid (errS_3 h0 h1 h2f)
    have H4 := Lib.hid (errS_4 h0 h1 h2f)
    clear h2 hf hf0 h2f h0
    go_enter Try.func12, Try.ntmps12
    go_wp2_with fail
    refine (pFault_any false l hl _).mono ?_
    rintro e w' ⟨rfl, p, rfl⟩
    rw [HF.out]
    have hbW : Below w.heap.size w ((w.alloc nilPath).iter (str l) p) := HB1.out.alloc HB1.out.size (.stringIter (str l) p)
    have hxW : Bx ((w.alloc nilPath).iter (str l) p) w.heap.size 29 false (.slice none 0 0) false := HX1.out.of (Below.heap_alloc _ (.stringIter (str l) p) _ HX1.out.lt)
    generalize (w.alloc nilPath).iter (str l) p = W at hbW hxW ⊢
    have HBW := Lib.hid hbW
    have HXW := Lib.hid hxW
    clear hbW hxW
    go_wp2_with fail
    refine (parted_any l hl _).mono ?_
    rintro e w3 ⟨v, rfl, hown, hb3⟩
    have hbelow : Below w.heap.size w w3 := HBW.out.trans (hb3.mono HBW.out.size)
    have hx3 := HXW.out.of (hb3.block w.heap.size HXW.out.lt)
    obtain ⟨sp, n, cap, rfl⟩ : ∃ sp n cap, v = .slice sp n cap := by
      rcases hown.2 with ⟨h, _⟩ | ⟨g, cap, cur, h, _⟩ <;> exact ⟨_, _, _, h⟩
    have HO := Lib.hid (Own.base hown HBW.out.size)
    have HB3 := Lib.hid hbelow
    have HX3 := Lib.hid hx3
    clear hown hb3 hbelow hx3 HBW HXW
    go_wp2_with fail
    have hbW : Below w.heap.size w (w3.alloc (.cells #[.bool (absL l), .slice sp n cap, .bool (slL l)] 29)) := HB3.out.alloc HB3.out.size _
    have hxW := HX3.out.of (Below.heap_alloc w3 (.cells #[.bool (absL l), .slice sp n cap, .bool (slL l)] 29) _ HX3.out.lt)
    have hyW : Bx (w3.alloc (.cells #[.bool (absL l), .slice sp n cap, .bool (slL l)] 29)) w3.heap.size 29 (absL l) (.slice sp n cap) (slL l) := heap_alloc_new _ _
    have hoW : Own (w3.alloc (.cells #[.bool (absL l), .slice sp n cap, .bool (slL l)] 29)) w.heap.size (.slice sp n cap) (parts l) := HO.out.alloc _
    generalize (w3.alloc (.cells #[.bool (absL l), .slice sp n cap, .bool (slL l)] 29)) = W4 at hbW hxW hyW hoW ⊢
    clear HO HB3 HX3 HB1 HX1
    obtain ⟨P, hP⟩ : ∃ P, parts l = P := ⟨_, rfl⟩
    rw [hP] at hoW
    have hn : n = P.length := by rcases hoW.2 with ⟨h, h2⟩ | ⟨_, _, _, h, _⟩ <;> simp at h <;> omega
    subst hn
    have hPl : P.length < 1000000 := by have := parts_len l; rw [hP] at this; omega
    have HP := Lib.hid hP
    have HBW := Lib.hid hbW
    have HXW := Lib.hid hxW
    have HYW := Lib.hid hyW
    have HOW := Lib.hid hoW
    clear hP hbW hxW hyW hoW
    go_loop [28] (fun i => ∃ k : Nat, i = .int .i64 k ∧ k ≤ P.length ∧ Hid (∀ j, j < k → (P.getD j []).length ≤ 24)) (fun i => P.length - (intOf i).toNat)
    case atStart => exact ⟨0, rfl, by omega, Lib.hid (fun j h => absurd h (by omega))⟩
    case round =>
      obtain ⟨k, rfl, hk, HJ⟩ := hrel
      by_cases hlt : k < P.length
      · obtain ⟨g, rfl⟩ : ∃ g, sp = some ⟨g, 0, none⟩ := by
          rcases HOW.out.2 with ⟨h, h2⟩ | ⟨g, _, _, h, _⟩
          · omega
          · simp at h; exact ⟨g, h.1⟩
        have hc := own_txs HOW.out k hlt
        rw [Nat.zero_add] at hc
        have hcsz := str_size (P.getD k [])
        generalize hq : P.getD k [] = q at hc hcsz
        have HQ := Lib.hid hq
        clear hq
        go_wp2_with (first
          | (refine wpList_store_row rfl 29 (.tmp 2) (.tmp 35) rfl w.heap.size _ rfl rfl 29 _ HXW.out info29 rfl (one3 _ _ _ _ _) ?_)
          | fail)
        · rename_i hq24
          have hl1 : long (parts l) = true := by
            have h1 : 24 < (P.getD k []).length := by rw [HQ.out]; omega
            rw [HP.out]
            exact long_yes hlt h1
          exact bodyPost_ret (results_pair Try.results12 _ _ w.heap.size 29 _ _ _ rfl (HXW.out.row _ _ _) Try.underlying29 info29) rfl (told_err (H3.out hl1) (by decide) (below_row HBW.out (Nat.le_refl _) _) rfl)
        · have hq24 : (q.length : Int) ≤ 24 := by assumption
          have HJ2 : Hid (∀ j, j < k + 1 → (P.getD j []).length ≤ 24) := Lib.hid (fun j hj => by
            rcases (by omega : j < k ∨ j = k) with h | rfl
            · exact HJ.out j h
            · rw [HQ.out]; omega)
          go_round
          case rel => exact ⟨k + 1, by go_num, by omega, HJ2⟩
          case measure => simp [intOf]; omega
      · obtain rfl : k = P.length := by omega
        go_wp2_with (first
          | (refine wpList_load_row rfl 29 (.tmp 5) rfl w3.heap.size rfl 29 _ _ _ HYW.out Try.underlying29 rfl info29 ?_)
          | (refine wpList_store_row rfl 29 (.tmp 2) (.tmp 37) rfl w.heap.size _ rfl rfl 29 _ HXW.out info29 rfl (one3 _ _ _ _ _) ?_)
          | fail)
        have hl1 : ¬ long (parts l) = true := by rw [HP.out]; exact long_no HJ.out
        have he := H4.out hl1
        refine bodyPost_ret (results_pair Try.results12 _ _ w.heap.size 29 _ _ _ rfl (HXW.out.row _ _ _) Try.underlying29 info29) rfl ⟨below_row HBW.out (Nat.le_refl _) _, _, fun h => absurd he h, fun _ => ⟨rfl, ?_⟩⟩
        rw [HP.out]
        exact Own.row HOW.out HXW.out (by decide) _
end Go.Proofs.Ytchjioknobmegaa
