/- Entries: Put; one that is read. -/
import Derived.Test.YtlkhnmhhcagghaaEf
import Derived.Test.YtlkhnmhhcagghaaRdRest
namespace Go.Proofs.Ytlkhnmhhcagghaa
open Go.RowKit

attribute [local go_sem] Oper.semAt_some

theorem errC_len {n : List UInt8} (h : errC n = 0) : n.length ≤ 24 := by
  unfold errC at h
  split at h
  · rename_i h1; exact absurd h h1
  · split at h
    · cases h
    · split at h
      · cases h
      · omega
theorem follB_len {l : List Ent} {e : Ent} (h : follB l e = true) : e.n.length ≤ 24 ∧ l.length < 64 := by
  unfold follB at h
  simp only [Bool.and_eq_true, decide_eq_true_iff] at h
  exact ⟨errC_len h.1.2, h.1.1.1⟩
def areB (l : List Ent) : Bool := (List.range l.length).all (fun i => follB (l.take i) (l.getD i default))
def rowsB (l : List Ent) : List (BitVec 8) := l.flatMap rowB
theorem rowsB_snoc (l : List Ent) (e : Ent) : rowsB (l ++ [e]) = rowsB l ++ rowB e := by unfold rowsB; rw [List.flatMap_append]; simp
theorem rowB_len (e : Ent) : (rowB e).length = e.n.length + 4 := by unfold rowB; simp [nb_length, leb_length]
theorem rowsB_len : ∀ (l : List Ent), (∀ e ∈ l, e.n.length ≤ 24) → (rowsB l).length ≤ l.length * 28
  | [], _ => by simp [rowsB]
  | e :: l, h => by
    have ih := rowsB_len l (fun x hx => h x (by simp [hx]))
    have h1 := h e (by simp)
    unfold rowsB at *
    rw [List.flatMap_cons, List.length_append, rowB_len, List.length_cons]
    omega
theorem box_in (w : World) (cs : Array Value) (e : Ent) (_h : cs.size = 3) : Below w.heap.size w ((w.alloc (.cells cs 46)).setRow w.heap.size (ecells e).toArray) ∧ Blk ((w.alloc (.cells cs 46)).setRow w.heap.size (ecells e).toArray) w.heap.size (ecells e) 46 :=
  ⟨below_row ((Below.refl _ _).alloc (Nat.le_refl _) _) (Nat.le_refl _) _, blk_row (Blk.new' w cs cs.toList 46 _ rfl (by simp))⟩
def EbPost (w : World) (er : Nat) (l : List (BitVec 8)) (e : Ending) (w' : World) : Prop := ∃ v, e = .returned (.tuple #[v, .int .i64 (er : Int)]) ∧ OwnB w' w.heap.size v l ∧ Below w.heap.size w w'
set_option maxRecDepth 100000 in
set_option maxHeartbeats 8000000 in
theorem enPut_any (l : List Ent) (sp : Option Addr) (cap : Nat) (hc : l.length ≤ cap) (hl : l.length < 100000) (hn : ∀ e ∈ l, e.n.length < 1000000 ∧ e.OK) (w : World) (hs : SrcE w sp l) :
    Calls Try.prog 8 #[.slice sp l.length cap] w (EbPost w (if areB l = true then 0 else 5) (if areB l = true then rowsB l else [])) := by
  obtain ⟨N, hN⟩ : ∃ N, l.length = N := ⟨_, rfl⟩
  rw [hN] at hc hl ⊢
  have HN := Lib.hid hN; have HC := Lib.hid hc; have HS := Lib.hid hs; have HNM := Lib.hid hn; have HL := Lib.hid hl
  generalize hPost : EbPost w (if areB l = true then 0 else 5) (if areB l = true then rowsB l else []) = Post
  have HP : Hid (∀ v w', areB l = true → OwnB w' w.heap.size v (rowsB l) → Below w.heap.size w w' → Post (.returned (.tuple #[v, .int .i64 0])) w') := Lib.hid fun v w' h0 h1 h2 => by rw [← hPost, if_pos h0, if_pos h0]; exact ⟨v, rfl, h1, h2⟩
  have HPE : Hid (∀ w', areB l = false → Below w.heap.size w w' → Post (.returned (.tuple #[.slice none 0 0, .int .i64 5])) w') := Lib.hid fun w' h0 h2 => by rw [← hPost, if_neg (by rw [h0]; simp), if_neg (by rw [h0]; simp)]; exact ⟨_, rfl, World.ownsRow_nil _ _ _ _, h2⟩
  clear hN hc hs hn hl hPost
  go_enter Try.func8, Try.ntmps8
  go_upto_region 8 with fail
  go_loopg [4, 9] N (fun r s i wr => ∃ k : Nat, i = .int .i64 (k : Int) ∧ r + k = N ∧ (∀ j, j < k → follB (l.take j) (l.getD j default) = true) ∧ OwnB wr w.heap.size s (rowsB (l.take k)) ∧ Below w.heap.size w wr)
  case atStart => exact ⟨0, rfl, by omega, fun j hj => by omega, World.ownsRow_nil _ _ _ _, Below.refl _ _⟩
  case round =>
    obtain ⟨k, rfl, hgk, hall, hown, hbw⟩ := hrel
    obtain ⟨spo, capo, e4, hco, -, hso, hzo, -⟩ := hown.form
    subst e4
    have HOWN := Lib.hid hown; have HBW := Lib.hid hbw; have HALL := Lib.hid hall
    clear hbw hco hown hall hso hzo
    have wk1 := IntWalk.i64_in ((k : Int) + 1) (by have := HL.out; omega)
    by_cases hlt : k < N
    · have hlt' : (k : Int) < (N : Int) := by omega
      obtain ⟨e, he⟩ : ∃ e, l[k]? = some e := ⟨_, List.getElem?_eq_getElem (by have := HN.out; omega)⟩
      have hnm := HNM.out e (List.mem_of_getElem? he)
      have hsw := HS.out.grown HBW.out
      obtain ⟨g, o, rfl, hg, hr⟩ := hsw (by have := HN.out; omega)
      have HR := Lib.hid (hr k e he)
      have HKC : Hid (k < N ∧ N ≤ cap) := Lib.hid ⟨hlt, HC.out⟩
      have HKK : Hid (k ≤ cap) := Lib.hid (by have := HC.out; omega)
      have HGD : Hid (l.getD k default = e) := Lib.hid (by rw [List.getD_eq_getElem?_getD, he]; rfl)
      have HTK : Hid (l.take (k + 1) = l.take k ++ [e]) := Lib.hid (take_snocE he)
      have HNE := Lib.hid hnm
      have hbx := box_in wr #[.string ⟨#[]⟩, .int .u16 0, .int .u8 0] e rfl
      have HNLT := Lib.hid hnm
      clear he hg hr hnm hsw
      go_upto_region 5 with (first | (refine e_val rfl (ex_iaE rfl rfl rfl HKC.out) ?_) | (refine e_val rfl (ex_ldE HR.out rfl rfl) ?_) | (refine wpList_store_row rfl 46 (.tmp 6) (.tmp 13) rfl wr.heap.size (ecells e).toArray rfl rfl 46 _ (heap_alloc_new wr _) (sizeEc e) rfl (all_ec e) ?_) | fail)
      obtain ⟨W2, hW2⟩ : ∃ W, (wr.alloc (.cells #[.string ⟨#[]⟩, .int .u16 0, .int .u8 0] 46)).setRow wr.heap.size (ecells e).toArray = W := ⟨_, rfl⟩
      obtain ⟨g6, hg6⟩ : ∃ g, wr.heap.size = g := ⟨_, rfl⟩
      rw [hg6] at hW2 hbx ⊢
      rw [hW2] at hbx ⊢
      obtain ⟨hb2, hk2⟩ := hbx
      have hk2d : Blk W2.drew g6 (ecells e) 46 := hk2
      have hbw2 : Below w.heap.size w W2 := HBW.out.trans (hb2.mono (by have := HBW.out.size; omega))
      have HR6 : Hid (W2.drew.rangeAt g6 0 (ecells e)) := Lib.hid (fun j v hv => by rw [Nat.zero_add]; exact hk2d.cell hv)
      have hsw2 : SrcE W2.drew (some ⟨g, o, none⟩) l := (HS.out.grown hbw2).drew
      have hfo0 := enFollows_any (l.take k) e (some ⟨g, o, none⟩) cap (by rw [List.length_take]; have := HKK.out; omega) (by rw [List.length_take]; have := HN.out; have := HL.out; omega) HNE.out.1 W2.drew (hsw2.take k)
      rw [show (l.take k).length = k by rw [List.length_take, HN.out]; omega] at hfo0
      have HFO := Lib.hid hfo0
      have HR7 : Hid (∀ X, Below W2.drew.heap.size W2.drew X → X.rangeAt g6 0 (ecells e)) := Lib.hid (fun X hX j v hv => by rw [Nat.zero_add]; exact (hk2d.below hX hk2d.lt).cell hv)
      have HB2 := Lib.hid hb2; have HBW2 := Lib.hid hbw2; have HG6 := Lib.hid hg6
      clear hb2 hk2 hk2d hbw2 hsw2 hfo0 hW2 hg6
      refine wp_region_sched ((.take 0 (.take 1 (.take 2 (.take 3 (.step 4 (.take 5 (.nil)))))))) (by kernel_rfl) (by kernel_rfl) (fun d _ _ _ _ h => by cases d <;> exact h) (fun X => X.rangeAt g6 0 (ecells e)) (HR6.out) ?_
      refine wpG_take _ (.slice (some ⟨g, o, none⟩) N cap) rfl (by rfl) (fun X hX => by first | rfl | go_simp) ?_
      (try simp only [Act.put, List.setIfInBounds_toArray, List.set_cons_zero, List.set_cons_succ])
      refine wpG_take _ (.int .i64 (k : Int)) rfl (by rfl) (fun X hX => by first | rfl | go_simp) ?_
      (try simp only [Act.put, List.setIfInBounds_toArray, List.set_cons_zero, List.set_cons_succ])
      refine wpG_take _ (.slice (some ⟨g, o, none⟩) k cap) rfl (by rfl) (fun X hX => ex_toE HKK.out rfl rfl rfl) ?_
      (try simp only [Act.put, List.setIfInBounds_toArray, List.set_cons_zero, List.set_cons_succ])
      refine wpG_take _ (.agg (ecells e).toArray) rfl (by rfl) (fun X hX => ex_ldE hX rfl rfl) ?_
      (try simp only [Act.put, List.setIfInBounds_toArray, List.set_cons_zero, List.set_cons_succ])
      refine wpG_call _ rfl (by rfl) 20 (#[.slice (some ⟨g, o, none⟩) k cap, .agg (ecells e).toArray]) (fun X => by first | rfl | go_simp) (fun v W3 => v = .bool (follB (l.take k) e) ∧ Below W2.drew.heap.size W2.drew W3) (HFO.out.mono fun x w' ⟨h1, h2⟩ => ⟨_, h1, HR7.out w' h2, rfl, h2⟩) ?_
      rintro v W3 h3 ⟨rfl, hb3⟩
      replace hb3 : Below W2.heap.size W2 W3 := (Below.refl _ _).drew.trans hb3
      refine ⟨fun X => X.rangeAt g6 0 (ecells e), fun _ h => h, h3, ?_⟩
      cases hfo : follB (l.take k) e
      · have hno : areB l = false := by
          unfold areB
          rw [List.all_eq_false]
          exact ⟨k, List.mem_range.2 (by rw [HN.out]; exact hlt), by rw [HGD.out, hfo]; simp⟩
        have HQ := Lib.hid (HPE.out W3 hno (HBW2.out.trans (hb3.mono HBW2.out.size)))
        clear hfo hno h3 hb3
        refine wpG_take _ (.bool true) rfl (by rfl) (fun X hX => by first | rfl | go_simp) ?_
        (try simp only [Act.put, List.setIfInBounds_toArray, List.set_cons_zero, List.set_cons_succ])
        refine wpG_nil ?_
        go_wp2_with fail
        first | exact HQ.out | (go_ret2; exact HQ.out)
      · have hln := (follB_len hfo).1
        have hk64 := (follB_len hfo).2
        rw [List.length_take, HN.out] at hk64
        have HALL2 : Hid (∀ j, j < k + 1 → follB (l.take j) (l.getD j default) = true) := Lib.hid (fun j hj => by
          rcases Nat.lt_succ_iff_lt_or_eq.1 hj with h | rfl
          · exact HALL.out j h
          · rw [HGD.out]; exact hfo)
        have hrl : (rowsB (l.take k)).length ≤ k * 28 := by
          have h1 := rowsB_len (l.take k) (fun x hx => by
            obtain ⟨j, hj, rfl⟩ := List.mem_take_iff_getElem.1 hx
            have hj2 : j < l.length := by omega
            have := (follB_len (HALL.out j (by omega))).1
            rw [List.getD_eq_getElem?_getD, List.getElem?_eq_getElem hj2] at this
            exact this)
          rw [List.length_take, HN.out] at h1
          omega
        have HB3 : Hid (Below w.heap.size w W3) := Lib.hid (HBW2.out.trans (hb3.mono HBW2.out.size))
        have hrow := enRow_any e HNE.out.2 (by omega) W3
        have HROW := Lib.hid hrow
        have HO3 : Hid (OwnB W3 w.heap.size (.slice spo (rowsB (l.take k)).length capo) (rowsB (l.take k))) := Lib.hid ((HOWN.out.below HB2.out (by have := HG6.out; omega)).below hb3 (Nat.le_refl _))
        have H3 := Lib.hid h3
        have HSZ : Hid ((rowsB (l.take k)).length + (rowB e).length < 1000000) := Lib.hid (by rw [rowB_len]; omega)
        clear hfo h3 hb3 hln hk64 hrl hrow
        refine wpG_take _ (.bool false) rfl (by rfl) (fun X hX => by first | rfl | go_simp) ?_
        (try simp only [Act.put, List.setIfInBounds_toArray, List.set_cons_zero, List.set_cons_succ])
        refine wpG_nil ?_
        go_wp2_with (first | (refine e_val rfl (ex_ldE H3.out rfl rfl) ?_) | fail)
        refine HROW.out.mono ?_
        rintro x W4 ⟨v, rfl, hov, hb4⟩
        obtain ⟨spv, capv, rfl, hcv, -, hsv, hzv, -⟩ := hov.form
        obtain ⟨v5, w5, hr5, ho5, hg5⟩ := ownB_more (HO3.out.below hb4 (Nat.le_refl _)) (Nat.le_trans HB3.out.size hb4.size) HSZ.out hsv hzv 23
        have hb5 := ownB_bel (HO3.out.below hb4 (Nat.le_refl _)) (HB3.out.trans (hb4.mono HB3.out.size)) hg5 (Nat.le_trans HB3.out.size hb4.size)
        rw [← rowsB_snoc, ← HTK.out] at ho5
        obtain ⟨sp5, cap5, rfl, -⟩ := ho5.form
        have HR5 := Lib.hid hr5; have HO5 := Lib.hid ho5; have HB5 := Lib.hid hb5
        clear hov hb4 hcv hsv hzv hr5 ho5 hg5 hb5
        go_wp2_with (first | (at_builtin; refine e_val rfl (ex_appB rfl rfl rfl HR5.out) ?_) | fail)
        go_roundg (N - (k + 1))
        case measure => omega
        case rel => exact ⟨k + 1, by go_num, by omega, HALL2.out, HO5.out, HB5.out⟩
    · obtain rfl : N = k := by omega
      have hlt' : ¬ (N : Int) < (N : Int) := by omega
      have htk : l.take N = l := by rw [← HN.out, List.take_length]
      have hyes : areB l = true := by
        unfold areB
        rw [List.all_eq_true]
        intro i hi
        rw [List.mem_range, HN.out] at hi
        exact HALL.out i hi
      have HQ := Lib.hid (HP.out (.slice spo (rowsB (l.take N)).length capo) wr hyes (by have := HOWN.out; rw [htk] at this ⊢; exact this) HBW.out)
      clear htk hyes
      go_wp2_with fail
      first | exact HQ.out | (go_ret2; exact HQ.out)
end Go.Proofs.Ytlkhnmhhcagghaa
