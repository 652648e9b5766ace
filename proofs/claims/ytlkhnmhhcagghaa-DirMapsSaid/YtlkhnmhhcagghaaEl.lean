/- Entries: the document's Drop, Add. -/
import Derived.Test.YtlkhnmhhcagghaaEk
import Derived.Deep.DeepCutAuto
namespace Go.Proofs.Ytlkhnmhhcagghaa
open Go.RowKit

attribute [local go_sem] Oper.semAt_some

def RnPost (w : World) (er : Nat) (l : List Ent) (e : Ending) (w' : World) : Prop := ∃ v, e = .returned (.tuple #[v, .int .i64 (er : Int)]) ∧ OwnR w' w.heap.size v l ∧ Below w.heap.size w w'
theorem ownR_bel {w wr w' : World} {B : Nat} {v : Value} {l : List Ent} (ho : OwnR wr B v l) (hb : Below B w wr) (hg : wr.grownBy w' v.ownBlock) (hB : B ≤ wr.heap.size) : Below B w w' :=
  hb.trans (((Chg.refl (fun g => v.ownBlock = some g) wr).grown hg (fun k e => .inl e)).below (fun k hk => (ho.lt k hk).1) hB)
theorem box_inR (w : World) (cs : Array Value) (e : Ent) (_h : cs.size = 3) : Below w.heap.size w ((w.alloc (.cells cs 41)).setRow w.heap.size (ecells e).toArray) ∧ Blk ((w.alloc (.cells cs 41)).setRow w.heap.size (ecells e).toArray) w.heap.size (ecells e) 41 :=
  ⟨below_row ((Below.refl _ _).alloc (Nat.le_refl _) _) (Nat.le_refl _) _, blk_row (Blk.new' w cs cs.toList 41 _ rfl (by simp))⟩
def keepL (n : List UInt8) (l : List Ent) : List Ent := l.filter (fun e => !eqB n e)
theorem find_isSome (n : List UInt8) (l : List Ent) : (findP n l).isSome = decide (l.findIdx? (eqB n) ≠ none) := by
  cases h : l.findIdx? (eqB n) with
  | none => rw [place_none h]; simp
  | some k => obtain ⟨e, -, h2, -⟩ := place_some h; rw [h2]; simp
set_option maxRecDepth 100000 in
set_option maxHeartbeats 8000000 in
theorem renDrop_any (l : List Ent) (n : List UInt8) (sp : Option Addr) (cap : Nat) (hc : l.length ≤ cap) (hl : l.length < 50000) (w : World) (hs : SrcE w sp l) :
    Calls Try.prog 15 #[.slice sp l.length cap, .string (str n)] w (RnPost w (dropE n l) (if dropE n l = 0 then keepL n l else [])) := by
  have hcl := renFind_any l n sp cap hc (by omega) w hs
  have HCL := Lib.hid hcl; have HS := Lib.hid hs; have HL := Lib.hid hl
  obtain ⟨N, hN⟩ : ∃ N, l.length = N := ⟨_, rfl⟩
  rw [hN] at hc HCL HL ⊢
  have HN := Lib.hid hN; have HC := Lib.hid hc
  generalize hPost : RnPost w (dropE n l) (if dropE n l = 0 then keepL n l else []) = Post
  have HPE : Hid (∀ w', dropE n l = 20 → Below w.heap.size w w' → Post (.returned (.tuple #[.slice none 0 0, .int .i64 20])) w') := Lib.hid fun w' h0 h2 => by rw [← hPost, h0]; exact ⟨_, rfl, OwnR.nil _ _, h2⟩
  have HP : Hid (∀ v w', dropE n l = 0 → OwnR w' w.heap.size v (keepL n l) → Below w.heap.size w w' → Post (.returned (.tuple #[v, .int .i64 0])) w') := Lib.hid fun v w' h0 h1 h2 => by rw [← hPost, h0]; exact ⟨v, rfl, h1, h2⟩
  clear hcl hs hc hl hN hPost
  obtain ⟨F, hF⟩ : ∃ F, (findP n l).getD zeroEnt = F := ⟨_, rfl⟩
  rw [hF] at HCL
  go_enter Try.func15, Try.ntmps15
  go_upto_region 1 with fail
  go_wp2_with fail
  refine HCL.out.mono ?_
  rintro e W2 ⟨rfl, hb2⟩
  have hbx := box_inR W2 #[.string ⟨#[]⟩, .int .u16 0, .int .u8 0] F rfl
  have HB2 := Lib.hid hb2
  have HBX := Lib.hid hbx
  clear hb2 hbx hF
  go_upto_region 2 with (first | (refine wpList_store_row rfl 41 (.tmp 6) (.tmp 14) rfl W2.heap.size (ecells F).toArray rfl rfl 41 _ (heap_alloc_new W2 _) (sizeRc F) rfl (all_ec F) ?_) | fail)
  obtain ⟨W3, hW3⟩ : ∃ W, (W2.alloc (.cells #[.string ⟨#[]⟩, .int .u16 0, .int .u8 0] 41)).setRow W2.heap.size (ecells F).toArray = W := ⟨_, rfl⟩
  obtain ⟨hbx1, -⟩ := HBX.out
  rw [hW3] at hbx1 ⊢
  have HB3 : Hid (Below w.heap.size w W3) := Lib.hid (HB2.out.trans (hbx1.mono HB2.out.size))
  clear hbx1 hW3 HBX
  rw [find_isSome]
  by_cases hf : l.findIdx? (eqB n) = none
  · rw [decide_eq_false (by rw [hf]; simp)]
    have HQ := Lib.hid (HPE.out W3 (by unfold dropE; rw [if_pos hf]) HB3.out)
    clear hf
    go_wp2_with fail
    first | exact HQ.out | (go_ret2; exact HQ.out)
  · rw [decide_eq_true hf]
    have HD0 : Hid (dropE n l = 0) := Lib.hid (by unfold dropE; rw [if_neg hf])
    clear hf
    go_upto_region 7 with fail
    go_loopg [8, 9] N (fun r s i wr => ∃ k : Nat, i = .int .i64 (k : Int) ∧ r + k = N ∧ OwnR wr w.heap.size s (keepL n (l.take k)) ∧ Below w.heap.size w wr)
    case atStart => exact ⟨0, rfl, by omega, OwnR.nil _ _, HB3.out⟩
    case round =>
      obtain ⟨k, rfl, hgk, hown, hbw⟩ := hrel
      obtain ⟨spo, capo, e4, -⟩ := hown.form
      subst e4
      have HOWN := Lib.hid hown; have HBW := Lib.hid hbw
      clear hbw hown
      have hsn := str_toList n
      have wk1 := IntWalk.i64_in ((k : Int) + 1) (by have := HL.out; omega)
      by_cases hlt : k < N
      · have hlt' : (k : Int) < (N : Int) := by omega
        obtain ⟨e, he⟩ : ∃ e, l[k]? = some e := ⟨_, List.getElem?_eq_getElem (by have := HN.out; omega)⟩
        obtain ⟨g, o, rfl, hg, hr⟩ := (HS.out.grown HBW.out) (by have := HN.out; omega)
        have HR := Lib.hid (hr k e he)
        have f0 : wr.cell? ⟨g, o + k * 3, none⟩ = some (.string (str e.n)) := hr k e he 0 _ rfl
        have hse := str_toList e.n
        have HKC : Hid (k < N ∧ N ≤ cap) := Lib.hid ⟨hlt, HC.out⟩
        have HTK : Hid (l.take (k + 1) = l.take k ++ [e]) := Lib.hid (take_snocE he)
        have HLE : Hid ((keepL n (l.take k)).length ≤ k) := Lib.hid (by
          have h1 := List.length_filter_le (fun e => !eqB n e) (l.take k)
          rw [List.length_take] at h1
          unfold keepL; omega)
        clear he hg hr
        cases hp : eqB n e
        · have z1 : (e.n == n) = false := hp
          have hb7 : Below wr.heap.size wr (wr.alloc (.cells (ecells e).toArray 41)) := (Below.refl _ _).alloc (Nat.le_refl _) _
          have hk7 : Blk (wr.alloc (.cells (ecells e).toArray 41)) wr.heap.size (ecells e) 41 := Blk.new' _ _ _ _ _ rfl rfl
          have hbw7 : Below w.heap.size w (wr.alloc (.cells (ecells e).toArray 41)) := HBW.out.alloc HBW.out.size _
          obtain ⟨v8, w8, hr8, ho8, hg8, hn8⟩ := ownR_app (HOWN.out.below hb7 (Nat.le_refl _)) hbw7.size (by have := HLE.out; have := HL.out; omega) hk7 22
          have hb8 := ownR_bel (HOWN.out.below hb7 (Nat.le_refl _)) hbw7 hg8 hbw7.size
          have hkeep : keepL n (l.take (k + 1)) = keepL n (l.take k) ++ [e] := by rw [HTK.out]; unfold keepL; rw [List.filter_append]; simp [hp]
          rw [← hkeep] at ho8
          obtain ⟨sp8, cap8, rfl, -⟩ := ho8.form
          have HR8 := Lib.hid hr8; have HO8 := Lib.hid ho8; have HB8 := Lib.hid hb8
          clear hp hb7 hk7 hbw7 hr8 ho8 hg8 hn8 hb8 hkeep
          go_wp2_with (first | (refine e_val rfl (ex_iaR rfl rfl rfl HKC.out) ?_) | (refine e_val rfl (ex_ldR HR.out rfl rfl) ?_) | (refine e_val rfl (ex_oneR rfl rfl) ?_) | (at_builtin; refine e_val rfl (ex_appR rfl rfl rfl HR8.out) ?_) | fail)
          go_roundg (N - (k + 1))
          case measure => omega
          case rel => exact ⟨k + 1, by go_num, by omega, HO8.out, HB8.out⟩
        · have z1 : (e.n == n) = true := hp
          have hkeep : keepL n (l.take (k + 1)) = keepL n (l.take k) := by rw [HTK.out]; unfold keepL; rw [List.filter_append]; simp [hp]
          have HO8 : Hid (OwnR wr w.heap.size (.slice spo (keepL n (l.take k)).length capo) (keepL n (l.take (k + 1)))) := Lib.hid (by rw [hkeep]; exact HOWN.out)
          clear hp hkeep
          go_wp2_with (first | (refine e_val rfl (ex_iaR rfl rfl rfl HKC.out) ?_) | fail)
          go_roundg (N - (k + 1))
          case measure => omega
          case rel => exact ⟨k + 1, by go_num, by omega, HO8.out, HBW.out⟩
      · obtain rfl : N = k := by omega
        have hlt' : ¬ (N : Int) < (N : Int) := by omega
        have htk : l.take N = l := by rw [← HN.out, List.take_length]
        have HQ := Lib.hid (HP.out (.slice spo (keepL n (l.take N)).length capo) wr HD0.out (by have := HOWN.out; rw [htk] at this ⊢; exact this) HBW.out)
        clear htk
        go_wp2_with fail
        first | exact HQ.out | (go_ret2; exact HQ.out)
theorem gtB_lt (n : List UInt8) (e : Ent) : gtB n e = ltN n e.n := by
  unfold gtB
  cases h1 : ltN n e.n with
  | true => rw [ltN_asym h1]; simp; intro h2; rw [h2, ltN_irr] at h1; cases h1
  | false =>
    cases h2 : ltN e.n n with
    | true => rfl
    | false =>
      by_cases h3 : e.n = n
      · rw [h3]; simp
      · have := ltN_tri h2 h3
        rw [h1] at this; cases this
/-- So far, and the new one in its place. -/
def insK (l : List Ent) (e : Ent) (i k : Nat) : List Ent := if i < k then l.take i ++ e :: (l.take k).drop i else l.take k
theorem insK_step {l : List Ent} {e x : Ent} {i k : Nat} (hx : l[k]? = some x) (hik : i ≠ k) : insK l e i (k + 1) = insK l e i k ++ [x] := by
  have hk := (List.getElem?_eq_some_iff.1 hx).1
  unfold insK
  rw [take_snocE hx]
  by_cases h : i < k
  · rw [if_pos (by omega), if_pos h, List.drop_append_of_le_length (by rw [List.length_take]; omega)]
    simp
  · rw [if_neg (by omega), if_neg h]
theorem insK_at {l : List Ent} {e x : Ent} {k : Nat} (hx : l[k]? = some x) : insK l e k (k + 1) = (insK l e k k ++ [e]) ++ [x] := by
  have hk := (List.getElem?_eq_some_iff.1 hx).1
  unfold insK
  rw [if_pos (by omega), if_neg (by omega), take_snocE hx, List.drop_append_of_le_length (by rw [List.length_take]; omega)]
  simp
theorem insK_len (l : List Ent) (e : Ent) (i k : Nat) : (insK l e i k).length ≤ k + 1 := by
  unfold insK
  split
  · simp; omega
  · simp; omega
theorem addI_le (l : List Ent) (e : Ent) : addI l e ≤ l.length := by
  unfold addI
  cases hf : l.findIdx? (gtB e.n) with
  | none => simp
  | some j => obtain ⟨hj, -⟩ := List.findIdx?_eq_some_iff_getElem.1 hf; simp; omega
theorem addI_at {l : List Ent} {e x : Ent} (hx : l[addI l e]? = some x) : gtB e.n x = true := by
  unfold addI at hx
  cases hf : l.findIdx? (gtB e.n) with
  | none => rw [hf] at hx; simp at hx
  | some j =>
    obtain ⟨hj, h1, -⟩ := List.findIdx?_eq_some_iff_getElem.1 hf
    rw [hf] at hx
    simp only [Option.getD_some] at hx
    rw [List.getElem?_eq_getElem hj] at hx
    cases hx
    exact h1
theorem addI_lt {l : List Ent} {e x : Ent} {k : Nat} (hx : l[k]? = some x) (hk : k < addI l e) : gtB e.n x = false := by
  obtain ⟨hk2, rfl⟩ := List.getElem?_eq_some_iff.1 hx
  unfold addI at hk
  cases hf : l.findIdx? (gtB e.n) with
  | none => simpa using List.findIdx?_eq_none_iff.1 hf l[k] (List.getElem_mem hk2)
  | some j =>
    obtain ⟨hj, -, h2⟩ := List.findIdx?_eq_some_iff_getElem.1 hf
    rw [hf] at hk
    simpa using h2 k hk
theorem mayE_ne {l : List Ent} {e : Ent} (h : mayE e ≠ 0) : addE l e = mayE e := by
  unfold mayE addE at *
  by_cases h1 : errC e.n = 0
  · simp only [h1, ne_eq, not_true_eq_false, if_false] at h ⊢
    cases hw : whoB e with
    | true => rw [hw] at h; exact absurd rfl h
    | false => rfl
  · rw [if_pos h1, if_pos h1]
theorem mayE_0 {l : List Ent} {e : Ent} (h : mayE e = 0) : addE l e = if l.findIdx? (eqB e.n) ≠ none then 23 else if 64 ≤ l.length then 32 else 0 := by
  unfold mayE addE at *
  by_cases h1 : errC e.n = 0
  · simp only [h1, ne_eq, not_true_eq_false, if_false] at h ⊢
    cases hw : whoB e with
    | true => rfl
    | false => rw [hw] at h; cases h
  · rw [if_pos h1] at h; exact absurd h h1
theorem ownR_push {W0 W : World} {v : Value} {A : List Ent} (ho : OwnR W W0.heap.size v A) (hb : Below W0.heap.size W0 W) (hl : A.length + 1 < 1000000) (x : Ent) :
    ∃ sp n cap w', (Builtin.append_ #[22, 22] 22 #[v, .slice (some ⟨W.heap.size, 0, none⟩) 1 1]).run Try.prog (W.alloc (.cells (ecells x).toArray 41)) = .ok (.slice sp n cap) w' ∧ OwnR w' W0.heap.size (.slice sp n cap) (A ++ [x]) ∧ Below W0.heap.size W0 w' := by
  have hb7 : Below W.heap.size W (W.alloc (.cells (ecells x).toArray 41)) := (Below.refl _ _).alloc (Nat.le_refl _) _
  have hk7 : Blk (W.alloc (.cells (ecells x).toArray 41)) W.heap.size (ecells x) 41 := Blk.new' _ _ _ _ _ rfl rfl
  have hbw7 : Below W0.heap.size W0 (W.alloc (.cells (ecells x).toArray 41)) := hb.alloc hb.size _
  obtain ⟨v8, w8, hr8, ho8, hg8, hn8⟩ := ownR_app (ho.below hb7 (Nat.le_refl _)) hbw7.size hl hk7 22
  have hb8 := ownR_bel (ho.below hb7 (Nat.le_refl _)) hbw7 hg8 hbw7.size
  obtain ⟨sp8, cap8, rfl, -⟩ := ho8.form
  exact ⟨sp8, _, cap8, w8, hr8, ho8, hb8⟩
set_option maxRecDepth 100000 in
set_option maxHeartbeats 16000000 in
theorem renAdd_any (l : List Ent) (e : Ent) (sp : Option Addr) (cap : Nat) (hc : l.length ≤ cap) (hl : l.length < 50000) (hn : e.n.length < 1000000) (w : World) (hs : SrcE w sp l) :
    Calls Try.prog 19 #[.slice sp l.length cap, .agg (ecells e).toArray] w (RnPost w (addE l e) (addL l e)) := by
  have hb1 : Below w.heap.size w (w.alloc (.cells (ecells e).toArray 41)) := (Below.refl _ _).alloc (Nat.le_refl _) _
  have hk1 : Blk (w.alloc (.cells (ecells e).toArray 41)) w.heap.size (ecells e) 41 := Blk.new' _ _ _ _ _ rfl rfl
  obtain ⟨W1, hW1⟩ : ∃ W, w.alloc (.cells (ecells e).toArray 41) = W := ⟨_, rfl⟩
  obtain ⟨g3, hg3⟩ : ∃ g, w.heap.size = g := ⟨_, rfl⟩
  rw [hW1] at hb1 hk1
  rw [hg3] at hk1
  have HS := Lib.hid hs; have HL := Lib.hid hl; have HNM := Lib.hid hn; have HB1 := Lib.hid hb1; have HK1 := Lib.hid hk1; have HW1 := Lib.hid hW1; have HG := Lib.hid hg3
  obtain ⟨N, hN⟩ : ∃ N, l.length = N := ⟨_, rfl⟩
  rw [hN] at hc HL ⊢
  have HN := Lib.hid hN; have HC := Lib.hid hc
  generalize hPost : RnPost w (addE l e) (addL l e) = Post
  have HP : Hid (∀ v w', addE l e = 0 → OwnR w' w.heap.size v (addL l e) → Below w.heap.size w w' → Post (.returned (.tuple #[v, .int .i64 0])) w') := Lib.hid fun v w' h0 h1 h2 => by rw [← hPost, h0]; exact ⟨v, rfl, h1, h2⟩
  have HPE : Hid (∀ (er : Nat) w', er = addE l e → er ≠ 0 → Below w.heap.size w w' → Post (.returned (.tuple #[.slice none 0 0, .int .i64 (er : Int)])) w') := Lib.hid fun er w' h0 h1 h2 => by
    rw [← hPost, ← h0]
    exact ⟨_, rfl, by unfold addL; rw [if_neg (by rw [← h0]; exact h1)]; exact OwnR.nil _ _, h2⟩
  clear hs hc hl hn hN hPost hb1 hk1 hW1 hg3
  go_enter Try.func19, Try.ntmps19
  go_upto_region 1 with fail
  rw [show w.alloc (.cells #[.string (str e.n), .int .u16 (e.u : Int), .int .u8 (e.k : Int)] 41) = W1 from HW1.out, HG.out]
  have c0 := HK1.out.cell (j := 0) rfl
  have c1 := HK1.out.cell (j := 1) rfl
  have c2 := HK1.out.cell (j := 2) rfl
  go_wp2_with fail
  refine (renMay_any e HNM.out W1).mono ?_
  rintro x W2 ⟨rfl, hb2⟩
  have HB2 : Hid (Below w.heap.size w W2) := Lib.hid (HB1.out.trans (hb2.mono HB1.out.size))
  have HK2 := Lib.hid (HK1.out.below hb2 HK1.out.lt)
  clear hb2 HK1 c0 c1 c2
  have c0 := HK2.out.cell (j := 0) rfl
  go_wp2_with fail
  have hcl := renFind_any l e.n sp cap (by rw [HN.out]; exact HC.out) (by have := HL.out; rw [HN.out]; omega) W2 (HS.out.grown HB2.out)
  rw [HN.out] at hcl
  refine hcl.mono ?_
  rintro x W3 ⟨rfl, hb3⟩
  obtain ⟨F, hF⟩ : ∃ F, (findP e.n l).getD zeroEnt = F := ⟨_, rfl⟩
  rw [hF]
  have HB3 : Hid (Below w.heap.size w W3) := Lib.hid (HB2.out.trans (hb3.mono HB2.out.size))
  have HK3 := Lib.hid (HK2.out.below hb3 HK2.out.lt)
  have HBX := Lib.hid (box_inR W3 #[.string ⟨#[]⟩, .int .u16 0, .int .u8 0] F rfl)
  clear hb3 hcl c0 hF HK2
  go_upto_region 3 with (first | (refine wpList_store_row rfl 41 (.tmp 7) (.tmp 19) rfl W3.heap.size (ecells F).toArray rfl rfl 41 _ (heap_alloc_new W3 _) (sizeRc F) rfl (all_ec F) ?_) | fail)
  obtain ⟨W4, hW4⟩ : ∃ W, (W3.alloc (.cells #[.string ⟨#[]⟩, .int .u16 0, .int .u8 0] 41)).setRow W3.heap.size (ecells F).toArray = W := ⟨_, rfl⟩
  obtain ⟨hbx1, -⟩ := HBX.out
  rw [hW4] at hbx1 ⊢
  have HB4 : Hid (Below w.heap.size w W4) := Lib.hid (HB3.out.trans (hbx1.mono HB3.out.size))
  have HK4 := Lib.hid (HK3.out.below hbx1 HK3.out.lt)
  clear hbx1 hW4 HBX HK3
  rw [find_isSome]
  by_cases h1 : mayE e = 0
  · have z1 : ((mayE e : Int) != 0) = false := by rw [h1]; rfl
    have HADD := Lib.hid (mayE_0 (l := l) h1)
    clear h1
    by_cases hf : l.findIdx? (eqB e.n) = none
    · rw [decide_eq_false (by rw [hf]; simp)]
      have hadd := HADD.out
      rw [if_neg (by rw [hf]; simp), HN.out] at hadd
      by_cases h64 : 64 ≤ N
      · have k0 : (64 : Int) ≤ (N : Int) := by omega
        have HQ := Lib.hid (HPE.out 32 W4 (by rw [hadd, if_pos h64]) (by decide) HB4.out)
        clear hf hadd h64
        go_wp2_with fail
        first | exact HQ.out | (go_ret2; exact HQ.out)
      · have k0 : ¬ (64 : Int) ≤ (N : Int) := by omega
        have HE0 : Hid (addE l e = 0) := Lib.hid (by rw [hadd, if_neg h64])
        clear hf hadd h64
        obtain ⟨i, hi⟩ : ∃ i, addI l e = i := ⟨_, rfl⟩
        have HI := Lib.hid hi
        have HIN : Hid (i ≤ N) := Lib.hid (by rw [← hi, ← HN.out]; exact addI_le l e)
        clear hi
        go_upto_region 13 with fail
        obtain ⟨B4, hB4⟩ : ∃ B, W4.heap.size = B := ⟨_, rfl⟩
        have HG4 : Hid (g3 < W4.heap.size) := Lib.hid HK4.out.lt
        have HHB : Hid (W4.heap.size = B4) := Lib.hid hB4
        clear hB4
        go_loopg [9, 10, 11] N (fun r s d j wr => ∃ k : Nat, j = .int .i64 (k : Int) ∧ d = .bool (decide (i < k)) ∧ r + k = N ∧ OwnR wr W4.heap.size s (insK l e i k) ∧ Below W4.heap.size W4 wr)
        case atStart => exact ⟨0, rfl, by rw [decide_eq_false (by omega)], by omega, by unfold insK; rw [if_neg (by omega)]; exact OwnR.nil _ _, Below.refl _ _⟩
        case round =>
          obtain ⟨k, rfl, rfl, hgk, hown, hbw⟩ := hrel
          obtain ⟨spo, capo, e4, -⟩ := hown.form
          obtain ⟨no, hno⟩ : ∃ n, (insK l e i k).length = n := ⟨_, rfl⟩
          rw [hno] at e4
          subst e4
          have HOWN := Lib.hid hown; have HBW := Lib.hid hbw
          have HLN : Hid ((insK l e i k).length ≤ k + 1) := Lib.hid (insK_len l e i k)
          clear hbw hown hno
          have wk1 := IntWalk.i64_in ((k : Int) + 1) (by have := HL.out; omega)
          by_cases hlt : k < N
          · have hlt' : (k : Int) < (N : Int) := by omega
            obtain ⟨x, hx⟩ : ∃ x, l[k]? = some x := ⟨_, List.getElem?_eq_getElem (by have := HN.out; omega)⟩
            have hs4 : SrcE W4 sp l := HS.out.grown HB4.out
            obtain ⟨g, o, rfl, hg, hr⟩ := hs4 (by have := HN.out; omega)
            have HHX := Lib.hid hx
            have HKC : Hid (k < N ∧ N ≤ cap) := Lib.hid ⟨hlt, HC.out⟩
            obtain ⟨lt, hltv⟩ : ∃ b, ltN e.n x.n = b := ⟨_, rfl⟩
            have HLT := Lib.hid hltv
            have HRX : Hid (∀ X, Below W4.heap.size W4 X → X.cell? ⟨g3, 0, none⟩ = some (.string (str e.n)) ∧ X.cell? ⟨g3, 1, none⟩ = some (.int .u16 (e.u : Int)) ∧ X.cell? ⟨g3, 2, none⟩ = some (.int .u8 (e.k : Int)) ∧ X.rangeAt g (o + k * 3) (ecells x)) := Lib.hid (fun X hX => by
              have hk := HK4.out.below hX HK4.out.lt
              exact ⟨hk.cell (j := 0) rfl, hk.cell (j := 1) rfl, hk.cell (j := 2) rfl, fun j v hv => by rw [hX.cell (p := ⟨g, o + k * 3 + j, none⟩) hg]; exact hr k x hx j v hv⟩)
            have HSX : Hid (wr.drew.cell? ⟨g3, 0, none⟩ = some (.string (str e.n)) ∧ wr.drew.rangeAt g (o + k * 3) (ecells x)) := Lib.hid ⟨(HRX.out _ HBW.out.drew).1, (HRX.out _ HBW.out.drew).2.2.2⟩
            have HCOND : Hid ((if i < k then false else lt) = decide (i = k)) := Lib.hid (by
              rcases Nat.lt_trichotomy i k with h | h | h
              · rw [if_pos h, decide_eq_false (by omega)]
              · rw [if_neg (by omega), decide_eq_true h, ← hltv, ← gtB_lt]
                exact addI_at (by rw [HI.out, h]; exact hx)
              · rw [if_neg (by omega), decide_eq_false (by omega), ← hltv, ← gtB_lt]
                exact addI_lt hx (by rw [HI.out]; exact h))
            clear hx hg hr hs4 hltv
            go_upto_region 14 with fail
            go_cut [10, 45] (fun d s wx => d = .bool (decide (i < k)) ∧ s = .bool (decide (i = k)) ∧ wr.drew = wx)
            case first =>
              have hcd := HCOND.out
              by_cases hik : i < k
              · rw [if_pos hik] at hcd
                rw [decide_eq_true hik]
                have HCD := Lib.hid hcd
                have HIK := Lib.hid hik
                clear hik hcd
                refine wp_region_sched ((.take 0 (.take 1 (.take 2 (.take 3 (.take 4 (.take 5 (.take 6 (.take 7 (.take 8 (.take 9 (.take 10 (.take 11 (.nil)))))))))))))) (by kernel_rfl) (by kernel_rfl) (fun d _ _ _ _ h => by cases d <;> exact h) (fun _ => True) (trivial) ?_
                refine wpG_take _ (.bool true) rfl (by rfl) (fun X hX => by first | rfl | go_simp) ?_
                (try simp only [Act.put, List.setIfInBounds_toArray, List.set_cons_zero, List.set_cons_succ])
                refine wpG_take _ (.bool false) rfl (by rfl) (fun X hX => by first | rfl | go_simp) ?_
                (try simp only [Act.put, List.setIfInBounds_toArray, List.set_cons_zero, List.set_cons_succ])
                refine wpG_take _ (.bool false) rfl (by rfl) (fun X hX => by first | rfl | go_simp) ?_
                (try simp only [Act.put, List.setIfInBounds_toArray, List.set_cons_zero, List.set_cons_succ])
                refine wpG_pass _ rfl (by rfl) ?_
                (try simp only [Act.put, List.setIfInBounds_toArray, List.set_cons_zero, List.set_cons_succ])
                refine wpG_pass _ rfl (by rfl) ?_
                (try simp only [Act.put, List.setIfInBounds_toArray, List.set_cons_zero, List.set_cons_succ])
                refine wpG_pass _ rfl (by rfl) ?_
                (try simp only [Act.put, List.setIfInBounds_toArray, List.set_cons_zero, List.set_cons_succ])
                refine wpG_pass _ rfl (by rfl) ?_
                (try simp only [Act.put, List.setIfInBounds_toArray, List.set_cons_zero, List.set_cons_succ])
                refine wpG_pass _ rfl (by rfl) ?_
                (try simp only [Act.put, List.setIfInBounds_toArray, List.set_cons_zero, List.set_cons_succ])
                refine wpG_pass _ rfl (by rfl) ?_
                (try simp only [Act.put, List.setIfInBounds_toArray, List.set_cons_zero, List.set_cons_succ])
                refine wpG_pass _ rfl (by rfl) ?_
                (try simp only [Act.put, List.setIfInBounds_toArray, List.set_cons_zero, List.set_cons_succ])
                refine wpG_pass _ rfl (by rfl) ?_
                (try simp only [Act.put, List.setIfInBounds_toArray, List.set_cons_zero, List.set_cons_succ])
                refine wpG_take _ (.bool false) rfl (by rfl) (fun X hX => by first | rfl | go_simp) ?_
                (try simp only [Act.put, List.setIfInBounds_toArray, List.set_cons_zero, List.set_cons_succ])
                refine wpG_nil ?_
                go_wp2_with fail
                go_meet
                exact ⟨by rw [decide_eq_true HIK.out], congrArg Value.bool HCD.out, rfl⟩
              · rw [if_neg hik] at hcd
                rw [decide_eq_false hik]
                have HCD := Lib.hid hcd
                have HIK := Lib.hid hik
                clear hik hcd
                refine wp_region_sched ((.take 0 (.take 1 (.take 2 (.take 3 (.take 4 (.take 5 (.take 6 (.take 7 (.take 8 (.take 9 (.take 10 (.take 11 (.nil)))))))))))))) (by kernel_rfl) (by kernel_rfl) (fun d _ _ _ _ h => by cases d <;> exact h) (fun X => X.cell? ⟨g3, 0, none⟩ = some (.string (str e.n)) ∧ X.rangeAt g (o + k * 3) (ecells x)) (HSX.out) ?_
                refine wpG_take _ (.bool false) rfl (by rfl) (fun X hX => by first | rfl | go_simp) ?_
                (try simp only [Act.put, List.setIfInBounds_toArray, List.set_cons_zero, List.set_cons_succ])
                refine wpG_take _ (.bool true) rfl (by rfl) (fun X hX => by first | rfl | go_simp) ?_
                (try simp only [Act.put, List.setIfInBounds_toArray, List.set_cons_zero, List.set_cons_succ])
                refine wpG_take _ (.bool true) rfl (by rfl) (fun X hX => by first | rfl | go_simp) ?_
                (try simp only [Act.put, List.setIfInBounds_toArray, List.set_cons_zero, List.set_cons_succ])
                refine wpG_take _ (.pointer (some ⟨g3, 0 + 0, none⟩)) rfl (by rfl) (fun X hX => ex_faR (by decide) rfl rfl) ?_
                (try simp only [Act.put, List.setIfInBounds_toArray, List.set_cons_zero, List.set_cons_succ])
                refine wpG_take _ (.string (str e.n)) rfl (by rfl) (fun X hX => ex_ldS rfl rfl hX.1) ?_
                (try simp only [Act.put, List.setIfInBounds_toArray, List.set_cons_zero, List.set_cons_succ])
                refine wpG_take _ (.slice (some ⟨g, o, none⟩) N cap) rfl (by rfl) (fun X hX => by first | rfl | go_simp) ?_
                (try simp only [Act.put, List.setIfInBounds_toArray, List.set_cons_zero, List.set_cons_succ])
                refine wpG_take _ (.int .i64 (k : Int)) rfl (by rfl) (fun X hX => by first | rfl | go_simp) ?_
                (try simp only [Act.put, List.setIfInBounds_toArray, List.set_cons_zero, List.set_cons_succ])
                refine wpG_take _ (.pointer (some ⟨g, o + k * 3, none⟩)) rfl (by rfl) (fun X hX => ex_iaR rfl rfl rfl HKC.out) ?_
                (try simp only [Act.put, List.setIfInBounds_toArray, List.set_cons_zero, List.set_cons_succ])
                refine wpG_take _ (.pointer (some ⟨g, o + k * 3 + 0, none⟩)) rfl (by rfl) (fun X hX => ex_faR (by decide) rfl rfl) ?_
                (try simp only [Act.put, List.setIfInBounds_toArray, List.set_cons_zero, List.set_cons_succ])
                refine wpG_take _ (.string (str x.n)) rfl (by rfl) (fun X hX => ex_ldS rfl rfl (hX.2 0 _ rfl)) ?_
                (try simp only [Act.put, List.setIfInBounds_toArray, List.set_cons_zero, List.set_cons_succ])
                refine wpG_take _ (.bool lt) rfl (by rfl) (fun X hX => ex_ltS rfl rfl rfl HLT.out) ?_
                (try simp only [Act.put, List.setIfInBounds_toArray, List.set_cons_zero, List.set_cons_succ])
                refine wpG_take _ (.bool lt) rfl (by rfl) (fun X hX => by first | rfl | go_simp) ?_
                (try simp only [Act.put, List.setIfInBounds_toArray, List.set_cons_zero, List.set_cons_succ])
                refine wpG_nil ?_
                go_wp2_with fail
                go_meet
                exact ⟨by rw [decide_eq_false HIK.out], congrArg Value.bool HCD.out, rfl⟩
            case rest =>
              obtain ⟨rfl, rfl, rfl⟩ := hcut
              have hob : OwnR wr.drew W4.heap.size (.slice spo no capo) (insK l e i k) := HOWN.out.below (Below.refl _ _).drew (Nat.le_refl _)
              have hbd : Below W4.heap.size W4 wr.drew := HBW.out.drew
              obtain ⟨p0, p1, p2, p3⟩ := HRX.out _ hbd
              by_cases hik : i = k
              · rw [decide_eq_true hik]
                obtain ⟨sp5, n5, cap5, w5, hr5, ho5, hb5⟩ := ownR_push hob hbd (by have := HLN.out; have := HL.out; omega) e
                obtain ⟨sp6, n6, cap6, w6, hr6, ho6, hb6⟩ := ownR_push ho5 hb5 (by rw [List.length_append]; have := HLN.out; have := HL.out; simp; omega) x
                have hst : insK l e i (k + 1) = (insK l e i k ++ [e]) ++ [x] := by rw [hik]; exact insK_at HHX.out
                rw [← hst] at ho6
                have HR5 := Lib.hid hr5; have HR6 := Lib.hid hr6; have HO6 := Lib.hid ho6; have HB6 := Lib.hid hb6
                have HP5 := Lib.hid (HRX.out _ hb5).2.2.2
                have HIK : Hid (i < k + 1) := Lib.hid (by omega)
                clear hob hbd hr5 ho5 hb5 hr6 ho6 hb6 hst hik p3
                go_upto_region 16 with (first | (refine e_val rfl (ex_oneR rfl rfl) ?_) | (at_builtin; refine e_val rfl (ex_appR rfl rfl rfl HR5.out) ?_) | fail)
                clear HR5 p0 p1 p2
                go_wp2_with (first | (refine e_val rfl (ex_iaR rfl rfl rfl HKC.out) ?_) | (refine e_val rfl (ex_ldR HP5.out rfl rfl) ?_) | (refine e_val rfl (ex_oneR rfl rfl) ?_) | (at_builtin; refine e_val rfl (ex_appR rfl rfl rfl HR6.out) ?_) | fail)
                go_roundg (N - (k + 1))
                case measure => omega
                case rel => exact ⟨k + 1, by go_num, by rw [decide_eq_true HIK.out], by omega, HO6.out, HB6.out⟩
              · rw [decide_eq_false hik]
                obtain ⟨sp6, n6, cap6, w6, hr6, ho6, hb6⟩ := ownR_push hob hbd (by have := HLN.out; have := HL.out; omega) x
                rw [← insK_step HHX.out hik] at ho6
                have HR6 := Lib.hid hr6; have HO6 := Lib.hid ho6; have HB6 := Lib.hid hb6
                have HP3 := Lib.hid p3
                have HIK : Hid (decide (i < k) = decide (i < k + 1)) := Lib.hid (by rw [decide_eq_decide]; omega)
                clear hob hbd hr6 ho6 hb6 hik p0 p1 p2 p3
                go_wp2_with (first | (refine e_val rfl (ex_iaR rfl rfl rfl HKC.out) ?_) | (refine e_val rfl (ex_ldR HP3.out rfl rfl) ?_) | (refine e_val rfl (ex_oneR rfl rfl) ?_) | (at_builtin; refine e_val rfl (ex_appR rfl rfl rfl HR6.out) ?_) | fail)
                go_roundg (N - (k + 1))
                case measure => omega
                case rel => exact ⟨k + 1, by go_num, by rw [← HIK.out], by omega, HO6.out, HB6.out⟩
          · obtain rfl : N = k := by omega
            have hlt' : ¬ (N : Int) < (N : Int) := by omega
            have hb9 : Below w.heap.size w wr := HB4.out.trans (HBW.out.mono HB4.out.size)
            have HB9 := Lib.hid hb9
            have hfl : addL l e = l.take i ++ e :: l.drop i := by unfold addL; rw [if_pos HE0.out, HI.out]
            have htk : l.take N = l := by rw [← HN.out, List.take_length]
            by_cases hiN : i < N
            · rw [decide_eq_true hiN]
              have hE : insK l e i N = addL l e := by unfold insK; rw [if_pos hiN, htk, hfl]
              have HQ := Lib.hid (HP.out _ wr HE0.out (by have := HOWN.out.lower HB4.out.size; rw [hE] at this; exact this) hb9)
              clear hb9 hfl htk hiN hE
              go_wp2_with fail
              first | exact HQ.out | (go_ret2; exact HQ.out)
            · rw [decide_eq_false hiN]
              have hE : insK l e i N ++ [e] = addL l e := by unfold insK; rw [if_neg hiN, htk, hfl, show i = l.length by have := HIN.out; have := HN.out; omega]; simp
              obtain ⟨sp6, n6, cap6, w6, hr6, ho6, hb6⟩ := ownR_push HOWN.out HBW.out (by have := HLN.out; have := HL.out; omega) e
              rw [hE] at ho6
              have HQ := Lib.hid (HP.out _ w6 HE0.out (ho6.lower HB4.out.size) (HB4.out.trans (hb6.mono HB4.out.size)))
              have HR6 := Lib.hid hr6
              have hk := HK4.out.below HBW.out HK4.out.lt
              have p0 := hk.cell (j := 0) rfl
              have p1 := hk.cell (j := 1) rfl
              have p2 := hk.cell (j := 2) rfl
              clear hb9 hfl htk hiN hE hr6 ho6 hb6 hk
              go_wp2_with (first | (refine e_val rfl (ex_oneR rfl rfl) ?_) | (at_builtin; refine e_val rfl (ex_appR rfl rfl rfl HR6.out) ?_) | fail)
              first | exact HQ.out | (go_ret2; exact HQ.out)
    · rw [decide_eq_true hf]
      have hadd := HADD.out
      rw [if_pos hf] at hadd
      have HQ := Lib.hid (HPE.out 23 W4 hadd.symm (by decide) HB4.out)
      clear hf hadd
      go_wp2_with fail
      first | exact HQ.out | (go_ret2; exact HQ.out)
  · have z1 : ((mayE e : Int) != 0) = true := by simp; omega
    have HQ := Lib.hid (HPE.out (mayE e) W4 (mayE_ne h1).symm h1 HB4.out)
    clear h1
    go_wp2_with fail
    first | exact HQ.out | (go_ret2; exact HQ.out)
end Go.Proofs.Ytlkhnmhhcagghaa
