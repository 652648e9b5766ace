/- Entries: Drop, Add. -/
import Derived.Test.YtlkhnmhhcagghaaEd
import Derived.Deep.DeepCutAuto
namespace Go.Proofs.Ytlkhnmhhcagghaa
open Go.RowKit

attribute [local go_sem] Oper.semAt_some

/-- What Drop and Add leave: the error, the entries. -/
def EnPost (w : World) (er : Nat) (l : List Ent) (e : Ending) (w' : World) : Prop := ∃ v, e = .returned (.tuple #[v, .int .i64 (er : Int)]) ∧ OwnE w' w.heap.size v l ∧ Below w.heap.size w w'
theorem okOne {W : World} {r : ERow} {g : Nat} {e : Ent} {t : TypeId} (hb : Blk W g (ecells e) t) (h : r = ⟨some ⟨g, 0, none⟩, [e], 1⟩) : r.OK W := by
  subst h
  exact ⟨srcE_one hb, by simp, fun h => by cases h⟩
def dropE (n : List UInt8) (l : List Ent) : Nat := if l.findIdx? (eqB n) = none then 20 else 0
def dropL (n : List UInt8) (l : List Ent) : List Ent := match l.findIdx? (eqB n) with | none => [] | some k => l.take k ++ l.drop (k + 1)
theorem enCheck_any (n : List UInt8) (hl : n.length < 1000000) (w : World) : Calls Try.prog 31 #[.string (str n)] w fun e w' => e = .returned (.int .i64 (errC n : Int)) ∧ Below w.heap.size w w' :=
  (pCheck_any n hl w).mono fun e w' ⟨h, p, h2⟩ => ⟨h, by rw [h2]; exact (Below.refl _ _).alloc (Nat.le_refl _) _⟩
set_option maxRecDepth 100000 in
set_option maxHeartbeats 4000000 in
theorem enDrop_any (l : List Ent) (n : List UInt8) (sp : Option Addr) (cap : Nat) (hc : l.length ≤ cap) (hz : sp = none → cap = 0) (hl : l.length < 50000) (w : World) (hs : SrcE w sp l) :
    Calls Try.prog 14 #[.slice sp l.length cap, .string (str n)] w (EnPost w (dropE n l) (dropL n l)) := by
  have hcl := enPlace_any l n sp cap hc (by omega) w hs
  have HCL := Lib.hid hcl; have HS := Lib.hid hs; have HZ := Lib.hid hz; have HL5 := Lib.hid hl
  obtain ⟨N, hN⟩ : ∃ N, l.length = N := ⟨_, rfl⟩
  rw [hN] at hc HCL HL5 ⊢
  have HN := Lib.hid hN; have HC := Lib.hid hc
  generalize hPost : EnPost w (dropE n l) (dropL n l) = Post
  have HP : Hid (∀ v (er : Nat) w', er = dropE n l → OwnE w' w.heap.size v (dropL n l) → Below w.heap.size w w' → Post (.returned (.tuple #[v, .int .i64 (er : Int)])) w') := Lib.hid fun v er w' h0 h1 h2 => by rw [← hPost, h0]; exact ⟨v, rfl, h1, h2⟩
  clear hcl hs hc hl hz hN hPost
  go_enter Try.func14, Try.ntmps14
  go_upto_region 1 with fail
  go_wp2_with fail
  refine HCL.out.mono ?_
  rintro e W2 ⟨rfl, hb2⟩
  have HB2 := Lib.hid hb2
  clear hb2
  unfold idxP
  cases hf : l.findIdx? (eqB n) with
  | none =>
    have HQ := Lib.hid (HP.out (.slice none 0 0) 20 W2 (by unfold dropE; rw [if_pos hf]) (by unfold dropL; rw [hf]; exact OwnE.nil _ _) HB2.out)
    clear hf
    go_wp2_with fail
    first | exact HQ.out | (go_ret2; exact HQ.out)
  | some k =>
    obtain ⟨e, he, hp, hk⟩ := place_some hf
    rw [HN.out] at hk
    have k0 : ¬ (k : Int) < 0 := by omega
    obtain ⟨ra, hra⟩ : ∃ ra : ERow, ra = ⟨sp, l.take k, cap⟩ := ⟨_, rfl⟩
    obtain ⟨rb, hrb⟩ : ∃ rb : ERow, rb = ⟨spFrom sp (k + 1) cap, l.drop (k + 1), cap - (k + 1)⟩ := ⟨_, rfl⟩
    have hcap := HC.out
    have HVA : Hid (erV ra = .slice sp k cap) := Lib.hid (by rw [hra]; show Value.slice sp (l.take k).length cap = _; rw [List.length_take, HN.out, Nat.min_eq_left (by omega)])
    have HVB : Hid (erV rb = .slice (spFrom sp (k + 1) cap) (N - (k + 1)) (cap - (k + 1))) := Lib.hid (by rw [hrb]; show Value.slice _ (l.drop (k + 1)).length _ = _; rw [List.length_drop, HN.out])
    have HKC : Hid (k < N ∧ k ≤ cap) := Lib.hid ⟨hk, by omega⟩
    have HKD : Hid (k + 1 ≤ N ∧ N ≤ cap) := Lib.hid ⟨hk, hcap⟩
    have HK1 : Hid (k + 1 < 1000000) := Lib.hid (by have := HL5.out; omega)
    have hsd : SrcE W2.drew sp l := (HS.out.grown HB2.out).drew
    have hb3 : Below W2.drew.heap.size W2.drew (W2.drew.alloc (.cells #[erV ra, erV rb] 29)) := (Below.refl _ _).alloc (Nat.le_refl _) _
    have hoka : ra.OK W2.drew := by rw [hra]; exact ⟨hsd.take k, by show (l.take k).length ≤ cap; rw [List.length_take]; omega, HZ.out⟩
    have hokb : rb.OK W2.drew := by rw [hrb]; exact ⟨hsd.drop (by rw [HN.out]; exact hcap) (k + 1), by show (l.drop (k + 1)).length ≤ cap - (k + 1); rw [List.length_drop, HN.out]; omega, spFrom_none HZ.out⟩
    have htg := enTog_any [ra, rb] W2.drew.heap.size (W2.drew.alloc (.cells #[erV ra, erV rb] 29)) (by simp) (by
      rw [hra, hrb]; simp only [flatR, List.flatMap_cons, List.flatMap_nil, List.append_nil, List.length_append, List.length_take, List.length_drop, HN.out]; have := HL5.out; omega)
      (fun r hr => by
        simp only [List.mem_cons, List.not_mem_nil, or_false] at hr
        rcases hr with rfl | rfl
        · exact hoka.grown hb3
        · exact hokb.grown hb3) (cs := [erV ra, erV rb]) (t := 29) (Blk.new' _ _ _ _ _ rfl rfl) (fun i r hi => by
        match i, hi with
        | 0, hi => obtain rfl : ra = r := by simpa using hi
                   rfl
        | 1, hi => obtain rfl : rb = r := by simpa using hi
                   rfl)
    have hfl : flatR [ra, rb] = l.take k ++ l.drop (k + 1) := by rw [hra, hrb]; simp [flatR]
    rw [hfl] at htg
    have HTG := Lib.hid htg
    have HB4 : Hid (Below w.heap.size w (W2.drew.alloc (.cells #[erV ra, erV rb] 29))) := Lib.hid (HB2.out.drew.trans (hb3.mono HB2.out.size))
    have HFE : Hid (dropE n l = 0) := Lib.hid (by unfold dropE; rw [if_neg (by rw [hf]; simp)])
    have HFL : Hid (dropL n l = l.take k ++ l.drop (k + 1)) := Lib.hid (by unfold dropL; rw [hf])
    clear hf he hp hk hra hrb hsd hb3 hoka hokb htg hfl hcap
    go_upto_region 4 with fail
    refine wp_region_sched ((.take 0 (.take 1 (.take 2 (.take 3 (.take 4 (.take 5 (.take 6 (.step 7 (.step 8 (.take 9 (.take 10 (.nil))))))))))))) (by kernel_rfl) (by kernel_rfl) (fun d _ _ _ _ h => by cases d <;> exact h) (fun _ => True) (trivial) ?_
    refine wpG_take _ (.slice sp N cap) rfl (by rfl) (fun X hX => by first | rfl | go_simp) ?_
    (try simp only [Act.put, List.setIfInBounds_toArray, List.set_cons_zero, List.set_cons_succ])
    refine wpG_take _ (.int .i64 (k : Int)) rfl (by rfl) (fun X hX => by first | rfl | go_simp) ?_
    (try simp only [Act.put, List.setIfInBounds_toArray, List.set_cons_zero, List.set_cons_succ])
    refine wpG_take _ (erV ra) rfl (by rfl) (fun X hX => by rw [HVA.out]; exact ex_toE HKC.out.2 rfl rfl rfl) ?_
    (try simp only [Act.put, List.setIfInBounds_toArray, List.set_cons_zero, List.set_cons_succ])
    refine wpG_take _ (.slice sp N cap) rfl (by rfl) (fun X hX => by first | rfl | go_simp) ?_
    (try simp only [Act.put, List.setIfInBounds_toArray, List.set_cons_zero, List.set_cons_succ])
    refine wpG_take _ (.int .i64 (k : Int)) rfl (by rfl) (fun X hX => by first | rfl | go_simp) ?_
    (try simp only [Act.put, List.setIfInBounds_toArray, List.set_cons_zero, List.set_cons_succ])
    refine wpG_take _ (.int .i64 ((k + 1 : Nat) : Int)) rfl (by rfl) (fun X hX => ex_addI (b := 1) rfl rfl rfl HK1.out) ?_
    (try simp only [Act.put, List.setIfInBounds_toArray, List.set_cons_zero, List.set_cons_succ])
    refine wpG_take _ (erV rb) rfl (by rfl) (fun X hX => by rw [HVB.out]; exact ex_fromE HKD.out rfl rfl rfl) ?_
    (try simp only [Act.put, List.setIfInBounds_toArray, List.set_cons_zero, List.set_cons_succ])
    refine wpG_mkE _ rfl (by rfl) (.slice (some ⟨W2.drew.heap.size, 0, none⟩) 2 2) (W2.drew.alloc (.cells #[erV ra, erV rb] 29)) (ex_rows2 rfl rfl rfl) (fun _ => True) (trivial) (fun _ h => h) ?_
    (try simp only [Act.put, List.setIfInBounds_toArray, List.set_cons_zero, List.set_cons_succ])
    refine wpG_call _ rfl (by rfl) 30 (#[.slice (some ⟨W2.drew.heap.size, 0, none⟩) 2 2]) (fun X => by first | rfl | go_simp) (fun v W3 => OwnE W3 w.heap.size v (l.take k ++ l.drop (k + 1)) ∧ Below w.heap.size w W3) (HTG.out.mono fun e w' ⟨v, h1, h2, h3⟩ => ⟨v, h1, trivial, h2.lower HB4.out.size, HB4.out.trans (h3.mono HB4.out.size)⟩) ?_
    rintro v W3 - ⟨ho, hb⟩
    obtain ⟨spv, capv, rfl, -⟩ := ho.form
    refine ⟨fun _ => True, fun _ h => h, trivial, ?_⟩
    have HQ := Lib.hid (HP.out _ 0 W3 (by rw [HFE.out]) (by rw [HFL.out]; exact ho) hb)
    clear ho hb
    refine wpG_take _ (.slice spv (l.take k ++ l.drop (k + 1)).length capv) rfl (by rfl) (fun X hX => by first | rfl | go_simp) ?_
    (try simp only [Act.put, List.setIfInBounds_toArray, List.set_cons_zero, List.set_cons_succ])
    refine wpG_take _ (.int .i64 0) rfl (by rfl) (fun X hX => by first | rfl | go_simp) ?_
    (try simp only [Act.put, List.setIfInBounds_toArray, List.set_cons_zero, List.set_cons_succ])
    refine wpG_nil ?_
    go_wp2_with fail
    first | exact HQ.out | (go_ret2; exact HQ.out)
def addE (l : List Ent) (e : Ent) : Nat := if errC e.n ≠ 0 then errC e.n else if whoB e = false then 26 else if l.findIdx? (eqB e.n) ≠ none then 23 else if 64 ≤ l.length then 32 else 0
def addI (l : List Ent) (e : Ent) : Nat := (l.findIdx? (gtB e.n)).getD l.length
def addL (l : List Ent) (e : Ent) : List Ent := if addE l e = 0 then l.take (addI l e) ++ e :: l.drop (addI l e) else []
set_option maxRecDepth 100000 in
set_option maxHeartbeats 8000000 in
theorem enAdd_any (l : List Ent) (e : Ent) (sp : Option Addr) (cap : Nat) (hc : l.length ≤ cap) (hz : sp = none → cap = 0) (hl : l.length < 50000) (hn : e.n.length < 1000000) (w : World) (hs : SrcE w sp l) :
    Calls Try.prog 18 #[.slice sp l.length cap, .agg (ecells e).toArray] w (EnPost w (addE l e) (addL l e)) := by
  have hb1 : Below w.heap.size w (w.alloc (.cells (ecells e).toArray 46)) := (Below.refl _ _).alloc (Nat.le_refl _) _
  have hk1 : Blk (w.alloc (.cells (ecells e).toArray 46)) w.heap.size (ecells e) 46 := Blk.new' _ _ _ _ _ rfl rfl
  obtain ⟨W1, hW1⟩ : ∃ W, w.alloc (.cells (ecells e).toArray 46) = W := ⟨_, rfl⟩
  obtain ⟨g3, hg3⟩ : ∃ g, w.heap.size = g := ⟨_, rfl⟩
  rw [hW1] at hb1 hk1
  rw [hg3] at hk1
  have HS := Lib.hid hs; have HZ := Lib.hid hz; have HL5 := Lib.hid hl; have HNM := Lib.hid hn; have HB1 := Lib.hid hb1; have HK1 := Lib.hid hk1; have HW1 := Lib.hid hW1; have HG := Lib.hid hg3
  obtain ⟨N, hN⟩ : ∃ N, l.length = N := ⟨_, rfl⟩
  rw [hN] at hc HL5 ⊢
  have HN := Lib.hid hN; have HC := Lib.hid hc
  generalize hPost : EnPost w (addE l e) (addL l e) = Post
  have HP : Hid (∀ v (er : Nat) w', er = addE l e → OwnE w' w.heap.size v (addL l e) → Below w.heap.size w w' → Post (.returned (.tuple #[v, .int .i64 (er : Int)])) w') := Lib.hid fun v er w' h0 h1 h2 => by rw [← hPost, h0]; exact ⟨v, rfl, h1, h2⟩
  have HPE : Hid (∀ (er : Nat) w', er = addE l e → er ≠ 0 → Below w.heap.size w w' → Post (.returned (.tuple #[.slice none 0 0, .int .i64 (er : Int)])) w') := Lib.hid fun er w' h0 h1 h2 => HP.out _ er w' h0 (by unfold addL; rw [if_neg (by rw [← h0]; exact h1)]; exact OwnE.nil _ _) h2
  clear hs hc hl hz hn hN hPost hb1 hk1 hW1 hg3
  go_enter Try.func18, Try.ntmps18
  go_upto_region 1 with fail
  rw [show w.alloc (.cells #[.string (str e.n), .int .u16 (e.u : Int), .int .u8 (e.k : Int)] 46) = W1 from HW1.out, HG.out]
  have c0 := HK1.out.cell (j := 0) rfl
  go_wp2_with fail
  refine (enCheck_any e.n HNM.out W1).mono ?_
  rintro x W2 ⟨rfl, hb2⟩
  have HB2 : Hid (Below w.heap.size w W2) := Lib.hid (HB1.out.trans (hb2.mono HB1.out.size))
  have HK2 := Lib.hid (HK1.out.below hb2 HK1.out.lt)
  clear hb2 HK1 c0
  by_cases h1 : errC e.n = 0
  · have z1 : ((errC e.n : Int) != 0) = false := by rw [h1]; rfl
    have HE1 := Lib.hid h1
    have c0 := HK2.out.cell (j := 0) rfl
    have c1 := HK2.out.cell (j := 1) rfl
    have c2 := HK2.out.cell (j := 2) rfl
    clear h1
    go_wp2_with fail
    refine (enWhose_any e W2).mono ?_
    rintro x W3 ⟨rfl, hb3⟩
    have HB3 : Hid (Below w.heap.size w W3) := Lib.hid (HB2.out.trans (hb3.mono HB2.out.size))
    have HK3 := Lib.hid (HK2.out.below hb3 HK2.out.lt)
    clear hb3 c0 c1 c2 HK2
    cases hw : whoB e with
    | false =>
      have HQ := Lib.hid (HPE.out 26 W3 (by unfold addE; rw [if_neg (by simpa using HE1.out), if_pos hw]) (by decide) HB3.out)
      clear hw
      go_wp2_with fail
      first | exact HQ.out | (go_ret2; exact HQ.out)
    | true =>
      have HW := Lib.hid hw
      have c0 := HK3.out.cell (j := 0) rfl
      clear hw
      go_wp2_with fail
      have hcl := enPlace_any l e.n sp cap (by rw [HN.out]; exact HC.out) (by have := HL5.out; rw [HN.out]; omega) W3 (HS.out.grown HB3.out)
      rw [HN.out] at hcl
      refine hcl.mono ?_
      rintro x W3b ⟨rfl, hb4⟩
      have HB4 : Hid (Below w.heap.size w W3b) := Lib.hid (HB3.out.trans (hb4.mono HB3.out.size))
      have HK4 := Lib.hid (HK3.out.below hb4 HK3.out.lt)
      clear hb4 hcl c0 HK3
      unfold idxP
      cases hf : l.findIdx? (eqB e.n) with
      | some k =>
        have k0 : (0 : Int) ≤ (k : Int) := by omega
        have HQ := Lib.hid (HPE.out 23 W3b (by unfold addE; rw [if_neg (by simpa using HE1.out), if_neg (by rw [HW.out]; simp), if_pos (by rw [hf]; simp)]) (by decide) HB4.out)
        clear hf
        go_wp2_with fail
        first | exact HQ.out | (go_ret2; exact HQ.out)
      | none =>
        have HF := Lib.hid hf
        clear hf
        by_cases h64 : 64 ≤ N
        · have k0 : (64 : Int) ≤ (N : Int) := by omega
          have HQ := Lib.hid (HPE.out 32 W3b (by unfold addE; rw [if_neg (by simpa using HE1.out), if_neg (by rw [HW.out]; simp), if_neg (by rw [HF.out]; simp), if_pos (by rw [HN.out]; exact h64)]) (by decide) HB4.out)
          clear h64
          go_wp2_with fail
          first | exact HQ.out | (go_ret2; exact HQ.out)
        · have k0 : ¬ (64 : Int) ≤ (N : Int) := by omega
          have HE0 : Hid (addE l e = 0) := Lib.hid (by unfold addE; rw [if_neg (by simpa using HE1.out), if_neg (by rw [HW.out]; simp), if_neg (by rw [HF.out]; simp), if_neg (by rw [HN.out]; exact h64)])
          have H64 := Lib.hid h64
          clear h64
          go_wp2_with fail
          have hcl := idxGt_any l e.n sp cap g3 (by rw [HN.out]; exact HC.out) (by have := HL5.out; rw [HN.out]; omega) W3b (HS.out.grown HB4.out) HK4.out rfl
          rw [HN.out] at hcl
          refine hcl.mono ?_
          rintro x W4 ⟨rfl, hb5⟩
          have HB5 : Hid (Below w.heap.size w W4) := Lib.hid (HB4.out.trans (hb5.mono HB4.out.size))
          have HK5 := Lib.hid (HK4.out.below hb5 HK4.out.lt)
          clear hb5 hcl HK4
          obtain ⟨i, hi⟩ : ∃ i, addI l e = i := ⟨_, rfl⟩
          have hiN : i ≤ N := by
            rw [← hi]; unfold addI
            cases hf : l.findIdx? (gtB e.n) with
            | none => simp [HN.out]
            | some j => obtain ⟨hj, -⟩ := List.findIdx?_eq_some_iff_getElem.1 hf; rw [HN.out] at hj; simp; omega
          have hcap := HC.out
          obtain ⟨ra, hra⟩ : ∃ ra : ERow, ra = ⟨sp, l.take i, cap⟩ := ⟨_, rfl⟩
          obtain ⟨rb, hrb⟩ : ∃ rb : ERow, rb = ⟨some ⟨W4.drew.heap.size, 0, none⟩, [e], 1⟩ := ⟨_, rfl⟩
          obtain ⟨rc, hrc⟩ : ∃ rc : ERow, rc = ⟨spFrom sp i cap, l.drop i, cap - i⟩ := ⟨_, rfl⟩
          have HVA : Hid (erV ra = .slice sp i cap) := Lib.hid (by rw [hra]; show Value.slice sp (l.take i).length cap = _; rw [List.length_take, HN.out, Nat.min_eq_left (by omega)])
          have HVB : Hid (erV rb = .slice (some ⟨W4.drew.heap.size, 0, none⟩) 1 1) := Lib.hid (by rw [hrb]; rfl)
          have HVC : Hid (erV rc = .slice (spFrom sp i cap) (N - i) (cap - i)) := Lib.hid (by rw [hrc]; show Value.slice _ (l.drop i).length _ = _; rw [List.length_drop, HN.out])
          have HKC : Hid (i ≤ cap) := Lib.hid (by omega)
          have HKD : Hid (i ≤ N ∧ N ≤ cap) := Lib.hid ⟨hiN, hcap⟩
          have hg3 : g3 < W4.drew.heap.size := HK5.out.lt
          have hb6 : Below W4.drew.heap.size W4.drew (W4.drew.alloc (.cells (ecells e).toArray 46)) := (Below.refl _ _).alloc (Nat.le_refl _) _
          have hb7 : Below W4.drew.heap.size W4.drew ((W4.drew.alloc (.cells (ecells e).toArray 46)).alloc (.cells #[erV ra, erV rb, erV rc] 29)) := hb6.alloc (by simp) _
          have hk3 : Blk W4.drew g3 (ecells e) 46 := HK5.out
          have HR3 : Hid (W4.drew.rangeAt g3 0 (ecells e)) := Lib.hid (fun j v hv => by rw [Nat.zero_add]; exact hk3.cell hv)
          have HR4 : Hid ((W4.drew.alloc (.cells (ecells e).toArray 46)).rangeAt g3 0 (ecells e)) := Lib.hid (fun j v hv => by rw [Nat.zero_add]; exact (hk3.below hb6 hg3).cell hv)
          have HR5 : Hid (((W4.drew.alloc (.cells (ecells e).toArray 46)).alloc (.cells #[erV ra, erV rb, erV rc] 29)).rangeAt g3 0 (ecells e)) := Lib.hid (fun j v hv => by rw [Nat.zero_add]; exact (hk3.below hb7 hg3).cell hv)
          have hsd : SrcE W4.drew sp l := (HS.out.grown HB5.out).drew
          have hkb : Blk ((W4.drew.alloc (.cells (ecells e).toArray 46)).alloc (.cells #[erV ra, erV rb, erV rc] 29)) W4.drew.heap.size (ecells e) 46 := (Blk.new' _ _ _ _ _ rfl rfl).alloc _
          have hoka : ra.OK W4.drew := by rw [hra]; exact ⟨hsd.take i, by show (l.take i).length ≤ cap; rw [List.length_take]; omega, HZ.out⟩
          have hokc : rc.OK W4.drew := by rw [hrc]; exact ⟨hsd.drop (by rw [HN.out]; exact hcap) i, by show (l.drop i).length ≤ cap - i; rw [List.length_drop, HN.out]; omega, spFrom_none HZ.out⟩
          have htg := enTog_any [ra, rb, rc] (W4.drew.heap.size + 1) ((W4.drew.alloc (.cells (ecells e).toArray 46)).alloc (.cells #[erV ra, erV rb, erV rc] 29)) (by simp) (by
            rw [hra, hrb, hrc]; simp only [flatR, List.flatMap_cons, List.flatMap_nil, List.append_nil, List.length_append, List.length_take, List.length_drop, HN.out, List.length_cons, List.length_nil]; have := HL5.out; omega)
            (fun r hr => by
              simp only [List.mem_cons, List.not_mem_nil, or_false] at hr
              rcases hr with rfl | rfl | rfl
              · exact hoka.grown hb7
              · exact okOne hkb hrb
              · exact hokc.grown hb7) (cs := [erV ra, erV rb, erV rc]) (t := 29) (Blk.new' _ _ _ _ _ (by simp) rfl) (fun i r hi => by
              match i, hi with
              | 0, hi => obtain rfl : ra = r := by simpa using hi
                         rfl
              | 1, hi => obtain rfl : rb = r := by simpa using hi
                         rfl
              | 2, hi => obtain rfl : rc = r := by simpa using hi
                         rfl)
          have hfl : flatR [ra, rb, rc] = l.take i ++ e :: l.drop i := by rw [hra, hrb, hrc]; simp [flatR]
          rw [hfl] at htg
          have HTG := Lib.hid htg
          have HG3 : Hid (g3 < ((W4.drew.alloc (.cells (ecells e).toArray 46)).alloc (.cells #[erV ra, erV rb, erV rc] 29)).heap.size) := Lib.hid (Nat.lt_of_lt_of_le hg3 hb7.size)
          have HB6 : Hid (Below w.heap.size w ((W4.drew.alloc (.cells (ecells e).toArray 46)).alloc (.cells #[erV ra, erV rb, erV rc] 29))) := Lib.hid (HB5.out.drew.trans (hb7.mono HB5.out.size))
          have HL0 : Hid (addL l e = l.take i ++ e :: l.drop i) := Lib.hid (by unfold addL; rw [if_pos HE0.out, hi])
          have HI := Lib.hid hi
          have HIN := Lib.hid hiN
          clear hi hiN hcap hra hrb hrc hg3 hb6 hb7 hk3 hsd hkb hoka hokc htg hfl
          obtain ⟨z, hz⟩ : ∃ z : Int, idxP (gtB e.n) l = z := ⟨_, rfl⟩
          have HZI : Hid ((0 ≤ z ∧ z = (i : Int)) ∨ (z < 0 ∧ i = N)) := Lib.hid (by
            have h1 := HI.out
            unfold addI at h1
            unfold idxP at hz
            cases hf : l.findIdx? (gtB e.n) with
            | none => rw [hf] at h1 hz; right; refine ⟨by simp at hz; omega, ?_⟩; rw [← h1]; simp [HN.out]
            | some j => rw [hf] at h1 hz; left; simp at h1 hz; omega)
          rw [hz]
          clear hz
          go_upto_if 32 with fail
          go_cut [7] (fun s wx => s = .int .i64 (i : Int) ∧ W4 = wx)
          case first =>
            rcases HZI.out with ⟨h1, h2⟩ | ⟨h1, h2⟩
            · have k1 : ¬ z < 0 := by omega
              have H2 := Lib.hid h2
              clear h1 h2
              go_wp2_with fail
              go_meet
              exact ⟨by rw [H2.out], rfl⟩
            · have H2 := Lib.hid h2
              clear h2
              go_wp2_with fail
              go_meet
              exact ⟨by rw [H2.out], rfl⟩
          case rest =>
            obtain ⟨rfl, rfl⟩ := hcut
            go_upto_region 13 with fail
            refine wp_region_sched ((.take 0 (.take 1 (.take 2 (.take 3 (.take 5 (.take 6 (.take 7 (.step 4 (.step 8 (.step 9 (.take 10 (.take 11 (.nil)))))))))))))) (by kernel_rfl) (by kernel_rfl) (fun d _ _ _ _ h => by cases d <;> exact h) (fun X => X.rangeAt g3 0 (ecells e)) (HR3.out) ?_
            refine wpG_take _ (.slice sp N cap) rfl (by rfl) (fun X hX => by first | rfl | go_simp) ?_
            (try simp only [Act.put, List.setIfInBounds_toArray, List.set_cons_zero, List.set_cons_succ])
            refine wpG_take _ (.int .i64 (i : Int)) rfl (by rfl) (fun X hX => by first | rfl | go_simp) ?_
            (try simp only [Act.put, List.setIfInBounds_toArray, List.set_cons_zero, List.set_cons_succ])
            refine wpG_take _ (erV ra) rfl (by rfl) (fun X hX => by rw [HVA.out]; exact ex_toE HKC.out rfl rfl rfl) ?_
            (try simp only [Act.put, List.setIfInBounds_toArray, List.set_cons_zero, List.set_cons_succ])
            refine wpG_take _ (.agg (ecells e).toArray) rfl (by rfl) (fun X hX => ex_ldE hX rfl rfl) ?_
            (try simp only [Act.put, List.setIfInBounds_toArray, List.set_cons_zero, List.set_cons_succ])
            refine wpG_take _ (.slice sp N cap) rfl (by rfl) (fun X hX => by first | rfl | go_simp) ?_
            (try simp only [Act.put, List.setIfInBounds_toArray, List.set_cons_zero, List.set_cons_succ])
            refine wpG_take _ (.int .i64 (i : Int)) rfl (by rfl) (fun X hX => by first | rfl | go_simp) ?_
            (try simp only [Act.put, List.setIfInBounds_toArray, List.set_cons_zero, List.set_cons_succ])
            refine wpG_take _ (erV rc) rfl (by rfl) (fun X hX => by rw [HVC.out]; exact ex_fromE HKD.out rfl rfl rfl) ?_
            (try simp only [Act.put, List.setIfInBounds_toArray, List.set_cons_zero, List.set_cons_succ])
            refine wpG_mkE _ rfl (by rfl) (erV rb) (W4.drew.alloc (.cells (ecells e).toArray 46)) (by rw [HVB.out]; exact ex_oneE rfl rfl) (fun X => X.rangeAt g3 0 (ecells e)) HR4.out (fun _ h => h) ?_
            (try simp only [Act.put, List.setIfInBounds_toArray, List.set_cons_zero, List.set_cons_succ])
            refine wpG_mkE _ rfl (by rfl) (.slice (some ⟨W4.drew.heap.size + 1, 0, none⟩) 3 3) ((W4.drew.alloc (.cells (ecells e).toArray 46)).alloc (.cells #[erV ra, erV rb, erV rc] 29)) (by rw [show W4.drew.heap.size + 1 = (W4.drew.alloc (.cells (ecells e).toArray 46)).heap.size by simp]; exact ex_rows3 rfl rfl rfl rfl) (fun X => X.rangeAt g3 0 (ecells e)) HR5.out (fun _ h => h) ?_
            (try simp only [Act.put, List.setIfInBounds_toArray, List.set_cons_zero, List.set_cons_succ])
            refine wpG_call _ rfl (by rfl) 30 (#[.slice (some ⟨W4.drew.heap.size + 1, 0, none⟩) 3 3]) (fun X => by first | rfl | go_simp) (fun v W5 => OwnE W5 w.heap.size v (l.take i ++ e :: l.drop i) ∧ Below w.heap.size w W5) (HTG.out.mono fun e' w' ⟨v, h1, h2, h3⟩ => ⟨v, h1, fun j u hu => by rw [h3.cell (p := ⟨g3, 0 + j, none⟩) HG3.out]; exact HR5.out j u hu, h2.lower HB6.out.size, HB6.out.trans (h3.mono HB6.out.size)⟩) ?_
            rintro v W5 h5 ⟨ho, hb⟩
            obtain ⟨spv, capv, rfl, -⟩ := ho.form
            refine ⟨fun X => X.rangeAt g3 0 (ecells e), fun _ h => h, h5, ?_⟩
            have HQ := Lib.hid (HP.out _ 0 W5 HE0.out.symm (by rw [HL0.out]; exact ho) hb)
            clear ho hb
            refine wpG_take _ (.slice spv (l.take i ++ e :: l.drop i).length capv) rfl (by rfl) (fun X hX => by first | rfl | go_simp) ?_
            (try simp only [Act.put, List.setIfInBounds_toArray, List.set_cons_zero, List.set_cons_succ])
            refine wpG_take _ (.int .i64 0) rfl (by rfl) (fun X hX => by first | rfl | go_simp) ?_
            (try simp only [Act.put, List.setIfInBounds_toArray, List.set_cons_zero, List.set_cons_succ])
            refine wpG_nil ?_
            go_wp2_with fail
            first | exact HQ.out | (go_ret2; exact HQ.out)
  · have z1 : ((errC e.n : Int) != 0) = true := by simp; omega
    have HQ := Lib.hid (HPE.out (errC e.n) W2 (by unfold addE; rw [if_pos h1]) h1 HB2.out)
    clear h1
    go_wp2_with fail
    first | exact HQ.out | (go_ret2; exact HQ.out)
end Go.Proofs.Ytlkhnmhhcagghaa
