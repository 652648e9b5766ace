/- Inodes: Take. -/
import Derived.Test.YtecngehkdjmjmaaDoorM12
namespace Go.Proofs.YtecngehkdjmjmaaDoor
open Go.RowKit

/-- So many inodes read. -/
def StI (l : Bs) (k : Nat) (rest : Bs) (ee : Nat) (ns : List Ino) : Prop := rest.length ≤ l.length ∧ BOK ns ∧ ((ee = 0 ∧ rest = l.drop (128 * k) ∧ 128 * k ≤ l.length ∧ ∀ j, j < k → ns[j]? = some (ino (l.drop (128 * j))) ∧ quietI (l.drop (128 * j)) = true) ∨ (ee ≠ 0 ∧ inoOk l = false))
theorem inoOk_no {l : Bs} {j : Nat} (hj : j < 4) (h : fineI (l.drop (128 * j)) = false) : inoOk l = false := by
  unfold inoOk
  have : ((List.range 4).all fun j => fineI (l.drop (128 * j))) = false := by rw [List.all_eq_false]; exact ⟨j, List.mem_range.2 hj, by simp [h]⟩
  rw [this]; simp
theorem inoOk_len {l : Bs} (h : l.length ≠ 512) : inoOk l = false := by unfold inoOk; rw [decide_eq_false h]; rfl
theorem iget_set_lt {α : Type} {l : List α} {k : Nat} {f : Nat → α} {q : Nat → Prop} (hk : k < l.length) (h : ∀ i, i < k → l[i]? = some (f i) ∧ q i) (hq : q k) : ∀ j, j < k + 1 → (l.set k (f k))[j]? = some (f j) ∧ q j := fun j hj => by
  by_cases e : k = j
  · subst e; rw [List.getElem?_set_self hk]; exact ⟨rfl, hq⟩
  · rw [List.getElem?_set_ne e]; exact h j (by omega)
theorem StI.next {l : Bs} {k : Nat} {rest rest' : Bs} {ee ee' : Nat} {ns : List Ino} {n : Ino} (h : StI l k rest ee ns) (hk : k < 4) (hn : n.OK) (hl : rest'.length ≤ rest.length) (hr : (ee' = 0 ∧ ee = 0 ∧ 128 ≤ rest.length ∧ rest' = rest.drop 128 ∧ n = ino rest ∧ quietI rest = true) ∨ (ee' ≠ 0 ∧ Bad128 rest ee)) : StI l (k + 1) rest' ee' (ns.set k n) := by
  obtain ⟨h1, h2, h3⟩ := h
  refine ⟨Nat.le_trans hl h1, h2.set k hn, ?_⟩
  rcases hr with ⟨a1, a2, a3, a4, a5, a6⟩ | ⟨a1, a2⟩
  · rcases h3 with ⟨b1, b2, b3, b4⟩ | ⟨b1, b2⟩
    · subst b2
      rw [List.length_drop] at a3
      refine .inl ⟨a1, by rw [a4, List.drop_drop]; congr 1, by omega, ?_⟩
      rw [a5]
      exact iget_set_lt (f := fun j => ino (l.drop (128 * j))) (q := fun j => quietI (l.drop (128 * j)) = true) (by rw [h2.len]; exact hk) b4 a6
    · exact absurd a2 b1
  · refine .inr ⟨a1, ?_⟩
    rcases h3 with ⟨b1, b2, b3, b4⟩ | ⟨b1, b2⟩
    · subst b2
      rcases a2 with c | c | c
      · exact absurd b1 c
      · rw [List.length_drop] at c
        exact inoOk_len (by omega)
      · exact inoOk_no hk c
    · exact b2
/-- The error in the end. -/
theorem StI.fin {l rest : Bs} {ee : Nat} {ns : List Ino} (h : StI l 4 rest ee ns) : (endOf rest ee ≠ 0 → inoOk l = false) ∧ (endOf rest ee = 0 → inoOk l = allMay ns ∧ (allMay ns = true → ns = inoT l)) := by
  obtain ⟨h1, h2, h3⟩ := h
  rcases h3 with ⟨b1, b2, b3, b4⟩ | ⟨b1, b2⟩
  · subst b1 b2
    have e1 : endOf (l.drop (128 * 4)) 0 = if l.length = 512 then 0 else 5 := by
      unfold endOf leftOf badOf
      rw [if_pos rfl, List.length_drop]
      by_cases h : l.length = 512
      · rw [if_pos h, if_pos (by omega)]
      · rw [if_neg h, if_neg (by omega)]; rfl
    rw [e1]
    by_cases h : l.length = 512
    · rw [if_pos h]
      have hns : ns = inoL l := by
        apply List.ext_getElem?
        intro j
        by_cases hj : j < 4
        · rw [(b4 j hj).1]; simp [inoL, hj]
        · rw [List.getElem?_eq_none (by rw [h2.len]; omega), List.getElem?_eq_none (by simp [inoL]; omega)]
      have hok : inoOk l = allMay ns := by
        rw [hns]
        unfold inoOk allMay inoL
        rw [decide_eq_true h, List.all_map, Bool.true_and, Bool.eq_iff_iff, List.all_eq_true, List.all_eq_true]
        have hf : ∀ j, j < 4 → fineI (l.drop (128 * j)) = mayI (ino (l.drop (128 * j))) := fun j hj => by unfold fineI; rw [(b4 j hj).2]; rfl
        constructor
        · intro H j hj; have := H j hj; rw [hf j (List.mem_range.1 hj)] at this; exact this
        · intro H j hj; rw [hf j (List.mem_range.1 hj)]; exact H j hj
      exact ⟨fun h => absurd rfl h, fun _ => ⟨hok, fun ha => by unfold inoT; rw [if_pos (by rw [hok]; exact ha)]; exact hns⟩⟩
    · rw [if_neg h]
      exact ⟨fun _ => inoOk_len h, fun h => by cases h⟩
  · refine ⟨fun _ => b2, fun h => ?_⟩
    unfold endOf leftOf badOf at h
    rw [if_neg b1, if_pos rfl] at h
    exact absurd h b1
def ITakePost (l : Bs) (w : World) (x : Ending) (w' : World) : Prop := x = .returned (.tuple #[.agg (bcells (inoT l)).toArray, .int .i64 (inoE l : Int)]) ∧ Below w.heap.size w w'
structure TkB (w : World) (L H G : Nat) (ns : List Ino) (rest : Bs) (ee : Nat) (W : World) : Prop where
  res : Blk W w.heap.size (bcells zeros4) 34
  b : Blk W G (bcells ns) 34
  rd : RdAt W H (fun g => L ≤ g ∧ g < H) rest ee
  bel : Below w.heap.size w W
  hH : w.heap.size + 1 ≤ H ∧ H < G
theorem TkB.read {w W W' : World} {L H G : Nat} {ns : List Ino} {rest rest' : Bs} {ee ee' : Nat} (h : TkB w L H G ns rest ee W) (hr : RdAt W' H (fun g => L ≤ g ∧ g < H) rest' ee') (hb : ButFor H W W') : TkB w L H G ns rest' ee' W' :=
  have h1 := h.hH
  ⟨hb.blk h.res (by omega), hb.blk h.b (by omega), hr, h.bel.trans (hb.below (by omega) h.bel.size), h.hH⟩
theorem TkB.grown {w W W' : World} {L H G : Nat} {ns : List Ino} {rest : Bs} {ee : Nat} (h : TkB w L H G ns rest ee W) (hb : Below W.heap.size W W') : TkB w L H G ns rest ee W' :=
  ⟨h.res.below hb h.res.lt, h.b.below hb h.b.lt, h.rd.below hb (Nat.le_refl _), h.bel.trans (hb.mono h.bel.size), h.hH⟩
theorem TkB.put {w W : World} {L H G : Nat} {ns : List Ino} {rest : Bs} {ee : Nat} (h : TkB w L H G ns rest ee W) (hn : BOK ns) {k : Nat} (hk : k < 4) {q : Ino} (hq : q.OK) : TkB w L H G (ns.set k q) rest ee (W.setCells G (k * 44) (icells q)) :=
  have h1 := h.hH
  ⟨blk_setCells_other (by omega) _ _ _ _ h.res, blk_setI hn h.b hk (Nat.mul_comm k 44) hq, h.rd.other (J := G) (ButFor.sets _ _ _ (ButFor.refl _ _)) (by omega) (fun hk => by omega), below_setsI _ _ _ h.bel (by omega), h1⟩
set_option maxRecDepth 100000 in
set_option maxHeartbeats 8000000 in
theorem itake_any (l : Bs) (sp : Option Addr) (cap : Nat) (w : World) (hl : l.length ≤ 100000) (hz : sp = none → cap = 0) (hc : l.length ≤ cap) (hS : SrcA w sp l) (hT : RTab w) : Calls Tryd.prog 13 #[.slice sp l.length cap] w (ITakePost l w) := by
  have HL := Lib.hid hl; have HT := Lib.hid hT
  have HB : Hid (Blk (w.alloc (.cells (bcells zeros4).toArray 34)) w.heap.size (bcells zeros4) 34) := Lib.hid (Blk.new _ _ _)
  have HW : Hid (Below w.heap.size w (w.alloc (.cells (bcells zeros4).toArray 34))) := Lib.hid ((Below.refl _ _).alloc (Nat.le_refl _) _)
  obtain ⟨N, hN⟩ : ∃ N, l.length = N := ⟨_, rfl⟩
  have HN := Lib.hid hN
  have HNW : Hid (∀ W, Below w.heap.size w W → Calls Tryd.prog 22 #[.slice sp N cap] W (RetRd l W)) := Lib.hid fun W hb => by
    have h1 := new_any l sp cap W hl hz hc (hS.grown hb)
    rw [hN] at h1
    exact h1
  have HSZ1 : Hid ((w.alloc (.cells (bcells zeros4).toArray 34)).heap.size = w.heap.size + 1) := Lib.hid (by simp)
  rw [hN]
  generalize hPost : ITakePost l w = Post
  have HQ : Hid (∀ x w', ITakePost l w x w' → Post x w') := Lib.hid fun x w' h => by rw [← hPost]; exact h
  clear hl hz hc hS hT hPost hN
  go_enter Tryd.func13, Tryd.ntmps13
  go_upto_region 1 with fail
  refine (fun (k : ∀ W, Blk W w.heap.size (bcells zeros4) 34 → Below w.heap.size w W → W.heap.size = w.heap.size + 1 → Code.wp _ _ _ _ W) => k _ HB.out HW.out HSZ1.out) ?_
  intro W0 hb hw hs
  have HB0 := Lib.hid hb; have HW0 := Lib.hid hw; have HS0 := Lib.hid hs
  clear hb hw hs HB HW HSZ1
  go_wp2_with fail
  refine (HNW.out W0 HW0.out).mono ?_
  rintro e1 W1 ⟨H, rfl, hrd, hH, hb1⟩
  have HRD := Lib.hid hrd; have HH := Lib.hid hH; have HB1 := Lib.hid hb1
  clear hrd hH hb1 HNW
  go_upto_region 3 with fail
  have hx : ∀ z, z = (bcells zeros4).toArray → TkB w W0.heap.size H W1.heap.size zeros4 l 0 (W1.alloc (.cells z 34)) := fun z hz => by
    subst hz
    have h1 := HS0.out
    have h2 := HH.out
    have h3 := HRD.out.lt
    have hg : Below W1.heap.size W1 (W1.alloc (.cells (bcells zeros4).toArray 34)) := (Below.refl _ _).alloc (Nat.le_refl _) _
    have hw1 : Below w.heap.size w W1 := HW0.out.trans (HB1.out.mono (by omega))
    exact ⟨(HB0.out.below HB1.out (by omega)).alloc _, Blk.new _ _ _, HRD.out.below hg (Nat.le_refl _), hw1.trans (hg.mono hw1.size), by omega⟩
  refine (fun (k : ∀ W, TkB w W0.heap.size H W1.heap.size zeros4 l 0 W → Code.wp _ _ _ _ W) => k _ (hx _ rfl)) ?_
  intro W2 hx2
  obtain ⟨G, hG⟩ : ∃ g, W1.heap.size = g := ⟨_, rfl⟩
  obtain ⟨L, hLo⟩ : ∃ g, W0.heap.size = g := ⟨_, rfl⟩
  have HTH0 : Hid (0 < H) := Lib.hid (by have := HT.out.lt; have := HH.out; have := HS0.out; omega)
  rw [hG, hLo] at hx2
  rw [hG]
  have HX := Lib.hid hx2
  clear hx hx2 hG hLo HRD HB1 HB0 HW0 HH HS0
  have HZO := Lib.hid zeros4_ok
  have HST0 : Hid (StI l 0 l 0 zeros4) := Lib.hid ⟨Nat.le_refl _, HZO.out, .inl ⟨rfl, by simp, by omega, fun j hj => by omega⟩⟩
  go_wp2_with fail
  go_loopw [9] (fun i wr => ∃ (k : Nat) (ns : List Ino) (rest : Bs) (ee : Nat), k ≤ 4 ∧ i = .int .i64 (k : Int) ∧ StI l k rest ee ns ∧ TkB w L H G ns rest ee wr) (fun i _ => 4 - (intOf i).toNat)
  case atStart => exact ⟨0, zeros4, l, 0, by omega, rfl, HST0.out, HX.out⟩
  case round =>
    clear HX HST0
    obtain ⟨k, ns, rest, ee, hk, rfl, hst, hX⟩ := hrel
    have HX := Lib.hid hX; have HST := Lib.hid hst
    have HBO := Lib.hid hst.2.1
    have wk1 := IntWalk.i64_in ((k : Int) + 1) (by omega)
    have hgl := hX.hH
    have hRT := HT.out.grown hX.bel
    have hTK := take1_any rest ee H wr hX.rd (fun g hg => by have := hX.b.lt; omega) (Nat.le_trans hst.1 HL.out) hRT (by have := HTH0.out; omega)
    have HTK := Lib.hid hTK
    clear hX hst hgl hRT hTK
    by_cases hlt : k < 4
    · go_wp2_with fail
      refine HTK.out.mono ?_
      rintro e w3 ⟨⟨n, rest', ee', rfl, hno, hrd, hrl, hres⟩, hbf⟩
      have hx3 := HX.out.read hrd hbf
      have HX4 := Lib.hid (hx3.put HBO.out hlt hno)
      have HS4 := Lib.hid (HST.out.next hlt hno hrl hres)
      have HTH : Hid (w3.there G (k * 44) (icells n).toArray.size) := Lib.hid (hx3.b.there _ _ (by rw [List.size_toArray, icells_length hno, HBO.out.cells]; omega))
      have HSZ := Lib.hid (size_icI hno)
      have HLT := Lib.hid hlt
      clear hno hrd hrl hres hbf hx3 HX HST HTK
      go_wp2_with (first | (refine wpL_valG (by rfl) (ex_iaB HLT.out rfl rfl rfl) ?_) | (refine wpList_store_mid rfl 32 (.tmp 15) (.tmp 14) rfl G (k * 44) (icells n).toArray rfl rfl HTH.out HSZ.out (one_ic n) ?_) | fail)
      go_roundw
      case rel => exact ⟨k + 1, _, _, _, by omega, by go_num, HS4.out, HX4.out⟩
      case measure => simp [intOf]; omega
    · obtain rfl : k = 4 := by omega
      rw [show ((4 : Nat) : Int) = (4 : Int) from rfl]
      have HFI := Lib.hid HST.out.fin
      obtain ⟨E, hE⟩ : ∃ E, endOf rest ee = E := ⟨_, rfl⟩
      have HE := Lib.hid hE
      have hend := end_any H rest ee wr.drew (HX.out.grown (Below.refl _ _).drew).rd
      rw [hE] at hend HFI
      have HSB := Lib.hid (size_bcB HBO.out)
      have HAO := Lib.hid (allow_ok HBO.out)
      clear hlt hk hE HTK wk1
      go_upto_region 8 with fail
      have hs0 : Blk wr.drew G (bcells ns) 34 := HX.out.b.drew
      have hX0 := HX.out.grown (Below.refl _ _).drew
      by_cases hE0 : E = 0
      · subst hE0
        have hal := HFI.out.2 rfl
        obtain ⟨eb, heb⟩ : ∃ b, decide (ns = allow ns) = b := ⟨_, rfl⟩
        have HEB := Lib.hid heb
        clear heb
        refine wp_region_sched (.take 0 (.step 1 (.take 2 (.take 3 (.take 4 (.take 5 (.step 6 (.take 7 (.take 8 (.nil)))))))))) (by kernel_rfl) (by kernel_rfl) (fun d _ _ _ _ h => by cases d <;> exact h) (fun X => Blk X G (bcells ns) 34) (hs0) ?_
        refine wpG_take _ (.pointer (some ⟨H, 0, none⟩)) rfl (by rfl) (fun X hX => by first | rfl | go_simp) ?_
        (try simp only [Act.put, List.setIfInBounds_toArray, List.set_cons_zero, List.set_cons_succ])
        refine wpG_call _ rfl (by rfl) 24 #[.pointer (some ⟨H, 0, none⟩)] (fun X => by go_simp) (fun u X => u = .int .i64 ((0 : Nat) : Int) ∧ TkB w L H G ns rest 0 X) (hend.mono fun e X ⟨e1, e2, e3⟩ => ⟨_, e1, (hX0.read e2 e3).b, rfl, hX0.read e2 e3⟩) ?_
        rintro u X5 hs5 ⟨rfl, hX5⟩
        refine ⟨fun X => Blk X G (bcells ns) 34, fun _ h => h, hs5, ?_⟩
        (try simp only [Act.put, List.setIfInBounds_toArray, List.set_cons_zero, List.set_cons_succ])
        refine wpG_take _ (.bool false) rfl (by rfl) (fun X hX => by first | rfl | go_simp) ?_
        (try simp only [Act.put, List.setIfInBounds_toArray, List.set_cons_zero, List.set_cons_succ])
        refine wpG_take _ (.bool false) rfl (by rfl) (fun X hX => by first | rfl | go_simp) ?_
        (try simp only [Act.put, List.setIfInBounds_toArray, List.set_cons_zero, List.set_cons_succ])
        refine wpG_take _ (.agg (bcells ns).toArray) rfl (by rfl) (fun X hX => ex_ldBn HBO.out hX rfl rfl) ?_
        (try simp only [Act.put, List.setIfInBounds_toArray, List.set_cons_zero, List.set_cons_succ])
        refine wpG_take _ (.agg (bcells ns).toArray) rfl (by rfl) (fun X hX => ex_ldBn HBO.out hX rfl rfl) ?_
        (try simp only [Act.put, List.setIfInBounds_toArray, List.set_cons_zero, List.set_cons_succ])
        refine wpG_call _ rfl (by rfl) 19 #[.agg (bcells ns).toArray] (fun X => by go_simp) (fun u X => u = .agg (bcells (allow ns)).toArray ∧ TkB w L H G ns rest 0 X) ((allowed_any ns HBO.out X5 (HT.out.grown hX5.bel)).mono fun e X ⟨e1, e2⟩ => ⟨_, e1, (hX5.grown e2).b, rfl, hX5.grown e2⟩) ?_
        rintro u X7 hs7 ⟨rfl, hX7⟩
        refine ⟨fun X => Blk X G (bcells ns) 34, fun _ h => h, hs7, ?_⟩
        (try simp only [Act.put, List.setIfInBounds_toArray, List.set_cons_zero, List.set_cons_succ])
        refine wpG_take _ (.bool (!eb)) rfl (by rfl) (fun X hX => (ex_neBn HBO.out HAO.out rfl rfl rfl).trans (by rw [HEB.out])) ?_
        (try simp only [Act.put, List.setIfInBounds_toArray, List.set_cons_zero, List.set_cons_succ])
        refine wpG_take _ (.bool (!eb)) rfl (by rfl) (fun X hX => by first | rfl | go_simp) ?_
        (try simp only [Act.put, List.setIfInBounds_toArray, List.set_cons_zero, List.set_cons_succ])
        refine wpG_nil ?_
        have hrv : allMay ns = eb := by rw [← HEB.out, Bool.eq_iff_iff, decide_eq_true_iff]; exact (allow_eq ns).symm
        have HBE := Lib.hid hX7.bel
        have HRS := Lib.hid hX7.res
        have HBB := Lib.hid hs7
        cases eb
        · have hv : inoE l = 5 ∧ inoT l = zeros4 := by unfold inoE inoT; rw [hal.1, hrv]; exact ⟨rfl, rfl⟩
          have HV := Lib.hid hv
          have HSZ := Lib.hid (size_bcB zeros4_ok)
          have HON := Lib.hid (bcells_one zeros4)
          clear hv hal hrv hX7 hs7 hX0 hs0 hend HX HST
          go_wp2_with (first | (refine wpL_val rfl (ex_bldB0 rfl) ?_) | (refine wpList_store_row rfl 34 (.tmp 2) (.tmp 26) rfl w.heap.size (bcells zeros4).toArray rfl rfl 34 _ HRS.out HSZ.out rfl HON.out ?_) | fail)
          refine bodyPost_ret (results_ctI Tryd.results13 _ _ w.heap.size 34 _ rfl (HRS.out.row _) Tryd.underlying34 (size_bcBl zeros4_ok)) rfl (HQ.out _ _ ⟨?_, below_row HBE.out (Nat.le_refl _) _⟩)
          rw [HV.out.1, HV.out.2]; rfl
        · have hv : inoE l = 0 ∧ inoT l = ns := ⟨by unfold inoE; rw [hal.1, hrv]; rfl, (hal.2 hrv).symm⟩
          have HV := Lib.hid hv
          have HON := Lib.hid (bcells_one ns)
          have HSZ : Hid ((bcells zeros4).toArray.size = (bcells ns).toArray.size) := Lib.hid (by rw [zeros4_ok.size, HBO.out.size])
          clear hv hal hrv hX7 hs7 hX0 hs0 hend HX HST
          go_wp2_with (first | (refine wpL_val rfl (ex_ldBn HBO.out HBB.out rfl rfl) ?_) | (refine wpList_store_row rfl 34 (.tmp 2) (.tmp 27) rfl w.heap.size (bcells ns).toArray rfl rfl 34 _ HRS.out HSB.out HSZ.out HON.out ?_) | fail)
          refine bodyPost_ret (results_ctI Tryd.results13 _ _ w.heap.size 34 _ rfl (HRS.out.row _) Tryd.underlying34 (size_bcBl HBO.out)) rfl (HQ.out _ _ ⟨?_, below_row HBE.out (Nat.le_refl _) _⟩)
          rw [HV.out.1, HV.out.2]; rfl
      · have i0 : ¬ (E : Int) = 0 := by omega
        have hno := HFI.out.1 hE0
        refine wp_region_sched (.take 0 (.step 1 (.take 2 (.take 3 (.take 4 (.take 5 (.step 6 (.take 7 (.take 8 (.nil)))))))))) (by kernel_rfl) (by kernel_rfl) (fun d _ _ _ _ h => by cases d <;> exact h) (fun X => Blk X G (bcells ns) 34) (hs0) ?_
        refine wpG_take _ (.pointer (some ⟨H, 0, none⟩)) rfl (by rfl) (fun X hX => by first | rfl | go_simp) ?_
        (try simp only [Act.put, List.setIfInBounds_toArray, List.set_cons_zero, List.set_cons_succ])
        refine wpG_call _ rfl (by rfl) 24 #[.pointer (some ⟨H, 0, none⟩)] (fun X => by go_simp) (fun u X => u = .int .i64 (E : Int) ∧ TkB w L H G ns rest E X) (hend.mono fun e X ⟨e1, e2, e3⟩ => ⟨_, e1, (hX0.read e2 e3).b, rfl, hX0.read e2 e3⟩) ?_
        rintro u X5 hs5 ⟨rfl, hX5⟩
        refine ⟨fun X => Blk X G (bcells ns) 34, fun _ h => h, hs5, ?_⟩
        (try simp only [Act.put, List.setIfInBounds_toArray, List.set_cons_zero, List.set_cons_succ])
        refine wpG_take _ (.bool true) rfl (by rfl) (fun X hX => by first | rfl | go_simp) ?_
        (try simp only [Act.put, List.setIfInBounds_toArray, List.set_cons_zero, List.set_cons_succ])
        refine wpG_take _ (.bool true) rfl (by rfl) (fun X hX => by first | rfl | go_simp) ?_
        (try simp only [Act.put, List.setIfInBounds_toArray, List.set_cons_zero, List.set_cons_succ])
        refine wpG_pass _ rfl (by rfl) ?_
        (try simp only [Act.put, List.setIfInBounds_toArray, List.set_cons_zero, List.set_cons_succ])
        refine wpG_pass _ rfl (by rfl) ?_
        (try simp only [Act.put, List.setIfInBounds_toArray, List.set_cons_zero, List.set_cons_succ])
        refine wpG_skip _ rfl (by rfl) hs5 ?_
        (try simp only [Act.put, List.setIfInBounds_toArray, List.set_cons_zero, List.set_cons_succ])
        refine wpG_pass _ rfl (by rfl) ?_
        (try simp only [Act.put, List.setIfInBounds_toArray, List.set_cons_zero, List.set_cons_succ])
        refine wpG_take _ (.bool true) rfl (by rfl) (fun X hX => by first | rfl | go_simp) ?_
        (try simp only [Act.put, List.setIfInBounds_toArray, List.set_cons_zero, List.set_cons_succ])
        refine wpG_nil ?_
        have hX7 := hX5
        have hs7 := hs5
        have hv : inoE l = 5 ∧ inoT l = zeros4 := by unfold inoE inoT; rw [hno]; exact ⟨rfl, rfl⟩
        have HV := Lib.hid hv
        have HBE := Lib.hid hX7.bel
        have HRS := Lib.hid hX7.res
        have HSZ := Lib.hid (size_bcB zeros4_ok)
        have HON := Lib.hid (bcells_one zeros4)
        clear hv hno hX7 hs7 hX0 hs0 hend HX HST
        go_wp2_with (first | (refine wpL_val rfl (ex_bldB0 rfl) ?_) | (refine wpList_store_row rfl 34 (.tmp 2) (.tmp 26) rfl w.heap.size (bcells zeros4).toArray rfl rfl 34 _ HRS.out HSZ.out rfl HON.out ?_) | fail)
        refine bodyPost_ret (results_ctI Tryd.results13 _ _ w.heap.size 34 _ rfl (HRS.out.row _) Tryd.underlying34 (size_bcBl zeros4_ok)) rfl (HQ.out _ _ ⟨?_, below_row HBE.out (Nat.le_refl _) _⟩)
        rw [HV.out.1, HV.out.2]; rfl
end Go.Proofs.YtecngehkdjmjmaaDoor
/- Inodes that are known: wakes. -/
namespace Go.Proofs.YtecngehkdjmjmaaDoor
open Go.RowKit

def kI : Ino := ⟨1, 1, 513, zeroP⟩
def kL : Ino := ⟨3, 0, 0, zeroP⟩
def kI4 : List Ino := [kI, zeroI, zeroI, zeroI]
theorem kI_ok : kI.OK := ⟨by simp [kI], by simp [kI], by simp [kI], zeroP_ok⟩
theorem kL_ok : kL.OK := ⟨by simp [kL], by simp [kL], by simp [kL], zeroP_ok⟩
theorem kI4_ok : BOK kI4 := ⟨rfl, fun p hp => by
  simp only [kI4, List.mem_cons, List.not_mem_nil, or_false] at hp
  rcases hp with rfl | rfl | rfl | rfl
  · exact kI_ok
  · exact zeroI_ok
  · exact zeroI_ok
  · exact zeroI_ok⟩
theorem kI_may : mayI kI = true := by decide
theorem kL_may : mayI kL = false := by decide
theorem kI4_may : allMay kI4 = true := by
  unfold allMay kI4
  simp only [List.all_cons, List.all_nil, kI_may, mayI_zero, Bool.and_self]
def kB4 : Bs := blkB kI4
theorem kB4_len : kB4.length = 512 := by unfold kB4; rw [blkB_length kI4_ok.ok, kI4_ok.len]
theorem kB4_E : inoE kB4 = 0 := by unfold inoE kB4; rw [if_pos (iput_back kI4_ok kI4_may).1]
theorem kB4_T : inoT kB4 = kI4 := (iput_back kI4_ok kI4_may).2
theorem kB4_0 : kB4.getD 0 0 = 1#8 := by kernel_rfl
theorem kB4_2 : kB4.getD 2 0 = 1#8 := by kernel_rfl
theorem kB4_4 : kB4.getD 4 0 = 1#8 := by kernel_rfl
theorem kB4_5 : kB4.getD 5 0 = 2#8 := by kernel_rfl
theorem ex_bldKI {ρ : Operand → Value} {o : Oper} {x y z : Operand} {w : World} (ho : o.op = .build 32 #[(0, x), (1, y), (2, z)]) (hx : ρ x = .int .u8 1) (hy : ρ y = .int .u16 1) (hz : ρ z = .int .u32 513) : (execOp ρ o).run Tryd.prog w = .ok (.value (.agg (icells kI).toArray)) w := by
  have hr : (Instr.build 32 #[(0, .int .u8 1), (1, .int .u16 1), (2, .int .u32 513)]).run Tryd.prog w = .ok (.agg (icells kI).toArray) w := run_build w 32 _ _ (by kernel_rfl)
  unfold execOp
  simp only [ho]
  rw [show (Array.map (fun x : Nat × Operand => (x.1, ρ x.2)) #[(0, x), (1, y), (2, z)]) = #[(0, .int .u8 1), (1, .int .u16 1), (2, .int .u32 513)] by simp [hx, hy, hz]]
  simp only [Sem.run_bind, hr, Result.andThen_ok, Sem.run_pure]
theorem ex_bldKL {ρ : Operand → Value} {o : Oper} {x : Operand} {w : World} (ho : o.op = .build 32 #[(0, x)]) (hx : ρ x = .int .u8 3) : (execOp ρ o).run Tryd.prog w = .ok (.value (.agg (icells kL).toArray)) w := by
  have hr : (Instr.build 32 #[(0, .int .u8 3)]).run Tryd.prog w = .ok (.agg (icells kL).toArray) w := run_build w 32 _ _ (by kernel_rfl)
  unfold execOp
  simp only [ho]
  rw [show (Array.map (fun x : Nat × Operand => (x.1, ρ x.2)) #[(0, x)]) = #[(0, .int .u8 3)] by simp [hx]]
  simp only [Sem.run_bind, hr, Result.andThen_ok, Sem.run_pure]
theorem ex_bldKB {ρ : Operand → Value} {o : Oper} {x : Operand} {w : World} (ho : o.op = .build 34 #[(0, x)]) (hx : ρ x = .agg (icells kI).toArray) : (execOp ρ o).run Tryd.prog w = .ok (.value (.agg (bcells kI4).toArray)) w := by
  have hr : (Instr.build 34 #[(0, .agg (icells kI).toArray)]).run Tryd.prog w = .ok (.agg (bcells kI4).toArray) w := run_build w 34 _ _ (by kernel_rfl)
  unfold execOp
  simp only [ho]
  rw [show (Array.map (fun x : Nat × Operand => (x.1, ρ x.2)) #[(0, x)]) = #[(0, .agg (icells kI).toArray)] by simp [hx]]
  simp only [Sem.run_bind, hr, Result.andThen_ok, Sem.run_pure]
structure WkI (w : World) (kk : Ino) (k4 : List Ino) (g1 g4 g o : Nat) (W : World) : Prop where
  a : Blk W g1 (icells kk) 32
  b : Blk W g4 (bcells k4) 34
  gg : g < W.heap.size
  c0 : W.cell? ⟨g, o, none⟩ = some (.int .u8 1)
  c2 : W.cell? ⟨g, o + 2, none⟩ = some (.int .u8 1)
  c4 : W.cell? ⟨g, o + 4, none⟩ = some (.int .u8 1)
  c5 : W.cell? ⟨g, o + 5, none⟩ = some (.int .u8 2)
  tab : RTab W
  bel : Below w.heap.size w W
theorem WkI.grown {w W W' : World} {kk : Ino} {k4 : List Ino} {g1 g4 g o : Nat} (h : WkI w kk k4 g1 g4 g o W) (hb : Below W.heap.size W W') : WkI w kk k4 g1 g4 g o W' :=
  have hc : ∀ j, W'.cell? ⟨g, j, none⟩ = W.cell? ⟨g, j, none⟩ := fun j => World.cell?_of_block (w := W) (a := ⟨g, j, none⟩) (hb.block g h.gg)
  ⟨h.a.below hb h.a.lt, h.b.below hb h.b.lt, Nat.lt_of_lt_of_le h.gg hb.size, (hc _).trans h.c0, (hc _).trans h.c2, (hc _).trans h.c4, (hc _).trans h.c5, h.tab.grown hb, h.bel.trans (hb.mono h.bel.size)⟩
set_option maxRecDepth 100000 in
set_option maxHeartbeats 8000000 in
theorem iwakes_any (w : World) (hT : RTab w) : Calls Tryd.prog 11 #[] w fun e w' => e = .returned (.bool true) ∧ Below w.heap.size w w' := by
  have HT := Lib.hid hT
  obtain ⟨kk, hkk⟩ : ∃ k, kI = k := ⟨_, rfl⟩
  obtain ⟨k4, hk4⟩ : ∃ k, kI4 = k := ⟨_, rfl⟩
  obtain ⟨kl, hkl⟩ : ∃ k, kL = k := ⟨_, rfl⟩
  have HKK := Lib.hid hkk; have HK4 := Lib.hid hk4; have HKL := Lib.hid hkl
  have HKO : Hid kk.OK := Lib.hid (by rw [← hkk]; exact kI_ok)
  have HKB : Hid (BOK k4) := Lib.hid (by rw [← hk4]; exact kI4_ok)
  have HLO : Hid kl.OK := Lib.hid (by rw [← hkl]; exact kL_ok)
  have HBK : Hid (∀ {ρ : Operand → Value} {o : Oper} {x y z : Operand} {w : World}, o.op = .build 32 #[(0, x), (1, y), (2, z)] → ρ x = .int .u8 1 → ρ y = .int .u16 1 → ρ z = .int .u32 513 → (execOp ρ o).run Tryd.prog w = .ok (.value (.agg (icells kk).toArray)) w) := Lib.hid (by rw [← hkk]; exact fun h1 h2 h3 h4 => ex_bldKI h1 h2 h3 h4)
  have HBL : Hid (∀ {ρ : Operand → Value} {o : Oper} {x : Operand} {w : World}, o.op = .build 32 #[(0, x)] → ρ x = .int .u8 3 → (execOp ρ o).run Tryd.prog w = .ok (.value (.agg (icells kl).toArray)) w) := Lib.hid (by rw [← hkl]; exact fun h1 h2 => ex_bldKL h1 h2)
  have HBB : Hid (∀ {ρ : Operand → Value} {o : Oper} {x : Operand} {w : World}, o.op = .build 34 #[(0, x)] → ρ x = .agg (icells kk).toArray → (execOp ρ o).run Tryd.prog w = .ok (.value (.agg (bcells k4).toArray)) w) := Lib.hid (by rw [← hkk, ← hk4]; exact fun h1 h2 => ex_bldKB h1 h2)
  have HPU : Hid (∀ W, RTab W → Calls Tryd.prog 10 #[.agg (bcells k4).toArray] W fun e w' => (∃ v, e = .returned (.tuple #[v, .int .i64 0]) ∧ OwnB w' W.heap.size v kB4) ∧ Below W.heap.size W w') := Lib.hid (fun W h => (iput_any k4 HKB.out W h).mono fun e w' ⟨h1, h2⟩ => ⟨(by
    rcases h1 with ⟨-, h1⟩ | ⟨h1, -⟩
    · rw [← hk4] at h1; exact h1
    · rw [← hk4, kI4_may] at h1; cases h1), h2⟩)
  have HMA : Hid (∀ W, RTab W → Calls Tryd.prog 9 #[.agg (icells kk).toArray] W fun e w' => e = .returned (.bool true) ∧ Below W.heap.size W w') := Lib.hid (fun W h => (imay_any kk HKO.out W h).mono fun e w' ⟨h1, h2⟩ => ⟨by rw [h1, ← hkk, kI_may], h2⟩)
  have HML : Hid (∀ W, RTab W → Calls Tryd.prog 9 #[.agg (icells kl).toArray] W fun e w' => e = .returned (.bool false) ∧ Below W.heap.size W w') := Lib.hid (fun W h => (imay_any kl HLO.out W h).mono fun e w' ⟨h1, h2⟩ => ⟨by rw [h1, ← hkl, kL_may], h2⟩)
  have HK0 : Hid (k4[0]? = some kk) := Lib.hid (by rw [← hk4, ← hkk]; rfl)
  have HSK := Lib.hid (size_icI HKO.out)
  have HSB := Lib.hid (size_bcB HKB.out)
  have HLK : Hid ((icells kk).toArray.size = 44) := Lib.hid (by rw [List.size_toArray, icells_length HKO.out])
  have HLB : Hid ((bcells k4).toArray.size = 176) := Lib.hid HKB.out.size
  have HON := Lib.hid (bcells_one k4)
  clear hT hkk hk4 hkl
  go_enter Tryd.func11, Tryd.ntmps11
  go_upto_region 2 with (first | (refine wpL_valG (by rfl) (HBK.out rfl rfl rfl rfl) ?_) | (refine wpList_store_row rfl 32 (.tmp 1) (.tmp 6) rfl w.heap.size (icells kk).toArray rfl rfl 32 _ (heap_alloc_new w _) HSK.out (by rw [HLK.out]; rfl) (one_ic kk) ?_) | fail)
  refine (fun (k : ∀ W, Blk W w.heap.size (icells kk) 32 → Below w.heap.size w W → Code.wp _ _ _ _ W) => k _ (blk_row1 w _ (icells kk) 32).1 (blk_row1 w _ (icells kk) 32).2) ?_
  intro W1 ha1 hb1
  obtain ⟨g1, hg1⟩ : ∃ g, w.heap.size = g := ⟨_, rfl⟩
  have HB1 := Lib.hid hb1
  rw [hg1] at ha1 ⊢
  have HA1 := Lib.hid ha1
  clear ha1 hb1 hg1
  go_wp2_with (first | (refine wpL_valG (by rfl) (ex_ldIn HKO.out HA1.out rfl rfl) ?_) | (refine wpL_valG (by rfl) (HBB.out rfl rfl) ?_) | fail)
  refine (HPU.out W1 (HT.out.grown HB1.out)).mono ?_
  rintro e W2 ⟨⟨v2, rfl, ho2⟩, hb2⟩
  obtain ⟨sp2, cap2, rfl, q1, q2, q3, q4, q5⟩ := OwnB.form ho2
  have htk := itake_any kB4 sp2 cap2 W2 (by rw [kB4_len]; omega) q4 q1 q3 ((HT.out.grown HB1.out).grown hb2)
  unfold ITakePost at htk
  rw [kB4_len, kB4_E, kB4_T, HK4.out] at htk
  rw [kB4_len]
  obtain ⟨g, o, rfl, hg, hcell⟩ := q3 (by rw [kB4_len]; omega)
  have hA2 := HA1.out.below hb2 HA1.out.lt
  have HB2 := Lib.hid (HB1.out.trans (hb2.mono HB1.out.size))
  have hc0 : W2.cell? ⟨g, o, none⟩ = some (.int .u8 1) := by have := hcell 0 (by rw [kB4_len]; omega); rw [kB4_0] at this; exact this
  have hc2 : W2.cell? ⟨g, o + 2, none⟩ = some (.int .u8 1) := by have := hcell 2 (by rw [kB4_len]; omega); rw [kB4_2] at this; exact this
  have hc4 : W2.cell? ⟨g, o + 4, none⟩ = some (.int .u8 1) := by have := hcell 4 (by rw [kB4_len]; omega); rw [kB4_4] at this; exact this
  have hc5 : W2.cell? ⟨g, o + 5, none⟩ = some (.int .u8 2) := by have := hcell 5 (by rw [kB4_len]; omega); rw [kB4_5] at this; exact this
  have HCC := Lib.hid (And.intro hg (And.intro hc0 (And.intro hc2 (And.intro hc4 hc5))))
  have HTK := Lib.hid htk; have HA2 := Lib.hid hA2; have HQ1 := Lib.hid q1
  clear ho2 hb2 q1 q2 q4 q5 q3 hcell htk hA2 hc0 hc2 hc4 hc5 hg HA1 HPU HBB HBK
  go_wp2_with fail
  refine HTK.out.mono ?_
  rintro e W3 ⟨rfl, hb3⟩
  have HA3 := Lib.hid (HA2.out.below hb3 HA2.out.lt)
  have HB3 := Lib.hid (HB2.out.trans (hb3.mono HB2.out.size))
  have hc3 : ∀ j, W3.cell? ⟨g, j, none⟩ = W2.cell? ⟨g, j, none⟩ := fun j => World.cell?_of_block (w := W2) (a := ⟨g, j, none⟩) (hb3.block g HCC.out.1)
  have HC3 : Hid (g < W3.heap.size ∧ W3.cell? ⟨g, o, none⟩ = some (.int .u8 1) ∧ W3.cell? ⟨g, o + 2, none⟩ = some (.int .u8 1) ∧ W3.cell? ⟨g, o + 4, none⟩ = some (.int .u8 1) ∧ W3.cell? ⟨g, o + 5, none⟩ = some (.int .u8 2)) := Lib.hid (by
    obtain ⟨h1, h2, h3, h4, h5⟩ := HCC.out
    exact ⟨Nat.lt_of_lt_of_le h1 hb3.size, (hc3 _).trans h2, (hc3 _).trans h3, (hc3 _).trans h4, (hc3 _).trans h5⟩)
  rw [show ((0 : Nat) : Int) = (0 : Int) from rfl]
  clear hb3 hc3 HCC HA2 HB2 HTK HB1
  go_upto_region 4 with (first | (refine wpList_store_row rfl 34 (.tmp 4) (.tmp 16) rfl W3.heap.size (bcells k4).toArray rfl rfl 34 _ (heap_alloc_new W3 _) HSB.out (by rw [HLB.out]; rfl) HON.out ?_) | fail)
  have hx4 : ∀ {W4}, Blk W4 W3.heap.size (bcells k4) 34 → Below W3.heap.size W3 W4 → WkI w kk k4 g1 W3.heap.size g o W4 := fun hb hw => by
    obtain ⟨h1, h2, h3, h4, h5⟩ := HC3.out
    have hc4 : ∀ j, _ := fun j => World.cell?_of_block (w := W3) (a := ⟨g, j, none⟩) (hw.block g h1)
    have hbel := HB3.out.trans (hw.mono HB3.out.size)
    exact ⟨HA3.out.below hw HA3.out.lt, hb, Nat.lt_of_lt_of_le h1 hw.size, (hc4 _).trans h2, (hc4 _).trans h3, (hc4 _).trans h4, (hc4 _).trans h5, HT.out.grown hbel, hbel⟩
  refine (fun (k : ∀ W, WkI w kk k4 g1 W3.heap.size g o W → Code.wp _ _ _ _ W) => k _ (hx4 (blk_row1 W3 _ (bcells k4) 34).1 (blk_row1 W3 _ (bcells k4) 34).2)) ?_
  intro W4 hx
  obtain ⟨g4, hg4⟩ : ∃ g, W3.heap.size = g := ⟨_, rfl⟩
  rw [hg4] at hx ⊢
  have hcap := HQ1.out
  rw [kB4_len] at hcap
  have HCP := Lib.hid hcap
  clear hx4 HA3 HB3 HC3 hg4 hcap HQ1
  refine wp_region_list ?_
  refine tl_val (S := fun X => WkI w kk k4 g1 g4 g o X) (.agg (icells kk).toArray) (by rfl) hx (fun X hX => ex_ldIn HKO.out hX.a rfl rfl) ?_
  (try simp only [Act.put, List.setIfInBounds_toArray, List.set_cons_zero, List.set_cons_succ])
  refine tl_call (by rfl) 9 #[.agg (icells kk).toArray] (by go_simp) (fun u X => u = .bool true ∧ WkI w kk k4 g1 g4 g o X) ((HMA.out _ hx.tab).mono fun e Y ⟨e1, hb⟩ => ⟨_, e1, rfl, hx.grown hb⟩) ?_
  rintro u X1 ⟨rfl, hx1⟩
  (try simp only [Act.put, List.setIfInBounds_toArray, List.set_cons_zero, List.set_cons_succ])
  refine tl_val (S := fun X => WkI w kk k4 g1 g4 g o X) (.bool true) (by rfl) hx1 (fun X hX => by first | rfl | go_simp) ?_
  (try simp only [Act.put, List.setIfInBounds_toArray, List.set_cons_zero, List.set_cons_succ])
  refine tl_val (S := fun X => WkI w kk k4 g1 g4 g o X) (.agg (icells kl).toArray) (by rfl) hx1 (fun X hX => HBL.out rfl rfl) ?_
  (try simp only [Act.put, List.setIfInBounds_toArray, List.set_cons_zero, List.set_cons_succ])
  refine tl_call (by rfl) 9 #[.agg (icells kl).toArray] (by go_simp) (fun u X => u = .bool false ∧ WkI w kk k4 g1 g4 g o X) ((HML.out _ hx1.tab).mono fun e Y ⟨e1, hb⟩ => ⟨_, e1, rfl, hx1.grown hb⟩) ?_
  rintro u X2 ⟨rfl, hx2⟩
  (try simp only [Act.put, List.setIfInBounds_toArray, List.set_cons_zero, List.set_cons_succ])
  refine tl_val (S := fun X => WkI w kk k4 g1 g4 g o X) (.bool true) (by rfl) hx2 (fun X hX => by first | rfl | go_simp) ?_
  (try simp only [Act.put, List.setIfInBounds_toArray, List.set_cons_zero, List.set_cons_succ])
  refine tl_val (S := fun X => WkI w kk k4 g1 g4 g o X) (.bool true) (by rfl) hx2 (fun X hX => by first | rfl | go_simp) ?_
  (try simp only [Act.put, List.setIfInBounds_toArray, List.set_cons_zero, List.set_cons_succ])
  refine tl_val (S := fun X => WkI w kk k4 g1 g4 g o X) (.bool true) (by rfl) hx2 (fun X hX => by first | rfl | go_simp) ?_
  (try simp only [Act.put, List.setIfInBounds_toArray, List.set_cons_zero, List.set_cons_succ])
  refine tl_val (S := fun X => WkI w kk k4 g1 g4 g o X) (.int .i64 0) (by rfl) hx2 (fun X hX => by first | rfl | go_simp) ?_
  (try simp only [Act.put, List.setIfInBounds_toArray, List.set_cons_zero, List.set_cons_succ])
  refine tl_val (S := fun X => WkI w kk k4 g1 g4 g o X) (.bool true) (by rfl) hx2 (fun X hX => by first | rfl | go_simp) ?_
  (try simp only [Act.put, List.setIfInBounds_toArray, List.set_cons_zero, List.set_cons_succ])
  refine tl_val (S := fun X => WkI w kk k4 g1 g4 g o X) (.bool true) (by rfl) hx2 (fun X hX => by first | rfl | go_simp) ?_
  (try simp only [Act.put, List.setIfInBounds_toArray, List.set_cons_zero, List.set_cons_succ])
  refine tl_val (S := fun X => WkI w kk k4 g1 g4 g o X) (.bool true) (by rfl) hx2 (fun X hX => by first | rfl | go_simp) ?_
  (try simp only [Act.put, List.setIfInBounds_toArray, List.set_cons_zero, List.set_cons_succ])
  refine tl_val (S := fun X => WkI w kk k4 g1 g4 g o X) (.slice (some ⟨g, o, none⟩) 512 cap2) (by rfl) hx2 (fun X hX => by first | rfl | go_simp) ?_
  (try simp only [Act.put, List.setIfInBounds_toArray, List.set_cons_zero, List.set_cons_succ])
  refine tl_val (S := fun X => WkI w kk k4 g1 g4 g o X) (.int .i64 512) (by rfl) hx2 (fun X hX => by first | rfl | go_simp) ?_
  (try simp only [Act.put, List.setIfInBounds_toArray, List.set_cons_zero, List.set_cons_succ])
  refine tl_val (S := fun X => WkI w kk k4 g1 g4 g o X) (.bool true) (by rfl) hx2 (fun X hX => by first | rfl | go_simp) ?_
  (try simp only [Act.put, List.setIfInBounds_toArray, List.set_cons_zero, List.set_cons_succ])
  refine tl_val (S := fun X => WkI w kk k4 g1 g4 g o X) (.bool true) (by rfl) hx2 (fun X hX => by first | rfl | go_simp) ?_
  (try simp only [Act.put, List.setIfInBounds_toArray, List.set_cons_zero, List.set_cons_succ])
  refine tl_val (S := fun X => WkI w kk k4 g1 g4 g o X) (.bool true) (by rfl) hx2 (fun X hX => by first | rfl | go_simp) ?_
  (try simp only [Act.put, List.setIfInBounds_toArray, List.set_cons_zero, List.set_cons_succ])
  refine tl_val (S := fun X => WkI w kk k4 g1 g4 g o X) (.slice (some ⟨g, o, none⟩) 512 cap2) (by rfl) hx2 (fun X hX => by first | rfl | go_simp) ?_
  (try simp only [Act.put, List.setIfInBounds_toArray, List.set_cons_zero, List.set_cons_succ])
  refine tl_val (S := fun X => WkI w kk k4 g1 g4 g o X) (.pointer (some ⟨g, o, none⟩)) (by rfl) hx2 (fun X hX => (by have := HCP.out; first | rfl | go_simp)) ?_
  (try simp only [Act.put, List.setIfInBounds_toArray, List.set_cons_zero, List.set_cons_succ])
  refine tl_val (S := fun X => WkI w kk k4 g1 g4 g o X) (.int .u8 1) (by rfl) hx2 (fun X hX => ex_ld1 Tryd.underlying5 rfl rfl hX.c0) ?_
  (try simp only [Act.put, List.setIfInBounds_toArray, List.set_cons_zero, List.set_cons_succ])
  refine tl_val (S := fun X => WkI w kk k4 g1 g4 g o X) (.bool true) (by rfl) hx2 (fun X hX => by first | rfl | go_simp) ?_
  (try simp only [Act.put, List.setIfInBounds_toArray, List.set_cons_zero, List.set_cons_succ])
  refine tl_val (S := fun X => WkI w kk k4 g1 g4 g o X) (.bool true) (by rfl) hx2 (fun X hX => by first | rfl | go_simp) ?_
  (try simp only [Act.put, List.setIfInBounds_toArray, List.set_cons_zero, List.set_cons_succ])
  refine tl_val (S := fun X => WkI w kk k4 g1 g4 g o X) (.bool true) (by rfl) hx2 (fun X hX => by first | rfl | go_simp) ?_
  (try simp only [Act.put, List.setIfInBounds_toArray, List.set_cons_zero, List.set_cons_succ])
  refine tl_val (S := fun X => WkI w kk k4 g1 g4 g o X) (.slice (some ⟨g, o, none⟩) 512 cap2) (by rfl) hx2 (fun X hX => by first | rfl | go_simp) ?_
  (try simp only [Act.put, List.setIfInBounds_toArray, List.set_cons_zero, List.set_cons_succ])
  refine tl_val (S := fun X => WkI w kk k4 g1 g4 g o X) (.pointer (some ⟨g, o + 2, none⟩)) (by rfl) hx2 (fun X hX => (by have := HCP.out; first | rfl | go_simp)) ?_
  (try simp only [Act.put, List.setIfInBounds_toArray, List.set_cons_zero, List.set_cons_succ])
  refine tl_val (S := fun X => WkI w kk k4 g1 g4 g o X) (.int .u8 1) (by rfl) hx2 (fun X hX => ex_ld1 Tryd.underlying5 rfl rfl hX.c2) ?_
  (try simp only [Act.put, List.setIfInBounds_toArray, List.set_cons_zero, List.set_cons_succ])
  refine tl_val (S := fun X => WkI w kk k4 g1 g4 g o X) (.bool true) (by rfl) hx2 (fun X hX => by first | rfl | go_simp) ?_
  (try simp only [Act.put, List.setIfInBounds_toArray, List.set_cons_zero, List.set_cons_succ])
  refine tl_val (S := fun X => WkI w kk k4 g1 g4 g o X) (.bool true) (by rfl) hx2 (fun X hX => by first | rfl | go_simp) ?_
  (try simp only [Act.put, List.setIfInBounds_toArray, List.set_cons_zero, List.set_cons_succ])
  refine tl_val (S := fun X => WkI w kk k4 g1 g4 g o X) (.bool true) (by rfl) hx2 (fun X hX => by first | rfl | go_simp) ?_
  (try simp only [Act.put, List.setIfInBounds_toArray, List.set_cons_zero, List.set_cons_succ])
  refine tl_val (S := fun X => WkI w kk k4 g1 g4 g o X) (.slice (some ⟨g, o, none⟩) 512 cap2) (by rfl) hx2 (fun X hX => by first | rfl | go_simp) ?_
  (try simp only [Act.put, List.setIfInBounds_toArray, List.set_cons_zero, List.set_cons_succ])
  refine tl_val (S := fun X => WkI w kk k4 g1 g4 g o X) (.pointer (some ⟨g, o + 4, none⟩)) (by rfl) hx2 (fun X hX => (by have := HCP.out; first | rfl | go_simp)) ?_
  (try simp only [Act.put, List.setIfInBounds_toArray, List.set_cons_zero, List.set_cons_succ])
  refine tl_val (S := fun X => WkI w kk k4 g1 g4 g o X) (.int .u8 1) (by rfl) hx2 (fun X hX => ex_ld1 Tryd.underlying5 rfl rfl hX.c4) ?_
  (try simp only [Act.put, List.setIfInBounds_toArray, List.set_cons_zero, List.set_cons_succ])
  refine tl_val (S := fun X => WkI w kk k4 g1 g4 g o X) (.bool true) (by rfl) hx2 (fun X hX => by first | rfl | go_simp) ?_
  (try simp only [Act.put, List.setIfInBounds_toArray, List.set_cons_zero, List.set_cons_succ])
  refine tl_val (S := fun X => WkI w kk k4 g1 g4 g o X) (.bool true) (by rfl) hx2 (fun X hX => by first | rfl | go_simp) ?_
  (try simp only [Act.put, List.setIfInBounds_toArray, List.set_cons_zero, List.set_cons_succ])
  refine tl_val (S := fun X => WkI w kk k4 g1 g4 g o X) (.bool true) (by rfl) hx2 (fun X hX => by first | rfl | go_simp) ?_
  (try simp only [Act.put, List.setIfInBounds_toArray, List.set_cons_zero, List.set_cons_succ])
  refine tl_val (S := fun X => WkI w kk k4 g1 g4 g o X) (.slice (some ⟨g, o, none⟩) 512 cap2) (by rfl) hx2 (fun X hX => by first | rfl | go_simp) ?_
  (try simp only [Act.put, List.setIfInBounds_toArray, List.set_cons_zero, List.set_cons_succ])
  refine tl_val (S := fun X => WkI w kk k4 g1 g4 g o X) (.pointer (some ⟨g, o + 5, none⟩)) (by rfl) hx2 (fun X hX => (by have := HCP.out; first | rfl | go_simp)) ?_
  (try simp only [Act.put, List.setIfInBounds_toArray, List.set_cons_zero, List.set_cons_succ])
  refine tl_val (S := fun X => WkI w kk k4 g1 g4 g o X) (.int .u8 2) (by rfl) hx2 (fun X hX => ex_ld1 Tryd.underlying5 rfl rfl hX.c5) ?_
  (try simp only [Act.put, List.setIfInBounds_toArray, List.set_cons_zero, List.set_cons_succ])
  refine tl_val (S := fun X => WkI w kk k4 g1 g4 g o X) (.bool true) (by rfl) hx2 (fun X hX => by first | rfl | go_simp) ?_
  (try simp only [Act.put, List.setIfInBounds_toArray, List.set_cons_zero, List.set_cons_succ])
  refine tl_val (S := fun X => WkI w kk k4 g1 g4 g o X) (.bool true) (by rfl) hx2 (fun X hX => by first | rfl | go_simp) ?_
  (try simp only [Act.put, List.setIfInBounds_toArray, List.set_cons_zero, List.set_cons_succ])
  refine tl_val (S := fun X => WkI w kk k4 g1 g4 g o X) (.bool true) (by rfl) hx2 (fun X hX => by first | rfl | go_simp) ?_
  (try simp only [Act.put, List.setIfInBounds_toArray, List.set_cons_zero, List.set_cons_succ])
  refine tl_val (S := fun X => WkI w kk k4 g1 g4 g o X) (.int .i64 0) (by rfl) hx2 (fun X hX => by first | rfl | go_simp) ?_
  (try simp only [Act.put, List.setIfInBounds_toArray, List.set_cons_zero, List.set_cons_succ])
  refine tl_val (S := fun X => WkI w kk k4 g1 g4 g o X) (.bool true) (by rfl) hx2 (fun X hX => by first | rfl | go_simp) ?_
  (try simp only [Act.put, List.setIfInBounds_toArray, List.set_cons_zero, List.set_cons_succ])
  refine tl_val (S := fun X => WkI w kk k4 g1 g4 g o X) (.bool true) (by rfl) hx2 (fun X hX => by first | rfl | go_simp) ?_
  (try simp only [Act.put, List.setIfInBounds_toArray, List.set_cons_zero, List.set_cons_succ])
  refine tl_val (S := fun X => WkI w kk k4 g1 g4 g o X) (.bool true) (by rfl) hx2 (fun X hX => by first | rfl | go_simp) ?_
  (try simp only [Act.put, List.setIfInBounds_toArray, List.set_cons_zero, List.set_cons_succ])
  refine tl_val (S := fun X => WkI w kk k4 g1 g4 g o X) (.pointer (some ⟨g4, 0, none⟩)) (by rfl) hx2 (fun X hX => (ex_iaB (k := 0) (by omega) rfl rfl rfl)) ?_
  (try simp only [Act.put, List.setIfInBounds_toArray, List.set_cons_zero, List.set_cons_succ])
  refine tl_val (S := fun X => WkI w kk k4 g1 g4 g o X) (.agg (icells kk).toArray) (by rfl) hx2 (fun X hX => ex_ldEI HKB.out hX.b HK0.out rfl rfl rfl) ?_
  (try simp only [Act.put, List.setIfInBounds_toArray, List.set_cons_zero, List.set_cons_succ])
  refine tl_val (S := fun X => WkI w kk k4 g1 g4 g o X) (.agg (icells kk).toArray) (by rfl) hx2 (fun X hX => ex_ldIn HKO.out hX.a rfl rfl) ?_
  (try simp only [Act.put, List.setIfInBounds_toArray, List.set_cons_zero, List.set_cons_succ])
  refine tl_val (S := fun X => WkI w kk k4 g1 g4 g o X) (.bool true) (by rfl) hx2 (fun X hX => ex_eqIb (eqI_same kk) rfl rfl rfl HKO.out HKO.out) ?_
  (try simp only [Act.put, List.setIfInBounds_toArray, List.set_cons_zero, List.set_cons_succ])
  refine tl_val (S := fun X => WkI w kk k4 g1 g4 g o X) (.bool true) (by rfl) hx2 (fun X hX => by first | rfl | go_simp) ?_
  (try simp only [Act.put, List.setIfInBounds_toArray, List.set_cons_zero, List.set_cons_succ])
  refine tl_val (S := fun X => WkI w kk k4 g1 g4 g o X) (.bool true) (by rfl) hx2 (fun X hX => by first | rfl | go_simp) ?_
  (try simp only [Act.put, List.setIfInBounds_toArray, List.set_cons_zero, List.set_cons_succ])
  refine tl_call (by rfl) 15 #[.int .u32 513] (by go_simp) (fun u X => u = .int .i64 ((2 : Nat) : Int) ∧ WkI w kk k4 g1 g4 g o X) ((count_any 513 (by omega) _).mono fun e Y ⟨e1, hb⟩ => ⟨_, e1, rfl, by rw [hb]; exact hx2⟩) ?_
  rintro u X3 ⟨rfl, hx3⟩
  (try simp only [Act.put, List.setIfInBounds_toArray, List.set_cons_zero, List.set_cons_succ])
  refine tl_val (S := fun X => WkI w kk k4 g1 g4 g o X) (.bool true) (by rfl) hx3 (fun X hX => by first | rfl | go_simp) ?_
  (try simp only [Act.put, List.setIfInBounds_toArray, List.set_cons_zero, List.set_cons_succ])
  refine tl_val (S := fun X => WkI w kk k4 g1 g4 g o X) (.bool true) (by rfl) hx3 (fun X hX => by first | rfl | go_simp) ?_
  (try simp only [Act.put, List.setIfInBounds_toArray, List.set_cons_zero, List.set_cons_succ])
  refine tl_val (S := fun X => WkI w kk k4 g1 g4 g o X) (.bool true) (by rfl) hx3 (fun X hX => by first | rfl | go_simp) ?_
  (try simp only [Act.put, List.setIfInBounds_toArray, List.set_cons_zero, List.set_cons_succ])
  refine tl_call (by rfl) 16 #[.int .u8 2] (by go_simp) (fun u X => u = .int .u8 ((2 : Nat) : Int) ∧ WkI w kk k4 g1 g4 g o X) ((leaf11_any 2 _).mono fun e Y ⟨e1, hb⟩ => ⟨_, e1, rfl, by rw [hb]; exact hx3⟩) ?_
  rintro u X4 ⟨rfl, hx4⟩
  (try simp only [Act.put, List.setIfInBounds_toArray, List.set_cons_zero, List.set_cons_succ])
  refine tl_val (S := fun X => WkI w kk k4 g1 g4 g o X) (.bool true) (by rfl) hx4 (fun X hX => by first | rfl | go_simp) ?_
  (try simp only [Act.put, List.setIfInBounds_toArray, List.set_cons_zero, List.set_cons_succ])
  refine tl_val (S := fun X => WkI w kk k4 g1 g4 g o X) (.bool true) (by rfl) hx4 (fun X hX => by first | rfl | go_simp) ?_
  (try simp only [Act.put, List.setIfInBounds_toArray, List.set_cons_zero, List.set_cons_succ])
  refine tl_val (S := fun X => WkI w kk k4 g1 g4 g o X) (.bool true) (by rfl) hx4 (fun X hX => by first | rfl | go_simp) ?_
  (try simp only [Act.put, List.setIfInBounds_toArray, List.set_cons_zero, List.set_cons_succ])
  refine wpList_nil ?_
  have HX := hx4
  have HE := Lib.hid HX.bel
  clear HX
  go_wp2_with fail
  go_ret
  exact ⟨rfl, HE.out⟩
end Go.Proofs.YtecngehkdjmjmaaDoor
