/- Inodes: Take. -/
import Derived.Test.YtecngehkdjmjmaaDoorM11
namespace Go.Proofs.YtecngehkdjmjmaaDoor
open Go.RowKit

/-- So many inodes read. -/
def StI (l : Bs) (k : Nat) (rest : Bs) (ee : Nat) (ns : List Ino) : Prop := rest.length ≤ l.length ∧ BOK ns ∧ ((ee = 0 ∧ rest = l.drop (128 * k) ∧ 128 * k ≤ l.length ∧ ∀ j, j < k → ns[j]? = some (ino (l.drop (128 * j))) ∧ quietI (l.drop (128 * j)) = true) ∨ (ee ≠ 0 ∧ inoOk l = false))
theorem inoOk_no {l : Bs} {j : Nat} (hj : j < 4) (h : fineI (l.drop (128 * j)) = false) : inoOk l = false := by
  unfold inoOk
  have : ((List.range 4).all fun j => fineI (l.drop (128 * j))) = false := by rw [List.all_eq_false]; exact ⟨j, List.mem_range.2 hj, by simp [h]⟩
  rw [this]; simp
theorem inoOk_len {l : Bs} (h : l.length ≠ 512) : inoOk l = false := by unfold inoOk; rw [decide_eq_false h]; rfl
theorem iget_set_lt {α : Type} {l : List α} {k : Nat} {f : Nat → α} {q : Nat → Prop} (hk : k < l.length) (h : ∀ i, i < k → l[i]? = some (f i) ∧ q i) (hq : q k) : ∀ j, j < k + 1 → (l.set k (f k))[j]? = some (f j) ∧ q j := fun j hj => by
  by_cases e : k = j
  · subst e; rw [List.getElem?_set_self hk]; exact ⟨rfl, hq⟩
  · rw [List.getElem?_set_ne e]; exact h j (by omega)
theorem StI.next {l : Bs} {k : Nat} {rest rest' : Bs} {ee ee' : Nat} {ns : List Ino} {n : Ino} (h : StI l k rest ee ns) (hk : k < 4) (hn : n.OK) (hl : rest'.length ≤ rest.length) (hr : (ee' = 0 ∧ ee = 0 ∧ 128 ≤ rest.length ∧ rest' = rest.drop 128 ∧ n = ino rest ∧ quietI rest = true) ∨ (ee' ≠ 0 ∧ Bad128 rest ee)) : StI l (k + 1) rest' ee' (ns.set k n) := by
  obtain ⟨h1, h2, h3⟩ := h
  refine ⟨Nat.le_trans hl h1, h2.set k hn, ?_⟩
  rcases hr with ⟨a1, a2, a3, a4, a5, a6⟩ | ⟨a1, a2⟩
  · rcases h3 with ⟨b1, b2, b3, b4⟩ | ⟨b1, b2⟩
    · subst b2
      rw [List.length_drop] at a3
      refine .inl ⟨a1, by rw [a4, List.drop_drop]; congr 1, by omega, ?_⟩
      rw [a5]
      exact iget_set_lt (f := fun j => ino (l.drop (128 * j))) (q := fun j => quietI (l.drop (128 * j)) = true) (by rw [h2.len]; exact hk) b4 a6
    · exact absurd a2 b1
  · refine .inr ⟨a1, ?_⟩
    rcases h3 with ⟨b1, b2, b3, b4⟩ | ⟨b1, b2⟩
    · subst b2
      rcases a2 with c | c | c
      · exact absurd b1 c
      · rw [List.length_drop] at c
        exact inoOk_len (by omega)
      · exact inoOk_no hk c
    · exact b2
/-- The error in the end. -/
theorem StI.fin {l rest : Bs} {ee : Nat} {ns : List Ino} (h : StI l 4 rest ee ns) : (endOf rest ee ≠ 0 → inoOk l = false) ∧ (endOf rest ee = 0 → inoOk l = allMay ns ∧ (allMay ns = true → ns = inoT l)) := by
  obtain ⟨h1, h2, h3⟩ := h
  rcases h3 with ⟨b1, b2, b3, b4⟩ | ⟨b1, b2⟩
  · subst b1 b2
    have e1 : endOf (l.drop (128 * 4)) 0 = if l.length = 512 then 0 else 5 := by
      unfold endOf leftOf badOf
      rw [if_pos rfl, List.length_drop]
      by_cases h : l.length = 512
      · rw [if_pos h, if_pos (by omega)]
      · rw [if_neg h, if_neg (by omega)]; rfl
    rw [e1]
    by_cases h : l.length = 512
    · rw [if_pos h]
      have hns : ns = inoL l := by
        apply List.ext_getElem?
        intro j
        by_cases hj : j < 4
        · rw [(b4 j hj).1]; simp [inoL, hj]
        · rw [List.getElem?_eq_none (by rw [h2.len]; omega), List.getElem?_eq_none (by simp [inoL]; omega)]
      have hok : inoOk l = allMay ns := by
        rw [hns]
        unfold inoOk allMay inoL
        rw [decide_eq_true h, List.all_map, Bool.true_and, Bool.eq_iff_iff, List.all_eq_true, List.all_eq_true]
        have hf : ∀ j, j < 4 → fineI (l.drop (128 * j)) = mayI (ino (l.drop (128 * j))) := fun j hj => by unfold fineI; rw [(b4 j hj).2]; rfl
        constructor
        · intro H j hj; have := H j hj; rw [hf j (List.mem_range.1 hj)] at this; exact this
        · intro H j hj; rw [hf j (List.mem_range.1 hj)]; exact H j hj
      exact ⟨fun h => absurd rfl h, fun _ => ⟨hok, fun ha => by unfold inoT; rw [if_pos (by rw [hok]; exact ha)]; exact hns⟩⟩
    · rw [if_neg h]
      exact ⟨fun _ => inoOk_len h, fun h => by cases h⟩
  · refine ⟨fun _ => b2, fun h => ?_⟩
    unfold endOf leftOf badOf at h
    rw [if_neg b1, if_pos rfl] at h
    exact absurd h b1
def ITakePost (l : Bs) (w : World) (x : Ending) (w' : World) : Prop := x = .returned (.tuple #[.agg (bcells (inoT l)).toArray, .int .i64 (inoE l : Int)]) ∧ Below w.heap.size w w'
structure TkB (w : World) (L H G : Nat) (ns : List Ino) (rest : Bs) (ee : Nat) (W : World) : Prop where
  res : Blk W w.heap.size (bcells zeros4) 34
  b : Blk W G (bcells ns) 34
  rd : RdAt W H (fun g => L ≤ g ∧ g < H) rest ee
  bel : Below w.heap.size w W
  hH : w.heap.size + 1 ≤ H ∧ H < G
theorem TkB.read {w W W' : World} {L H G : Nat} {ns : List Ino} {rest rest' : Bs} {ee ee' : Nat} (h : TkB w L H G ns rest ee W) (hr : RdAt W' H (fun g => L ≤ g ∧ g < H) rest' ee') (hb : ButFor H W W') : TkB w L H G ns rest' ee' W' :=
  have h1 := h.hH
  ⟨hb.blk h.res (by omega), hb.blk h.b (by omega), hr, h.bel.trans (hb.below (by omega) h.bel.size), h.hH⟩
theorem TkB.grown {w W W' : World} {L H G : Nat} {ns : List Ino} {rest : Bs} {ee : Nat} (h : TkB w L H G ns rest ee W) (hb : Below W.heap.size W W') : TkB w L H G ns rest ee W' :=
  ⟨h.res.below hb h.res.lt, h.b.below hb h.b.lt, h.rd.below hb (Nat.le_refl _), h.bel.trans (hb.mono h.bel.size), h.hH⟩
theorem TkB.put {w W : World} {L H G : Nat} {ns : List Ino} {rest : Bs} {ee : Nat} (h : TkB w L H G ns rest ee W) (hn : BOK ns) {k : Nat} (hk : k < 4) {q : Ino} (hq : q.OK) : TkB w L H G (ns.set k q) rest ee (W.setCells G (k * 44) (icells q)) :=
  have h1 := h.hH
  ⟨blk_setCells_other (by omega) _ _ _ _ h.res, blk_setI hn h.b hk (Nat.mul_comm k 44) hq, h.rd.other (J := G) (ButFor.sets _ _ _ (ButFor.refl _ _)) (by omega) (fun hk => by omega), below_setsI _ _ _ h.bel (by omega), h1⟩
set_option maxRecDepth 100000 in
set_option maxHeartbeats 8000000 in
theorem itake_any (l : Bs) (sp : Option Addr) (cap : Nat) (w : World) (hl : l.length ≤ 100000) (hz : sp = none → cap = 0) (hc : l.length ≤ cap) (hS : SrcA w sp l) (hT : RTab w) : Calls Tryd.prog 13 #[.slice sp l.length cap] w (ITakePost l w) := by
  have HL := Lib.hid hl; have HT := Lib.hid hT
  have HB : Hid (Blk (w.alloc (.cells (bcells zeros4).toArray 34)) w.heap.size (bcells zeros4) 34) := Lib.hid (Blk.new _ _ _)
  have HW : Hid (Below w.heap.size w (w.alloc (.cells (bcells zeros4).toArray 34))) := Lib.hid ((Below.refl _ _).alloc (Nat.le_refl _) _)
  obtain ⟨N, hN⟩ : ∃ N, l.length = N := ⟨_, rfl⟩
  have HN := Lib.hid hN
  have HNW : Hid (∀ W, Below w.heap.size w W → Calls Tryd.prog 22 #[.slice sp N cap] W (RetRd l W)) := Lib.hid fun W hb => by
    have h1 := new_any l sp cap W hl hz hc (hS.grown hb)
    rw [hN] at h1
    exact h1
  have HSZ1 : Hid ((w.alloc (.cells (bcells zeros4).toArray 34)).heap.size = w.heap.size + 1) := Lib.hid (by simp)
  rw [hN]
  generalize hPost : ITakePost l w = Post
  have HQ : Hid (∀ x w', ITakePost l w x w' → Post x w') := Lib.hid fun x w' h => by rw [← hPost]; exact h
  clear hl hz hc hS hT hPost hN
  go_enter Tryd.func13, Tryd.ntmps13
  go_upto_region 1 with fail
  refine (fun (k : ∀ W, Blk W w.heap.size (bcells zeros4) 34 → Below w.heap.size w W → W.heap.size = w.heap.size + 1 → Code.wp _ _ _ _ W) => k _ HB.out HW.out HSZ1.out) ?_
  intro W0 hb hw hs
  have HB0 := Lib.hid hb; have HW0 := Lib.hid hw; have HS0 := Lib.hid hs
  clear hb hw hs HB HW HSZ1
  go_wp2_with fail
  refine (HNW.out W0 HW0.out).mono ?_
  rintro e1 W1 ⟨H, rfl, hrd, hH, hb1⟩
  have HRD := Lib.hid hrd; have HH := Lib.hid hH; have HB1 := Lib.hid hb1
  clear hrd hH hb1 HNW
  go_upto_region 3 with fail
  have hx : ∀ z, z = (bcells zeros4).toArray → TkB w W0.heap.size H W1.heap.size zeros4 l 0 (W1.alloc (.cells z 34)) := fun z hz => by
    subst hz
    have h1 := HS0.out
    have h2 := HH.out
    have h3 := HRD.out.lt
    have hg : Below W1.heap.size W1 (W1.alloc (.cells (bcells zeros4).toArray 34)) := (Below.refl _ _).alloc (Nat.le_refl _) _
    have hw1 : Below w.heap.size w W1 := HW0.out.trans (HB1.out.mono (by omega))
    exact ⟨(HB0.out.below HB1.out (by omega)).alloc _, Blk.new _ _ _, HRD.out.below hg (Nat.le_refl _), hw1.trans (hg.mono hw1.size), by omega⟩
  refine (fun (k : ∀ W, TkB w W0.heap.size H W1.heap.size zeros4 l 0 W → Code.wp _ _ _ _ W) => k _ (hx _ rfl)) ?_
  intro W2 hx2
  obtain ⟨G, hG⟩ : ∃ g, W1.heap.size = g := ⟨_, rfl⟩
  obtain ⟨L, hLo⟩ : ∃ g, W0.heap.size = g := ⟨_, rfl⟩
  have HTH0 : Hid (0 < H) := Lib.hid (by have := HT.out.lt; have := HH.out; have := HS0.out; omega)
  rw [hG, hLo] at hx2
  rw [hG]
  have HX := Lib.hid hx2
  clear hx hx2 hG hLo HRD HB1 HB0 HW0 HH HS0
  have HZO := Lib.hid zeros4_ok
  have HST0 : Hid (StI l 0 l 0 zeros4) := Lib.hid ⟨Nat.le_refl _, HZO.out, .inl ⟨rfl, by simp, by omega, fun j hj => by omega⟩⟩
  go_wp2_with fail
  go_loopw [9] (fun i wr => ∃ (k : Nat) (ns : List Ino) (rest : Bs) (ee : Nat), k ≤ 4 ∧ i = .int .i64 (k : Int) ∧ StI l k rest ee ns ∧ TkB w L H G ns rest ee wr) (fun i _ => 4 - (intOf i).toNat)
  case atStart => exact ⟨0, zeros4, l, 0, by omega, rfl, HST0.out, HX.out⟩
  case round =>
    clear HX HST0
    obtain ⟨k, ns, rest, ee, hk, rfl, hst, hX⟩ := hrel
    have HX := Lib.hid hX; have HST := Lib.hid hst
    have HBO := Lib.hid hst.2.1
    have wk1 := IntWalk.i64_in ((k : Int) + 1) (by omega)
    have hgl := hX.hH
    have hRT := HT.out.grown hX.bel
    have hTK := take1_any rest ee H wr hX.rd (fun g hg => by have := hX.b.lt; omega) (Nat.le_trans hst.1 HL.out) hRT (by have := HTH0.out; omega)
    have HTK := Lib.hid hTK
    clear hX hst hgl hRT hTK
    by_cases hlt : k < 4
    · go_wp2_with fail
      refine HTK.out.mono ?_
      rintro e w3 ⟨⟨n, rest', ee', rfl, hno, hrd, hrl, hres⟩, hbf⟩
      have hx3 := HX.out.read hrd hbf
      have HX4 := Lib.hid (hx3.put HBO.out hlt hno)
      have HS4 := Lib.hid (HST.out.next hlt hno hrl hres)
      have HTH : Hid (w3.there G (k * 44) (icells n).toArray.size) := Lib.hid (hx3.b.there _ _ (by rw [List.size_toArray, icells_length hno, HBO.out.cells]; omega))
      have HSZ := Lib.hid (size_icI hno)
      have HLT := Lib.hid hlt
      clear hno hrd hrl hres hbf hx3 HX HST HTK
      go_wp2_with (first | (refine wpL_valG (by rfl) (ex_iaB HLT.out rfl rfl rfl) ?_) | (refine wpList_store_mid rfl 32 (.tmp 15) (.tmp 14) rfl G (k * 44) (icells n).toArray rfl rfl HTH.out HSZ.out (one_ic n) ?_) | fail)
      go_roundw
      case rel => exact ⟨k + 1, _, _, _, by omega, by go_num, HS4.out, HX4.out⟩
      case measure => simp [intOf]; omega
    · obtain rfl : k = 4 := by omega
      rw [show ((4 : Nat) : Int) = (4 : Int) from rfl]
      have HFI := Lib.hid HST.out.fin
      obtain ⟨E, hE⟩ : ∃ E, endOf rest ee = E := ⟨_, rfl⟩
      have HE := Lib.hid hE
      have hend := end_any H rest ee wr.drew (HX.out.grown (Below.refl _ _).drew).rd
      rw [hE] at hend HFI
      have HSB := Lib.hid (size_bcB HBO.out)
      have HAO := Lib.hid (allow_ok HBO.out)
      clear hlt hk hE HTK wk1
      go_upto_region 8 with fail
      have hs0 : Blk wr.drew G (bcells ns) 34 := HX.out.b.drew
      have hX0 := HX.out.grown (Below.refl _ _).drew
      by_cases hE0 : E = 0
      · subst hE0
        have hal := HFI.out.2 rfl
        obtain ⟨eb, heb⟩ : ∃ b, decide (ns = allow ns) = b := ⟨_, rfl⟩
        have HEB := Lib.hid heb
        clear heb
        refine wp_region_sched (.take 0 (.step 1 (.take 2 (.take 3 (.take 4 (.take 5 (.step 6 (.take 7 (.take 8 (.nil)))))))))) (by kernel_rfl) (by kernel_rfl) (fun d _ _ _ _ h => by cases d <;> exact h) (fun X => Blk X G (bcells ns) 34) (hs0) ?_
        refine wpG_take _ (.pointer (some ⟨H, 0, none⟩)) rfl (by rfl) (fun X hX => by first | rfl | go_simp) ?_
        (try simp only [Act.put, List.setIfInBounds_toArray, List.set_cons_zero, List.set_cons_succ])
        refine wpG_call _ rfl (by rfl) 24 #[.pointer (some ⟨H, 0, none⟩)] (fun X => by go_simp) (fun u X => u = .int .i64 ((0 : Nat) : Int) ∧ TkB w L H G ns rest 0 X) (hend.mono fun e X ⟨e1, e2, e3⟩ => ⟨_, e1, (hX0.read e2 e3).b, rfl, hX0.read e2 e3⟩) ?_
        rintro u X5 hs5 ⟨rfl, hX5⟩
        refine ⟨fun X => Blk X G (bcells ns) 34, fun _ h => h, hs5, ?_⟩
        (try simp only [Act.put, List.setIfInBounds_toArray, List.set_cons_zero, List.set_cons_succ])
        refine wpG_take _ (.bool false) rfl (by rfl) (fun X hX => by first | rfl | go_simp) ?_
        (try simp only [Act.put, List.setIfInBounds_toArray, List.set_cons_zero, List.set_cons_succ])
        refine wpG_take _ (.bool false) rfl (by rfl) (fun X hX => by first | rfl | go_simp) ?_
        (try simp only [Act.put, List.setIfInBounds_toArray, List.set_cons_zero, List.set_cons_succ])
        refine wpG_take _ (.agg (bcells ns).toArray) rfl (by rfl) (fun X hX => ex_ldBn HBO.out hX rfl rfl) ?_
        (try simp only [Act.put, List.setIfInBounds_toArray, List.set_cons_zero, List.set_cons_succ])
        refine wpG_take _ (.agg (bcells ns).toArray) rfl (by rfl) (fun X hX => ex_ldBn HBO.out hX rfl rfl) ?_
        (try simp only [Act.put, List.setIfInBounds_toArray, List.set_cons_zero, List.set_cons_succ])
        refine wpG_call _ rfl (by rfl) 19 #[.agg (bcells ns).toArray] (fun X => by go_simp) (fun u X => u = .agg (bcells (allow ns)).toArray ∧ TkB w L H G ns rest 0 X) ((allowed_any ns HBO.out X5 (HT.out.grown hX5.bel)).mono fun e X ⟨e1, e2⟩ => ⟨_, e1, (hX5.grown e2).b, rfl, hX5.grown e2⟩) ?_
        rintro u X7 hs7 ⟨rfl, hX7⟩
        refine ⟨fun X => Blk X G (bcells ns) 34, fun _ h => h, hs7, ?_⟩
        (try simp only [Act.put, List.setIfInBounds_toArray, List.set_cons_zero, List.set_cons_succ])
        refine wpG_take _ (.bool (!eb)) rfl (by rfl) (fun X hX => (ex_neBn HBO.out HAO.out rfl rfl rfl).trans (by rw [HEB.out])) ?_
        (try simp only [Act.put, List.setIfInBounds_toArray, List.set_cons_zero, List.set_cons_succ])
        refine wpG_take _ (.bool (!eb)) rfl (by rfl) (fun X hX => by first | rfl | go_simp) ?_
        (try simp only [Act.put, List.setIfInBounds_toArray, List.set_cons_zero, List.set_cons_succ])
        refine wpG_nil ?_
        have hrv : allMay ns = eb := by rw [← HEB.out, Bool.eq_iff_iff, decide_eq_true_iff]; exact (allow_eq ns).symm
        have HBE := Lib.hid hX7.bel
        have HRS := Lib.hid hX7.res
        have HBB := Lib.hid hs7
        cases eb
        · have hv : inoE l = 5 ∧ inoT l = zeros4 := by unfold inoE inoT; rw [hal.1, hrv]; exact ⟨rfl, rfl⟩
          have HV := Lib.hid hv
          have HSZ := Lib.hid (size_bcB zeros4_ok)
          have HON := Lib.hid (bcells_one zeros4)
          clear hv hal hrv hX7 hs7 hX0 hs0 hend HX HST
          go_wp2_with (first | (refine wpL_val rfl (ex_bldB0 rfl) ?_) | (refine wpList_store_row rfl 34 (.tmp 2) (.tmp 26) rfl w.heap.size (bcells zeros4).toArray rfl rfl 34 _ HRS.out HSZ.out rfl HON.out ?_) | fail)
          refine bodyPost_ret (results_ctI Tryd.results13 _ _ w.heap.size 34 _ rfl (HRS.out.row _) Tryd.underlying34 (size_bcBl zeros4_ok)) rfl (HQ.out _ _ ⟨?_, below_row HBE.out (Nat.le_refl _) _⟩)
          rw [HV.out.1, HV.out.2]; rfl
        · have hv : inoE l = 0 ∧ inoT l = ns := ⟨by unfold inoE; rw [hal.1, hrv]; rfl, (hal.2 hrv).symm⟩
          have HV := Lib.hid hv
          have HON := Lib.hid (bcells_one ns)
          have HSZ : Hid ((bcells zeros4).toArray.size = (bcells ns).toArray.size) := Lib.hid (by rw [zeros4_ok.size, HBO.out.size])
          clear hv hal hrv hX7 hs7 hX0 hs0 hend HX HST
          go_wp2_with (first | (refine wpL_val rfl (ex_ldBn HBO.out HBB.out rfl rfl) ?_) | (refine wpList_store_row rfl 34 (.tmp 2) (.tmp 27) rfl w.heap.size (bcells ns).toArray rfl rfl 34 _ HRS.out HSB.out HSZ.out HON.out ?_) | fail)
          refine bodyPost_ret (results_ctI Tryd.results13 _ _ w.heap.size 34 _ rfl (HRS.out.row _) Tryd.underlying34 (size_bcBl HBO.out)) rfl (HQ.out _ _ ⟨?_, below_row HBE.out (Nat.le_refl _) _⟩)
          rw [HV.out.1, HV.out.2]; rfl
      · have i0 : ¬ (E : Int) = 0 := by omega
        have hno := HFI.out.1 hE0
        refine wp_region_sched (.take 0 (.step 1 (.take 2 (.take 3 (.take 4 (.take 5 (.step 6 (.take 7 (.take 8 (.nil)))))))))) (by kernel_rfl) (by kernel_rfl) (fun d _ _ _ _ h => by cases d <;> exact h) (fun X => Blk X G (bcells ns) 34) (hs0) ?_
        refine wpG_take _ (.pointer (some ⟨H, 0, none⟩)) rfl (by rfl) (fun X hX => by first | rfl | go_simp) ?_
        (try simp only [Act.put, List.setIfInBounds_toArray, List.set_cons_zero, List.set_cons_succ])
        refine wpG_call _ rfl (by rfl) 24 #[.pointer (some ⟨H, 0, none⟩)] (fun X => by go_simp) (fun u X => u = .int .i64 (E : Int) ∧ TkB w L H G ns rest E X) (hend.mono fun e X ⟨e1, e2, e3⟩ => ⟨_, e1, (hX0.read e2 e3).b, rfl, hX0.read e2 e3⟩) ?_
        rintro u X5 hs5 ⟨rfl, hX5⟩
        refine ⟨fun X => Blk X G (bcells ns) 34, fun _ h => h, hs5, ?_⟩
        (try simp only [Act.put, List.setIfInBounds_toArray, List.set_cons_zero, List.set_cons_succ])
        refine wpG_take _ (.bool true) rfl (by rfl) (fun X hX => by first | rfl | go_simp) ?_
        (try simp only [Act.put, List.setIfInBounds_toArray, List.set_cons_zero, List.set_cons_succ])
        refine wpG_take _ (.bool true) rfl (by rfl) (fun X hX => by first | rfl | go_simp) ?_
        (try simp only [Act.put, List.setIfInBounds_toArray, List.set_cons_zero, List.set_cons_succ])
        refine wpG_pass _ rfl (by rfl) ?_
        (try simp only [Act.put, List.setIfInBounds_toArray, List.set_cons_zero, List.set_cons_succ])
        refine wpG_pass _ rfl (by rfl) ?_
        (try simp only [Act.put, List.setIfInBounds_toArray, List.set_cons_zero, List.set_cons_succ])
        refine wpG_skip _ rfl (by rfl) hs5 ?_
        (try simp only [Act.put, List.setIfInBounds_toArray, List.set_cons_zero, List.set_cons_succ])
        refine wpG_pass _ rfl (by rfl) ?_
        (try simp only [Act.put, List.setIfInBounds_toArray, List.set_cons_zero, List.set_cons_succ])
        refine wpG_take _ (.bool true) rfl (by rfl) (fun X hX => by first | rfl | go_simp) ?_
        (try simp only [Act.put, List.setIfInBounds_toArray, List.set_cons_zero, List.set_cons_succ])
        refine wpG_nil ?_
        have hX7 := hX5
        have hs7 := hs5
        have hv : inoE l = 5 ∧ inoT l = zeros4 := by unfold inoE inoT; rw [hno]; exact ⟨rfl, rfl⟩
        have HV := Lib.hid hv
        have HBE := Lib.hid hX7.bel
        have HRS := Lib.hid hX7.res
        have HSZ := Lib.hid (size_bcB zeros4_ok)
        have HON := Lib.hid (bcells_one zeros4)
        clear hv hno hX7 hs7 hX0 hs0 hend HX HST
        go_wp2_with (first | (refine wpL_val rfl (ex_bldB0 rfl) ?_) | (refine wpList_store_row rfl 34 (.tmp 2) (.tmp 26) rfl w.heap.size (bcells zeros4).toArray rfl rfl 34 _ HRS.out HSZ.out rfl HON.out ?_) | fail)
        refine bodyPost_ret (results_ctI Tryd.results13 _ _ w.heap.size 34 _ rfl (HRS.out.row _) Tryd.underlying34 (size_bcBl zeros4_ok)) rfl (HQ.out _ _ ⟨?_, below_row HBE.out (Nat.le_refl _) _⟩)
        rw [HV.out.1, HV.out.2]; rfl
end Go.Proofs.YtecngehkdjmjmaaDoor
