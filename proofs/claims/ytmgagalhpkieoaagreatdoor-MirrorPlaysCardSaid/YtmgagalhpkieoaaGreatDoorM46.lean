/- The document's mirror: Heal. -/
import Derived.Test.YtmgagalhpkieoaaGreatDoorM45
namespace Go.Proofs.YtmgagalhpkieoaaGreatDoor
open Go.RowKit

section
variable {ρ : Operand → Value} {o : Oper} {x y : Operand} {w : World}
theorem w_ldB {ad : Addr} {v : Value} (ho : o.op = .load 4 x) (hx : ρ x = .pointer (some ad)) (hc : w.cell? ad = some v) : (execOp ρ o).run Tryz.prog w = .ok (.value v) w := by
  unfold execOp; simp only [ho]; go_simp
theorem w_oneC {c : Cpy} (ho : o.op = .buildSlice 116 1 #[(0, x)]) (hx : ρ x = .agg (plc c).toArray) : (execOp ρ o).run Tryz.prog w = .ok (.value (.slice (some ⟨w.heap.size, 0, none⟩) 1 1)) (w.alloc (.cells (plc c).toArray 121)) := by
  unfold execOp
  simp only [ho]
  unfold plc at *
  go_simp
end
theorem ownC_app2 {w : World} {B : Nat} {v : Value} {l : List (Nat × Nat)} (x : Nat × Nat) (h : OwnC w B v l) (hB : B ≤ w.heap.size) (hl : l.length ≤ 1000) {g : Nat} {t : TypeId} (hg : Blk w g (plc x) t) (ty : TypeId) :
    ∃ v' w', (Builtin.append_ #[116, 116] ty #[v, .slice (some ⟨g, 0, none⟩) 1 1]).run Tryz.prog w = .ok v' w' ∧ OwnC w' B v' (l ++ [x]) ∧ w.grownBy w' v.ownBlock ∧ (v'.ownBlock = v.ownBlock ∨ v'.ownBlock = some w.heap.size) := by
  obtain ⟨i0, hi, hz0, hz1, hz2⟩ := info_partsC
  obtain ⟨v', w', hr, h2, h3, _, h5⟩ := run_append_own_at (P := Tryz.prog) w B 116 ty 121 i0 (.agg #[.int .i64 0, .int .u16 0]) 2 16 Tryz.underlying116 hi hz0 hz1 hz2 rfl (by decide) v l.length (cpcells l) h ⟨g, 0, none⟩ 1 1 [.int .i64 (x.1 : Int), .int .u16 (x.2 : Int)] rfl (fun j u hj => by
    rw [Addr.add_mid, Nat.zero_add]
    exact hg.cell hj) (by intro u hu; simp at hu; rcases hu with rfl | rfl <;> rfl) (by unfold maxLen; omega) (by omega) hB
  refine ⟨v', w', hr, ?_, h3, h5⟩
  unfold OwnC
  rw [cpcells_append, List.length_append]
  exact h2
theorem WhW.push {w Z : World} {lab0 lab : Nat → Nat} {V : Rl} {p : Pt} {vl vb : Value} {l bad : List Cpy} {y : Wi} (h : WhW w lab0 V p vl l vb bad lab y Z) (c : Cpy) (hl : bad.length ≤ 1000) (ty : TypeId) :
    ∃ v' Z2, (Builtin.append_ #[116, 116] ty #[vb, .slice (some ⟨Z.heap.size, 0, none⟩) 1 1]).run Tryz.prog (Z.alloc (.cells (plc c).toArray 121)) = .ok v' Z2 ∧ WhW w lab0 V p vl l v' (bad ++ [c]) lab y Z2 ∧ ∃ sp n cp, v' = .slice sp n cp := by
  have ha : Below Z.heap.size Z (Z.alloc (.cells (plc c).toArray 121)) := (Below.refl _ _).alloc (Nat.le_refl _) _
  have h1 := h.below ha
  have hwz : w.heap.size < Z.heap.size := h.pt.lt
  obtain ⟨v', Z2, hr, ho, hg, hob⟩ := ownC_app2 c h1.ob (by simp; omega) hl (g := Z.heap.size) (Blk.new Z (plc c) 121) ty
  have hc : Chg (fun b => vb.ownBlock = some b) Z Z2 := ((Chg.refl _ Z).alloc _).grown hg (fun k hk => .inl hk)
  have hn0 : ∀ b, lab b ≠ 0 → ¬ vb.ownBlock = some b := fun b hb e => hb (h.lb b e)
  have hbox : ¬ vb.ownBlock = some w.heap.size := fun e => by
    rcases h.ob.2 with ⟨e2, _⟩ | ⟨g', cap, cur, e2, _, hh, _⟩
    · rw [e2] at e; cases e
    · rw [e2] at e
      simp [Value.ownBlock] at e
      have hbk : Blk Z g' cur.toList 121 := by unfold Blk; simpa using hh
      rw [e] at hbk
      exact absurd (h.pt.same hbk) (by decide)
  refine ⟨v', Z2, hr, ⟨h.pt.chg hc hbox, h.lp, owns_chg h.ol hc (fun g hg2 e => h.ap g e hg2), h.ll, ho, fun g hg2 => ?_, fun g hg2 e => ?_, h.m.out hc (fun b hb => h.lb b hb), ?_⟩, own_slice3 ho⟩
  · rcases hob with e | e
    · exact h.lb g (by rw [← e]; exact hg2)
    · rw [e] at hg2
      simp only [Option.some.injEq, World.size_alloc] at hg2
      exact h.m.new (by omega)
  · rcases hob with e2 | e2
    · exact h.ap g (by rw [← e2]; exact hg2) e
    · rw [e2] at hg2
      simp only [Option.some.injEq, World.size_alloc] at hg2
      have := (World.ownsRow.lt h.ol g e).2
      omega
  · have hwb : ∀ b, vb.ownBlock = some b → w.heap.size ≤ b := fun b hb => (World.ownsRow.lt h.ob b hb).1
    refine ⟨(h.st.chg.trans hc (fun i hi => .inr (hwb i hi))), h.st.eq⟩
theorem illW_snoc (y : Wi) (p : Pt) (l : List Cpy) (c : Cpy) : ill kinR y p (l ++ [c]) = if (gd kinR y p c).isSome || (y.d c.1).dead then ill kinR y p l else ill kinR y p l ++ [c] := by
  unfold ill
  rw [List.filter_append]
  cases h1 : gd kinR y p c with
  | some b => simp [h1]
  | none =>
    cases h2 : (y.d c.1).dead with
    | true => simp [show kinR.dead (y.d c.1) = true from h2]
    | false => simp [h1, show kinR.dead (y.d c.1) = false from h2]
theorem firstW_snoc (y : Wi) (p : Pt) (l : List Cpy) (c : Cpy) : firstG kinR y p (l ++ [c]) = match firstG kinR y p l with | some b => some b | none => gd kinR y p c := by
  unfold firstG
  rw [List.findSome?_append]
  cases h : List.findSome? (gd kinR y p) l with
  | none => simp [List.findSome?]; cases gd kinR y p c <;> rfl
  | some b => simp
theorem foundsW_snoc (y : Wi) (l : List Cpy) (c : Cpy) : founds y (l ++ [c]) = { founds y l with f := upk (founds y l).f c.1 ((founds y l).f c.1 + 1) } := by
  unfold founds
  simp only [Mi.mk.injEq, true_and, and_true]
  funext k
  unfold upk cntC
  rw [List.countP_append]
  by_cases e : k = c.1
  · subst e; simp; omega
  · rw [if_neg e]
    simp [show (c.1 == k) = false by simp; omega]
theorem firstW_none {y : Wi} {p : Pt} {l : List Cpy} (h : firstG kinR y p l = none) : ∀ c ∈ l, (gd kinR y p c).isSome = false := fun c hc => by
  unfold firstG at h
  rw [List.findSome?_eq_none_iff] at h
  rw [h c hc]; rfl
theorem firstW_len {y : Wi} {p : Pt} {l : List Cpy} {b : d_Bs} (h : firstG kinR y p l = some b) : b.length = 512 := by
  unfold firstG at h
  obtain ⟨c, _, hc⟩ := List.exists_of_findSome?_eq_some h
  exact fits_len (gd_fits kinR hc)
theorem tillW_stop {y : Wi} {p : Pt} {l : List Cpy} {k : Nat} {c : Cpy} (hk : l[k]? = some c) (h : firstG kinR y p (l.take k) = none) (hc : (gd kinR y p c).isSome = true) : till (fun c => (gd kinR y p c).isSome) l = l.take (k + 1) := by
  obtain ⟨h1, h2⟩ := List.getElem?_eq_some_iff.1 hk
  have e : l = l.take k ++ c :: l.drop (k + 1) := by
    rw [← h2, List.getElem_cons_drop, List.take_append_drop]
  rw [take_one hk]
  conv => lhs; rw [e]
  exact till_stop (firstW_none h) hc
theorem tillW_all {y : Wi} {p : Pt} {l : List Cpy} (h : firstG kinR y p l = none) : till (fun c => (gd kinR y p c).isSome) l = l := till_all (firstW_none h)
theorem mendsW_snoc (p : Pt) (b : d_Bs) (y : Wi) (l : List Cpy) (c : Cpy) : mends kinR p b y (l ++ [c]) = mend1 kinR p b (mends kinR p b y l) c := by
  unfold mends
  rw [List.foldl_append]
  rfl
structure HlR (w : World) (lab0 : Nat → Nat) (V : Rl) (p : Pt) (all : Bool) (vl : Value) (l : List Cpy) (y : Wi) (k : Nat) (F : Option d_Bs) (vb : Value) (bad : List Cpy) (yk : Wi) (wr : World) : Prop where
  ff : firstG kinR y p (l.take k) = F
  fb : ill kinR y p (l.take k) = bad
  fy : founds y bad = yk
  ft : all = false → F.isSome = true → till (fun c => (gd kinR y p c).isSome) l = l.take k
  fw : WhT w lab0 V p vl l vb bad yk wr
def HlE (y : Wi) (p : Pt) (all : Bool) (e : Ending) : Prop := e = .returned (.tuple #[.string (bstr ((healB kinR y p all).getD [])), .int .i64 (healE kinR y p all)])
section
variable {w wr : World} {lab0 : Nat → Nat} {V : Rl} {p : Pt} {all : Bool} {vl vb : Value} {l bad : List Cpy} {y yk : Wi} {k : Nat} {F : Option d_Bs}
theorem HlR.seen (h : HlR w lab0 V p all vl l y k F vb bad yk wr) (hl : copiesP p = l) (hk : (all = true ∨ F = none) → l.take k = l) : seen kinR y p all = l.take k := by
  unfold Go.Proofs.YtmgagalhpkieoaaGreatDoor.seen
  rw [hl]
  cases all with
  | true => rw [if_pos rfl, hk (.inl rfl)]
  | false =>
    rw [if_neg (by decide)]
    cases F with
    | none =>
      have e := hk (.inr rfl)
      have h1 := h.ff
      rw [e] at h1 ⊢
      exact tillW_all h1
    | some b => exact h.ft rfl rfl
theorem HlR.none (h : HlR w lab0 V p all vl l y k none vb bad yk wr) (hp : mayP p = true) (hl : copiesP p = l) (hk : l.take k = l) : HlE y p all (.returned (.tuple #[.string (bstr []), .int .i64 21])) ∧ WmPost w lab0 V (healS kinR y p all) wr := by
  have hs := h.seen hl (fun _ => hk)
  obtain ⟨lab, hw⟩ := h.fw
  unfold HlE healB healE healS endS
  rw [if_pos hp, if_pos hp, if_pos hp, hs, h.ff, h.fb]
  simp only
  rw [h.fy]
  exact ⟨rfl, hw.fin⟩
theorem HlR.done {b : d_Bs} {W : World} (h : HlR w lab0 V p all vl l y k (some b) vb bad yk wr) (hp : mayP p = true) (hl : copiesP p = l) (hk : all = true → l.take k = l) (hW : WhT w lab0 V p vl l vb bad (mends kinR p b yk bad) W) : HlE y p all (.returned (.tuple #[.string (bstr b), .int .i64 0])) ∧ WmPost w lab0 V (healS kinR y p all) W := by
  have hs := h.seen hl (fun e => by rcases e with e | e; exact hk e; cases e)
  obtain ⟨lab, hw⟩ := hW
  unfold HlE healB healE healS endS
  rw [if_pos hp, if_pos hp, if_pos hp, hs, h.ff, h.fb]
  simp only
  rw [h.fy]
  exact ⟨rfl, hw.fin⟩
end
set_option maxRecDepth 100000 in
set_option maxHeartbeats 16000000 in
theorem wheal_any (p : Pt) (hp : p.OK) (all : Bool) (w : World) (lab : Nat → Nat) (V : Rl) (y : Wi) (n : Nat) (h : WmAt w lab V y) (hb : Bw y n) (hn : n < 880) :
    Calls Tryz.prog 10 #[.pointer (some ⟨V.M, 0, none⟩), .agg (pcells p).toArray, .bool all] w fun e w' => HlE y p all e ∧ WmPost w lab V (healS kinR y p all) w' := by
  have HP := Lib.hid hp; have HB := Lib.hid hb; have HN := Lib.hid hn; have HM := Lib.hid h
  have HPT : Hid (Blk (w.alloc (.cells (pcells p).toArray 58)) w.heap.size (pcells p) 58) := Lib.hid (Blk.new _ _ _)
  have HBW : Hid (Below w.heap.size w (w.alloc (.cells (pcells p).toArray 58))) := Lib.hid ((Below.refl _ _).alloc (Nat.le_refl _) _)
  have HOKc := Lib.hid (cps_ok hp)
  have HLN := Lib.hid (copies_len hp)
  have HMY := Lib.hid (mayP_eq hp.len)
  obtain ⟨Po, hPo⟩ : ∃ Po : Ending → World → Prop, (fun e w' => HlE y p all e ∧ WmPost w lab V (healS kinR y p all) w') = Po := ⟨_, rfl⟩
  have HPo : Hid (∀ e w', HlE y p all e ∧ WmPost w lab V (healS kinR y p all) w' → Po e w') := Lib.hid (fun e w' hh => by rw [← hPo]; exact hh)
  rw [hPo]
  clear hp h hb hn hPo
  go_enter Tryz.func10, Tryz.ntmps10
  go_upto_region 1 with fail
  generalize (w.alloc (.cells (pcells p).toArray 58)) = W at HPT HBW ⊢
  go_wp2_with (first | (refine wpL_val rfl (ex_ldPq HP.out HPT.out rfl rfl) ?_) | fail)
  refine (qmay_any p HP.out W).mono ?_
  rintro e W1 ⟨rfl, hb1⟩
  have HPT1 := Lib.hid (HPT.out.below hb1 HPT.out.lt)
  have HBW1 := Lib.hid (HBW.out.trans (hb1.mono HBW.out.size))
  clear hb1 HPT HBW
  obtain ⟨m, hm⟩ : ∃ m, mayR p = m := ⟨_, rfl⟩
  rw [hm] at HMY ⊢
  clear hm
  cases m with
  | false =>
    have HF : Hid (∀ X, Below w.heap.size w X → Po (.returned (.tuple #[.string { data := #[] }, .int .i64 1])) X) := Lib.hid (fun X hX => HPo.out _ _ (by
      unfold HlE healB healE healS
      rw [if_neg (by rw [HMY.out]; decide), if_neg (by rw [HMY.out]; decide), if_neg (by rw [HMY.out]; decide)]
      exact ⟨rfl, WmPost.of_below HM.out hX⟩))
    clear HPo
    go_wp2_with fail
    first | exact HF.out _ HBW1.out | (go_ret2; exact HF.out _ HBW1.out)
  | true =>
    go_wp2_with (first | (refine wpL_val rfl (ex_ldPq HP.out HPT1.out rfl rfl) ?_) | fail)
    refine (qcopies_any p HP.out W1).mono ?_
    rintro e W3 ⟨vl, rfl, ho3, hb3⟩
    have HW3 := Lib.hid (whw_start HM.out HPT1.out HBW1.out ho3 hb3)
    obtain ⟨l, hl⟩ : ∃ l, copiesP p = l := ⟨_, rfl⟩
    have HL := Lib.hid hl
    rw [hl] at HW3 HOKc HLN ho3
    obtain ⟨sp, cap, rfl, hcap, hsp⟩ := OwnC.form2 ho3
    obtain ⟨N, hN⟩ : ∃ N, l.length = N := ⟨_, rfl⟩
    rw [hN] at HW3 HLN hcap hsp ⊢
    have HNN := Lib.hid hN; have HCP := Lib.hid hcap; have HSP := Lib.hid hsp
    have HR0 : Hid (HlR w lab V p all (.slice sp N cap) l y 0 none (.slice none 0 0) [] y W3) := Lib.hid ⟨rfl, rfl, rfl, fun _ h => (by cases h), _, HW3.out⟩
    clear ho3 hb3 hl hcap hsp hN HPT1 HBW1 HM HW3
    go_upto_region 7 with fail
    rw [show (Value.string { data := #[] }) = Value.string (bstr ((none : Option d_Bs).getD [])) from rfl]
    go_loopw [9, 10, 11, 12] (fun vb u t i wr => ∃ (k : Nat) (F : Option d_Bs) (bad : List Cpy) (yk : Wi), k ≤ N ∧ i = .int .i64 (k : Int) ∧ u = .string (bstr (F.getD [])) ∧ t = .bool F.isSome ∧ HlR w lab V p all (.slice sp N cap) l y k F vb bad yk wr) (fun _ _ _ i _ => N - (intOf i).toNat)
    case atStart => exact ⟨0, none, [], y, by omega, rfl, rfl, rfl, HR0.out⟩
    case round =>
      clear HR0
      obtain ⟨k, F, bad, yk, hk, rfl, rfl, rfl, hr⟩ := hrel
      have wk1 := IntWalk.i64_in ((k : Int) + 1) (by have := HLN.out; omega)
      have hbl : bad.length ≤ 4 := by
        have h1 := hr.fb
        have h2 : (ill kinR y p (l.take k)).length ≤ (l.take k).length := List.length_filter_le _ _
        rw [h1, List.length_take, HNN.out] at h2
        have := HLN.out
        omega
      have HBK : Hid (Bw yk (n + 4)) := Lib.hid (by rw [← hr.fy]; exact (HB.out.founds bad).up (by omega))
      have HBL := Lib.hid hbl
      clear hbl
      have HR := Lib.hid hr
      clear hr
      by_cases hlt : k < N
      · cases F with
        | none =>
          rw [show (Option.isSome (none : Option d_Bs)) = false from rfl]
          cases all with
          | true =>
            obtain ⟨c, hc⟩ : ∃ c, l[k]? = some c := ⟨_, List.getElem?_eq_getElem (by have := HNN.out; omega)⟩
            have HOK := Lib.hid (HOKc.out c (List.mem_of_getElem? hc))
            obtain ⟨g, rfl⟩ := HSP.out (by omega)
            have HCK := Lib.hid hc
            have HKN : Hid (k < N ∧ N ≤ cap) := Lib.hid ⟨hlt, HCP.out⟩
            obtain ⟨labk, hw⟩ := HR.out.fw
            obtain ⟨spb, capb, rfl, -⟩ := OwnC.form2 hw.ob
            obtain ⟨nb, hnb⟩ : ∃ nb, bad.length = nb := ⟨_, rfl⟩
            rw [hnb] at hw HR ⊢
            have HW := Lib.hid hw
            have HTK := Lib.hid (take_one hc)
            have HIL := Lib.hid (illW_snoc y p (l.take k) c)
            have HFI := Lib.hid (firstW_snoc y p (l.take k) c)
            rw [HR.out.fb] at HIL
            rw [HR.out.ff] at HFI
            rw [← HTK.out] at HIL HFI
            have HTS : Hid ((gd kinR y p c).isSome = true → firstG kinR y p (l.take k) = none → till (fun c => (gd kinR y p c).isSome) l = l.take (k + 1)) := Lib.hid (fun h1 h2 => tillW_stop HCK.out h2 h1)
            have HGQ : Hid (gd kinR yk p c = gd kinR y p c ∧ yk.d = y.d) := Lib.hid (by rw [← HR.out.fy]; exact ⟨rfl, rfl⟩)
            have HG := Lib.hid (wgood_any p HP.out c HOK.out wr.drew labk V yk (n + 4) HW.out.drew.m HBK.out (by have := HN.out; omega))
            clear hc hw hnb
            obtain ⟨j, a⟩ := c
            have h0q : (0 : Int) ≤ (j : Int) := by omega
            have hq2 : (j : Int) < 2 := by have := HOK.out.1; omega
            go_upto_region 9 with fail
            refine gS (.take 0 (.take 1 (.take 2 (.take 3 (.take 4 (.take 5 (.step 6 (.take 7 (.take 8 (.take 9 (.take 10 (.take 11 (.nil))))))))))))) (WhF w V p (.slice (some ⟨g, 0, none⟩) N cap) l (.slice spb nb capb) bad) HW.out.drew.fact ?_
            refine gT (.pointer (some ⟨V.M, 0, none⟩)) ?_; try simp only [pS]
            refine wpG_take _ (.agg (pcells p).toArray) rfl (by rfl) (fun X hX => ex_ldPq HP.out hX.pt rfl rfl) ?_; try simp only [pS]
            refine gT (.slice (some ⟨g, 0, none⟩) N cap) ?_; try simp only [pS]
            refine gT (.int .i64 (k : Int)) ?_; try simp only [pS]
            refine wpG_take _ (.pointer (some ⟨g, k * 2, none⟩)) rfl (by rfl) (fun X hX => w_iaC rfl rfl rfl HKN.out) ?_; try simp only [pS]
            refine wpG_take _ (.agg (plc (j, a)).toArray) rfl (by rfl) (fun X hX => w_ldC (hX.ol.rng HCK.out) rfl rfl) ?_; try simp only [pS]
            refine wpG_call _ rfl (by rfl) 47 #[.pointer (some ⟨V.M, 0, none⟩), .agg (pcells p).toArray, .agg (plc (j, a)).toArray] (fun _ => by go_simp) (fun u w' => Gdd yk p (j, a) (.returned u) ∧ WhW w lab V p (.slice (some ⟨g, 0, none⟩) N cap) l (.slice spb nb capb) bad labk yk w') (HG.out.mono fun e w' ⟨e1, e2⟩ => by
              have hw6 := HW.out.drew.below e2
              obtain ⟨b', rfl, e3⟩ := e1
              exact ⟨_, rfl, hw6.fact, ⟨b', rfl, e3⟩, hw6⟩) ?_
            rintro u W6 hs6 ⟨⟨b', eb, hgb⟩, hw6⟩
            injection eb with eb
            subst eb
            refine ⟨_, fun _ h => h, hs6, ?_⟩; try simp only [pS]
            refine gT (.tuple #[.string (bstr b'), .bool (gd kinR yk p (j, a)).isSome]) ?_; try simp only [pS]
            refine gT (.string (bstr b')) ?_; try simp only [pS]
            refine gT (.bool (gd kinR yk p (j, a)).isSome) ?_; try simp only [pS]
            refine gT (.string (bstr b')) ?_; try simp only [pS]
            refine gT (.bool (gd kinR yk p (j, a)).isSome) ?_; try simp only [pS]
            refine wpG_nil ?_
            have HW6 := Lib.hid hw6
            have HGB := Lib.hid hgb
            rw [HGQ.out.1] at HGB ⊢
            clear hs6 hw6 hgb HG HW
            cases hgd : gd kinR y p (j, a) with
            | some b1 =>
              obtain rfl := HGB.out b1 hgd
              rw [hgd] at HIL HFI HTS
              have HIL2 : Hid (ill kinR y p (l.take (k + 1)) = bad) := Lib.hid (by rw [HIL.out]; rfl)
              have HNX : Hid (∀ X, WhT w lab V p (.slice (some ⟨g, 0, none⟩) N cap) l (.slice spb nb capb) bad yk X → HlR w lab V p true (.slice (some ⟨g, 0, none⟩) N cap) l y (k + 1) (some b') (.slice spb nb capb) bad yk X) := Lib.hid (fun X hX => ⟨by rw [HFI.out], HIL2.out, HR.out.fy, fun _ _ => HTS.out rfl HR.out.ff, hX⟩)
              clear HIL HFI HTS HIL2 HGB hgd
              rw [show (Option.isSome (some b' : Option d_Bs)) = true from rfl]
              go_upto_region 13 with fail
              refine gS (.take 0 (.take 1 (.take 2 (.take 3 (.take 4 (.take 5 (.take 6 (.take 7 (.take 8 (.take 9 (.take 10 (.take 11 (.take 12 (.take 13 (.take 14 (.take 15 (.take 16 (.take 17 (.nil))))))))))))))))))) (fun _ => True) trivial ?_
              refine gT (.bool true) ?_; try simp only [pS]
              refine gT (.bool false) ?_; try simp only [pS]
              refine gT (.bool false) ?_; try simp only [pS]
              refine wpG_pass _ rfl (by rfl) ?_; try simp only [pS]
              refine wpG_pass _ rfl (by rfl) ?_; try simp only [pS]
              refine wpG_pass _ rfl (by rfl) ?_; try simp only [pS]
              refine wpG_pass _ rfl (by rfl) ?_; try simp only [pS]
              refine wpG_pass _ rfl (by rfl) ?_; try simp only [pS]
              refine wpG_pass _ rfl (by rfl) ?_; try simp only [pS]
              refine wpG_pass _ rfl (by rfl) ?_; try simp only [pS]
              refine wpG_pass _ rfl (by rfl) ?_; try simp only [pS]
              refine wpG_pass _ rfl (by rfl) ?_; try simp only [pS]
              refine wpG_pass _ rfl (by rfl) ?_; try simp only [pS]
              refine wpG_pass _ rfl (by rfl) ?_; try simp only [pS]
              refine wpG_pass _ rfl (by rfl) ?_; try simp only [pS]
              refine wpG_pass _ rfl (by rfl) ?_; try simp only [pS]
              refine wpG_pass _ rfl (by rfl) ?_; try simp only [pS]
              refine gT (.bool false) ?_; try simp only [pS]
              refine wpG_nil ?_
              go_wp2_with fail
              go_roundw
              case rel => exact ⟨k + 1, some b', bad, yk, by omega, by go_num, rfl, rfl, HNX.out _ ⟨_, HW6.out.drew⟩⟩
              case measure => simp [intOf]; omega
            | none =>
              rw [hgd] at HIL HFI
              have HFI2 : Hid (firstG kinR y p (l.take (k + 1)) = none) := Lib.hid HFI.out
              obtain ⟨dd, hdd⟩ : ∃ dd, (y.d j).dead = dd := ⟨_, rfl⟩
              have HDC : Hid (∀ X, WhW w lab V p (.slice (some ⟨g, 0, none⟩) N cap) l (.slice spb nb capb) bad labk yk X → X.cell? ⟨V.D j, 6, none⟩ = some (.bool dd)) := Lib.hid (fun X hX => by
                obtain ⟨_, _, _, _, _, hin⟩ := hX.m.dk j HOK.out.1
                have := hin.c.2.2.2.2.2.2.1
                rw [HGQ.out.2, hdd] at this
                exact this)
              have hil : ill kinR y p (l.take (k + 1)) = if dd then bad else bad ++ [(j, a)] := by
                rw [HIL.out]
                simp only [Option.isSome_none, Bool.false_or]
                rw [hdd]
              have HIL2 := Lib.hid hil
              clear HIL HFI HTS HGB hgd hil hdd
              rw [show (Option.isSome (none : Option d_Bs)) = false from rfl]
              go_upto_region 13 with fail
              refine gS (.take 0 (.take 1 (.take 2 (.take 3 (.take 4 (.take 5 (.take 6 (.take 7 (.take 8 (.take 9 (.take 10 (.take 11 (.take 12 (.take 13 (.take 14 (.take 15 (.take 16 (.take 17 (.nil))))))))))))))))))) (WhW w lab V p (.slice (some ⟨g, 0, none⟩) N cap) l (.slice spb nb capb) bad labk yk) HW6.out.drew ?_
              refine gT (.bool false) ?_; try simp only [pS]
              refine gT (.bool true) ?_; try simp only [pS]
              refine gT (.bool true) ?_; try simp only [pS]
              refine gT (.pointer (some ⟨V.M, 0, none⟩)) ?_; try simp only [pS]
              refine gT (.slice (some ⟨g, 0, none⟩) N cap) ?_; try simp only [pS]
              refine gT (.int .i64 (k : Int)) ?_; try simp only [pS]
              refine wpG_take _ (.pointer (some ⟨g, k * 2, none⟩)) rfl (by rfl) (fun X hX => w_iaC rfl rfl rfl HKN.out) ?_; try simp only [pS]
              refine gT (.pointer (some ⟨g, k * 2, none⟩)) ?_; try simp only [pS]
              refine wpG_take _ (.int .i64 (j : Int)) rfl (by rfl) (fun X hX => ex_ld1 Tryz.underlying3 rfl rfl (OwnC.cells2 hX.ol HCK.out).1) ?_; try simp only [pS]
              refine gT (.pointer (some ⟨V.M, 0, none⟩)) ?_; try simp only [pS]
              refine gT (.pointer (some ⟨V.M, 0, none⟩)) ?_; try simp only [pS]
              refine gT (.pointer (some ⟨V.M, j, none⟩)) ?_; try simp only [pS]
              refine wpG_take _ (.pointer (some ⟨V.D j, 0, none⟩)) rfl (by rfl) (fun X hX => w_ldP Tryz.underlying38 rfl rfl (hX.m.cell.1 j HOK.out.1)) ?_; try simp only [pS]
              refine gT (.pointer (some ⟨V.D j, 0, none⟩)) ?_; try simp only [pS]
              refine gT (.pointer (some ⟨V.D j, 6, none⟩)) ?_; try simp only [pS]
              refine wpG_take _ (.bool dd) rfl (by rfl) (fun X hX => w_ldB rfl rfl (HDC.out X hX)) ?_; try simp only [pS]
              refine gT (.bool (!dd)) ?_; try simp only [pS]
              refine gT (.bool (!dd)) ?_; try simp only [pS]
              refine wpG_nil ?_
              cases dd with
              | true =>
                have HNX : Hid (HlR w lab V p true (.slice (some ⟨g, 0, none⟩) N cap) l y (k + 1) none (.slice spb nb capb) bad yk W6.drew) := Lib.hid ⟨HFI2.out, by rw [HIL2.out]; rfl, HR.out.fy, fun h1 h2 => (by cases h1 <;> cases h2), _, HW6.out.drew⟩
                clear HDC HIL2 HFI2
                rw [show (!true) = false from rfl]
                go_wp2_with fail
                go_roundw
                case rel => exact ⟨k + 1, none, bad, yk, by omega, by go_num, rfl, rfl, HNX.out⟩
                case measure => simp [intOf]; omega
              | false =>
                have hil : ill kinR y p (l.take (k + 1)) = bad ++ [(j, a)] := by rw [HIL2.out]; rfl
                have HIL3 := Lib.hid hil
                have HYN := Lib.hid (foundsW_snoc y bad (j, a))
                rw [HR.out.fy] at HYN
                obtain ⟨G, hG⟩ : ∃ G, yk.f j = G := ⟨_, rfl⟩
                have HGL : Hid (G < 1000) := Lib.hid (by have := HBK.out.f j; have := HN.out; omega)
                have hw8 := HW6.out.drew.drew
                have cg := hw8.m.cell.2.2.1 j HOK.out.1
                have HFR := Lib.hid (hw8.m.mfree (4 + j))
                have HMe := Lib.hid (hw8.turn (hw8.m.foundE HOK.out.1))
                have HW8 := Lib.hid hw8
                rw [hG] at cg HMe
                have HCG := Lib.hid cg
                have HYQ : Hid (founds y (bad ++ [(j, a)]) = { yk with f := upk yk.f j (G + 1) }) := Lib.hid (by rw [HYN.out]; show ({ yk with f := upk yk.f j (yk.f j + 1) } : Wi) = _; rw [hG])
                clear HDC HIL2 hil hw8 hG cg HYN
                rw [show (!false) = true from rfl]
                go_upto_region 14 with fail
                refine gS (.take 0 (.take 1 (.take 2 (.take 3 (.take 4 (.take 5 (.take 6 (.take 7 (.take 8 (.take 11 (.take 12 (.step 9 (.take 10 (.take 13 (.step 14 (.nil)))))))))))))))) (WhF w V p (.slice (some ⟨g, 0, none⟩) N cap) l (.slice spb nb capb) bad) HW8.out.fact ?_
                refine gT (.pointer (some ⟨V.M, 0, none⟩)) ?_; try simp only [pS]
                refine gT (.slice (some ⟨g, 0, none⟩) N cap) ?_; try simp only [pS]
                refine gT (.int .i64 (k : Int)) ?_; try simp only [pS]
                refine wpG_take _ (.pointer (some ⟨g, k * 2, none⟩)) rfl (by rfl) (fun X hX => w_iaC rfl rfl rfl HKN.out) ?_; try simp only [pS]
                refine gT (.pointer (some ⟨g, k * 2, none⟩)) ?_; try simp only [pS]
                refine wpG_take _ (.int .i64 (j : Int)) rfl (by rfl) (fun X hX => ex_ld1 Tryz.underlying3 rfl rfl (OwnC.cells2 hX.ol HCK.out).1) ?_; try simp only [pS]
                refine gT (.pointer (some ⟨V.M, 0, none⟩)) ?_; try simp only [pS]
                refine gT (.pointer (some ⟨V.M, 4, none⟩)) ?_; try simp only [pS]
                refine gT (.pointer (some ⟨V.M, 4 + j, none⟩)) ?_; try simp only [pS]
                refine gT (.pointer (some ⟨V.M, 0, none⟩)) ?_; try simp only [pS]
                refine gT (.pointer (some ⟨V.M, 4, none⟩)) ?_; try simp only [pS]
                refine d_wpG_mk _ rfl (by rfl) (.int .i64 (G : Int)) _ (ex_ld1 Tryz.underlying3 rfl rfl HCG.out) _ HW8.out.fact (fun _ h => h) ?_; try simp only [pS]
                refine wpG_take _ (.int .i64 ((G + 1 : Nat) : Int)) rfl (by rfl) (fun X hX => q_inc rfl rfl rfl (by have := HGL.out; omega)) ?_; try simp only [pS]
                refine gT (.pointer (some ⟨V.M, 4 + j, none⟩)) ?_; try simp only [pS]
                refine wpG_st _ rfl (by rfl) _ (q_stI rfl rfl rfl HCG.out HFR.out) (WhF w V p (.slice (some ⟨g, 0, none⟩) N cap) l (.slice spb nb capb) bad) HMe.out.1 HMe.out.1 (fun _ h => h) ?_; try simp only [pS]
                refine wpG_nil ?_
                have hm2 := HMe.out.2
                generalize (W6.drew.drew.setCell ⟨V.M, 4 + j, none⟩ (.int .i64 ((G + 1 : Nat) : Int))) = W9 at hm2 ⊢
                obtain ⟨lab9, h9⟩ := hm2
                have HW9 := Lib.hid h9
                obtain ⟨vb2, Z2, hr2, hw2, ⟨sp2, n2, cp2, rfl⟩⟩ := h9.push (j, a) (by have := HBL.out; omega) 116
                have HR2 := Lib.hid hr2
                have HNX : Hid (HlR w lab V p true (.slice (some ⟨g, 0, none⟩) N cap) l y (k + 1) none (.slice sp2 n2 cp2) (bad ++ [(j, a)]) { yk with f := upk yk.f j (G + 1) } Z2) := Lib.hid ⟨HFI2.out, HIL3.out, HYQ.out, fun h1 h2 => (by cases h1 <;> cases h2), _, hw2⟩
                clear h9 hr2 hw2 HMe HCG HFR HW8 HYQ HIL3 HFI2
                go_wp2_with (first | (refine wpL_val rfl (w_iaC rfl rfl rfl HKN.out) ?_) | (refine wpL_val rfl (w_ldC (HW9.out.ol.rng HCK.out) rfl rfl) ?_) | (refine wpL_ok rfl (w_oneC rfl rfl) ?_) | (at_builtin; refine wpL_val rfl (ex_appC rfl rfl rfl HR2.out) ?_) | fail)
                go_roundw
                case rel => exact ⟨_, _, _, _, ⟨k + 1, by omega, rfl, none, rfl, rfl, bad ++ [(j, a)], _, HNX.out⟩, rfl, rfl, rfl, by go_num⟩
                case measure => simp [intOf]; omega
          | false =>
            obtain ⟨c, hc⟩ : ∃ c, l[k]? = some c := ⟨_, List.getElem?_eq_getElem (by have := HNN.out; omega)⟩
            have HOK := Lib.hid (HOKc.out c (List.mem_of_getElem? hc))
            obtain ⟨g, rfl⟩ := HSP.out (by omega)
            have HCK := Lib.hid hc
            have HKN : Hid (k < N ∧ N ≤ cap) := Lib.hid ⟨hlt, HCP.out⟩
            obtain ⟨labk, hw⟩ := HR.out.fw
            obtain ⟨spb, capb, rfl, -⟩ := OwnC.form2 hw.ob
            obtain ⟨nb, hnb⟩ : ∃ nb, bad.length = nb := ⟨_, rfl⟩
            rw [hnb] at hw HR ⊢
            have HW := Lib.hid hw
            have HTK := Lib.hid (take_one hc)
            have HIL := Lib.hid (illW_snoc y p (l.take k) c)
            have HFI := Lib.hid (firstW_snoc y p (l.take k) c)
            rw [HR.out.fb] at HIL
            rw [HR.out.ff] at HFI
            rw [← HTK.out] at HIL HFI
            have HTS : Hid ((gd kinR y p c).isSome = true → firstG kinR y p (l.take k) = none → till (fun c => (gd kinR y p c).isSome) l = l.take (k + 1)) := Lib.hid (fun h1 h2 => tillW_stop HCK.out h2 h1)
            have HGQ : Hid (gd kinR yk p c = gd kinR y p c ∧ yk.d = y.d) := Lib.hid (by rw [← HR.out.fy]; exact ⟨rfl, rfl⟩)
            have HG := Lib.hid (wgood_any p HP.out c HOK.out wr.drew labk V yk (n + 4) HW.out.drew.m HBK.out (by have := HN.out; omega))
            clear hc hw hnb
            obtain ⟨j, a⟩ := c
            have h0q : (0 : Int) ≤ (j : Int) := by omega
            have hq2 : (j : Int) < 2 := by have := HOK.out.1; omega
            go_upto_region 9 with fail
            refine gS (.take 0 (.take 1 (.take 2 (.take 3 (.take 4 (.take 5 (.step 6 (.take 7 (.take 8 (.take 9 (.take 10 (.take 11 (.nil))))))))))))) (WhF w V p (.slice (some ⟨g, 0, none⟩) N cap) l (.slice spb nb capb) bad) HW.out.drew.fact ?_
            refine gT (.pointer (some ⟨V.M, 0, none⟩)) ?_; try simp only [pS]
            refine wpG_take _ (.agg (pcells p).toArray) rfl (by rfl) (fun X hX => ex_ldPq HP.out hX.pt rfl rfl) ?_; try simp only [pS]
            refine gT (.slice (some ⟨g, 0, none⟩) N cap) ?_; try simp only [pS]
            refine gT (.int .i64 (k : Int)) ?_; try simp only [pS]
            refine wpG_take _ (.pointer (some ⟨g, k * 2, none⟩)) rfl (by rfl) (fun X hX => w_iaC rfl rfl rfl HKN.out) ?_; try simp only [pS]
            refine wpG_take _ (.agg (plc (j, a)).toArray) rfl (by rfl) (fun X hX => w_ldC (hX.ol.rng HCK.out) rfl rfl) ?_; try simp only [pS]
            refine wpG_call _ rfl (by rfl) 47 #[.pointer (some ⟨V.M, 0, none⟩), .agg (pcells p).toArray, .agg (plc (j, a)).toArray] (fun _ => by go_simp) (fun u w' => Gdd yk p (j, a) (.returned u) ∧ WhW w lab V p (.slice (some ⟨g, 0, none⟩) N cap) l (.slice spb nb capb) bad labk yk w') (HG.out.mono fun e w' ⟨e1, e2⟩ => by
              have hw6 := HW.out.drew.below e2
              obtain ⟨b', rfl, e3⟩ := e1
              exact ⟨_, rfl, hw6.fact, ⟨b', rfl, e3⟩, hw6⟩) ?_
            rintro u W6 hs6 ⟨⟨b', eb, hgb⟩, hw6⟩
            injection eb with eb
            subst eb
            refine ⟨_, fun _ h => h, hs6, ?_⟩; try simp only [pS]
            refine gT (.tuple #[.string (bstr b'), .bool (gd kinR yk p (j, a)).isSome]) ?_; try simp only [pS]
            refine gT (.string (bstr b')) ?_; try simp only [pS]
            refine gT (.bool (gd kinR yk p (j, a)).isSome) ?_; try simp only [pS]
            refine gT (.string (bstr b')) ?_; try simp only [pS]
            refine gT (.bool (gd kinR yk p (j, a)).isSome) ?_; try simp only [pS]
            refine wpG_nil ?_
            have HW6 := Lib.hid hw6
            have HGB := Lib.hid hgb
            rw [HGQ.out.1] at HGB ⊢
            clear hs6 hw6 hgb HG HW
            cases hgd : gd kinR y p (j, a) with
            | some b1 =>
              obtain rfl := HGB.out b1 hgd
              rw [hgd] at HIL HFI HTS
              have HIL2 : Hid (ill kinR y p (l.take (k + 1)) = bad) := Lib.hid (by rw [HIL.out]; rfl)
              have HNX : Hid (∀ X, WhT w lab V p (.slice (some ⟨g, 0, none⟩) N cap) l (.slice spb nb capb) bad yk X → HlR w lab V p false (.slice (some ⟨g, 0, none⟩) N cap) l y (k + 1) (some b') (.slice spb nb capb) bad yk X) := Lib.hid (fun X hX => ⟨by rw [HFI.out], HIL2.out, HR.out.fy, fun _ _ => HTS.out rfl HR.out.ff, hX⟩)
              clear HIL HFI HTS HIL2 HGB hgd
              rw [show (Option.isSome (some b' : Option d_Bs)) = true from rfl]
              go_upto_region 13 with fail
              refine gS (.take 0 (.take 1 (.take 2 (.take 3 (.take 4 (.take 5 (.take 6 (.take 7 (.take 8 (.take 9 (.take 10 (.take 11 (.take 12 (.take 13 (.take 14 (.take 15 (.take 16 (.take 17 (.nil))))))))))))))))))) (fun _ => True) trivial ?_
              refine gT (.bool true) ?_; try simp only [pS]
              refine gT (.bool false) ?_; try simp only [pS]
              refine gT (.bool false) ?_; try simp only [pS]
              refine wpG_pass _ rfl (by rfl) ?_; try simp only [pS]
              refine wpG_pass _ rfl (by rfl) ?_; try simp only [pS]
              refine wpG_pass _ rfl (by rfl) ?_; try simp only [pS]
              refine wpG_pass _ rfl (by rfl) ?_; try simp only [pS]
              refine wpG_pass _ rfl (by rfl) ?_; try simp only [pS]
              refine wpG_pass _ rfl (by rfl) ?_; try simp only [pS]
              refine wpG_pass _ rfl (by rfl) ?_; try simp only [pS]
              refine wpG_pass _ rfl (by rfl) ?_; try simp only [pS]
              refine wpG_pass _ rfl (by rfl) ?_; try simp only [pS]
              refine wpG_pass _ rfl (by rfl) ?_; try simp only [pS]
              refine wpG_pass _ rfl (by rfl) ?_; try simp only [pS]
              refine wpG_pass _ rfl (by rfl) ?_; try simp only [pS]
              refine wpG_pass _ rfl (by rfl) ?_; try simp only [pS]
              refine wpG_pass _ rfl (by rfl) ?_; try simp only [pS]
              refine gT (.bool false) ?_; try simp only [pS]
              refine wpG_nil ?_
              go_wp2_with fail
              go_roundw
              case rel => exact ⟨k + 1, some b', bad, yk, by omega, by go_num, rfl, rfl, HNX.out _ ⟨_, HW6.out.drew⟩⟩
              case measure => simp [intOf]; omega
            | none =>
              rw [hgd] at HIL HFI
              have HFI2 : Hid (firstG kinR y p (l.take (k + 1)) = none) := Lib.hid HFI.out
              obtain ⟨dd, hdd⟩ : ∃ dd, (y.d j).dead = dd := ⟨_, rfl⟩
              have HDC : Hid (∀ X, WhW w lab V p (.slice (some ⟨g, 0, none⟩) N cap) l (.slice spb nb capb) bad labk yk X → X.cell? ⟨V.D j, 6, none⟩ = some (.bool dd)) := Lib.hid (fun X hX => by
                obtain ⟨_, _, _, _, _, hin⟩ := hX.m.dk j HOK.out.1
                have := hin.c.2.2.2.2.2.2.1
                rw [HGQ.out.2, hdd] at this
                exact this)
              have hil : ill kinR y p (l.take (k + 1)) = if dd then bad else bad ++ [(j, a)] := by
                rw [HIL.out]
                simp only [Option.isSome_none, Bool.false_or]
                rw [hdd]
              have HIL2 := Lib.hid hil
              clear HIL HFI HTS HGB hgd hil hdd
              rw [show (Option.isSome (none : Option d_Bs)) = false from rfl]
              go_upto_region 13 with fail
              refine gS (.take 0 (.take 1 (.take 2 (.take 3 (.take 4 (.take 5 (.take 6 (.take 7 (.take 8 (.take 9 (.take 10 (.take 11 (.take 12 (.take 13 (.take 14 (.take 15 (.take 16 (.take 17 (.nil))))))))))))))))))) (WhW w lab V p (.slice (some ⟨g, 0, none⟩) N cap) l (.slice spb nb capb) bad labk yk) HW6.out.drew ?_
              refine gT (.bool false) ?_; try simp only [pS]
              refine gT (.bool true) ?_; try simp only [pS]
              refine gT (.bool true) ?_; try simp only [pS]
              refine gT (.pointer (some ⟨V.M, 0, none⟩)) ?_; try simp only [pS]
              refine gT (.slice (some ⟨g, 0, none⟩) N cap) ?_; try simp only [pS]
              refine gT (.int .i64 (k : Int)) ?_; try simp only [pS]
              refine wpG_take _ (.pointer (some ⟨g, k * 2, none⟩)) rfl (by rfl) (fun X hX => w_iaC rfl rfl rfl HKN.out) ?_; try simp only [pS]
              refine gT (.pointer (some ⟨g, k * 2, none⟩)) ?_; try simp only [pS]
              refine wpG_take _ (.int .i64 (j : Int)) rfl (by rfl) (fun X hX => ex_ld1 Tryz.underlying3 rfl rfl (OwnC.cells2 hX.ol HCK.out).1) ?_; try simp only [pS]
              refine gT (.pointer (some ⟨V.M, 0, none⟩)) ?_; try simp only [pS]
              refine gT (.pointer (some ⟨V.M, 0, none⟩)) ?_; try simp only [pS]
              refine gT (.pointer (some ⟨V.M, j, none⟩)) ?_; try simp only [pS]
              refine wpG_take _ (.pointer (some ⟨V.D j, 0, none⟩)) rfl (by rfl) (fun X hX => w_ldP Tryz.underlying38 rfl rfl (hX.m.cell.1 j HOK.out.1)) ?_; try simp only [pS]
              refine gT (.pointer (some ⟨V.D j, 0, none⟩)) ?_; try simp only [pS]
              refine gT (.pointer (some ⟨V.D j, 6, none⟩)) ?_; try simp only [pS]
              refine wpG_take _ (.bool dd) rfl (by rfl) (fun X hX => w_ldB rfl rfl (HDC.out X hX)) ?_; try simp only [pS]
              refine gT (.bool (!dd)) ?_; try simp only [pS]
              refine gT (.bool (!dd)) ?_; try simp only [pS]
              refine wpG_nil ?_
              cases dd with
              | true =>
                have HNX : Hid (HlR w lab V p false (.slice (some ⟨g, 0, none⟩) N cap) l y (k + 1) none (.slice spb nb capb) bad yk W6.drew) := Lib.hid ⟨HFI2.out, by rw [HIL2.out]; rfl, HR.out.fy, fun h1 h2 => (by cases h1 <;> cases h2), _, HW6.out.drew⟩
                clear HDC HIL2 HFI2
                rw [show (!true) = false from rfl]
                go_wp2_with fail
                go_roundw
                case rel => exact ⟨k + 1, none, bad, yk, by omega, by go_num, rfl, rfl, HNX.out⟩
                case measure => simp [intOf]; omega
              | false =>
                have hil : ill kinR y p (l.take (k + 1)) = bad ++ [(j, a)] := by rw [HIL2.out]; rfl
                have HIL3 := Lib.hid hil
                have HYN := Lib.hid (foundsW_snoc y bad (j, a))
                rw [HR.out.fy] at HYN
                obtain ⟨G, hG⟩ : ∃ G, yk.f j = G := ⟨_, rfl⟩
                have HGL : Hid (G < 1000) := Lib.hid (by have := HBK.out.f j; have := HN.out; omega)
                have hw8 := HW6.out.drew.drew
                have cg := hw8.m.cell.2.2.1 j HOK.out.1
                have HFR := Lib.hid (hw8.m.mfree (4 + j))
                have HMe := Lib.hid (hw8.turn (hw8.m.foundE HOK.out.1))
                have HW8 := Lib.hid hw8
                rw [hG] at cg HMe
                have HCG := Lib.hid cg
                have HYQ : Hid (founds y (bad ++ [(j, a)]) = { yk with f := upk yk.f j (G + 1) }) := Lib.hid (by rw [HYN.out]; show ({ yk with f := upk yk.f j (yk.f j + 1) } : Wi) = _; rw [hG])
                clear HDC HIL2 hil hw8 hG cg HYN
                rw [show (!false) = true from rfl]
                go_upto_region 14 with fail
                refine gS (.take 0 (.take 1 (.take 2 (.take 3 (.take 4 (.take 5 (.take 6 (.take 7 (.take 8 (.take 11 (.take 12 (.step 9 (.take 10 (.take 13 (.step 14 (.nil)))))))))))))))) (WhF w V p (.slice (some ⟨g, 0, none⟩) N cap) l (.slice spb nb capb) bad) HW8.out.fact ?_
                refine gT (.pointer (some ⟨V.M, 0, none⟩)) ?_; try simp only [pS]
                refine gT (.slice (some ⟨g, 0, none⟩) N cap) ?_; try simp only [pS]
                refine gT (.int .i64 (k : Int)) ?_; try simp only [pS]
                refine wpG_take _ (.pointer (some ⟨g, k * 2, none⟩)) rfl (by rfl) (fun X hX => w_iaC rfl rfl rfl HKN.out) ?_; try simp only [pS]
                refine gT (.pointer (some ⟨g, k * 2, none⟩)) ?_; try simp only [pS]
                refine wpG_take _ (.int .i64 (j : Int)) rfl (by rfl) (fun X hX => ex_ld1 Tryz.underlying3 rfl rfl (OwnC.cells2 hX.ol HCK.out).1) ?_; try simp only [pS]
                refine gT (.pointer (some ⟨V.M, 0, none⟩)) ?_; try simp only [pS]
                refine gT (.pointer (some ⟨V.M, 4, none⟩)) ?_; try simp only [pS]
                refine gT (.pointer (some ⟨V.M, 4 + j, none⟩)) ?_; try simp only [pS]
                refine gT (.pointer (some ⟨V.M, 0, none⟩)) ?_; try simp only [pS]
                refine gT (.pointer (some ⟨V.M, 4, none⟩)) ?_; try simp only [pS]
                refine d_wpG_mk _ rfl (by rfl) (.int .i64 (G : Int)) _ (ex_ld1 Tryz.underlying3 rfl rfl HCG.out) _ HW8.out.fact (fun _ h => h) ?_; try simp only [pS]
                refine wpG_take _ (.int .i64 ((G + 1 : Nat) : Int)) rfl (by rfl) (fun X hX => q_inc rfl rfl rfl (by have := HGL.out; omega)) ?_; try simp only [pS]
                refine gT (.pointer (some ⟨V.M, 4 + j, none⟩)) ?_; try simp only [pS]
                refine wpG_st _ rfl (by rfl) _ (q_stI rfl rfl rfl HCG.out HFR.out) (WhF w V p (.slice (some ⟨g, 0, none⟩) N cap) l (.slice spb nb capb) bad) HMe.out.1 HMe.out.1 (fun _ h => h) ?_; try simp only [pS]
                refine wpG_nil ?_
                have hm2 := HMe.out.2
                generalize (W6.drew.drew.setCell ⟨V.M, 4 + j, none⟩ (.int .i64 ((G + 1 : Nat) : Int))) = W9 at hm2 ⊢
                obtain ⟨lab9, h9⟩ := hm2
                have HW9 := Lib.hid h9
                obtain ⟨vb2, Z2, hr2, hw2, ⟨sp2, n2, cp2, rfl⟩⟩ := h9.push (j, a) (by have := HBL.out; omega) 116
                have HR2 := Lib.hid hr2
                have HNX : Hid (HlR w lab V p false (.slice (some ⟨g, 0, none⟩) N cap) l y (k + 1) none (.slice sp2 n2 cp2) (bad ++ [(j, a)]) { yk with f := upk yk.f j (G + 1) } Z2) := Lib.hid ⟨HFI2.out, HIL3.out, HYQ.out, fun h1 h2 => (by cases h1 <;> cases h2), _, hw2⟩
                clear h9 hr2 hw2 HMe HCG HFR HW8 HYQ HIL3 HFI2
                go_wp2_with (first | (refine wpL_val rfl (w_iaC rfl rfl rfl HKN.out) ?_) | (refine wpL_val rfl (w_ldC (HW9.out.ol.rng HCK.out) rfl rfl) ?_) | (refine wpL_ok rfl (w_oneC rfl rfl) ?_) | (at_builtin; refine wpL_val rfl (ex_appC rfl rfl rfl HR2.out) ?_) | fail)
                go_roundw
                case rel => exact ⟨_, _, _, _, ⟨k + 1, by omega, rfl, none, rfl, rfl, bad ++ [(j, a)], _, HNX.out⟩, rfl, rfl, rfl, by go_num⟩
                case measure => simp [intOf]; omega
        | some b0 =>
          cases all with
          | true =>
            rw [show (Option.isSome (some b0 : Option d_Bs)) = true from rfl]
            obtain ⟨c, hc⟩ : ∃ c, l[k]? = some c := ⟨_, List.getElem?_eq_getElem (by have := HNN.out; omega)⟩
            have HOK := Lib.hid (HOKc.out c (List.mem_of_getElem? hc))
            obtain ⟨g, rfl⟩ := HSP.out (by omega)
            have HCK := Lib.hid hc
            have HKN : Hid (k < N ∧ N ≤ cap) := Lib.hid ⟨hlt, HCP.out⟩
            obtain ⟨labk, hw⟩ := HR.out.fw
            obtain ⟨spb, capb, rfl, -⟩ := OwnC.form2 hw.ob
            obtain ⟨nb, hnb⟩ : ∃ nb, bad.length = nb := ⟨_, rfl⟩
            rw [hnb] at hw HR ⊢
            have HW := Lib.hid hw
            have HTK := Lib.hid (take_one hc)
            have HIL := Lib.hid (illW_snoc y p (l.take k) c)
            have HFI := Lib.hid (firstW_snoc y p (l.take k) c)
            rw [HR.out.fb] at HIL
            rw [HR.out.ff] at HFI
            rw [← HTK.out] at HIL HFI
            have HTS : Hid ((gd kinR y p c).isSome = true → firstG kinR y p (l.take k) = none → till (fun c => (gd kinR y p c).isSome) l = l.take (k + 1)) := Lib.hid (fun h1 h2 => tillW_stop HCK.out h2 h1)
            have HGQ : Hid (gd kinR yk p c = gd kinR y p c ∧ yk.d = y.d) := Lib.hid (by rw [← HR.out.fy]; exact ⟨rfl, rfl⟩)
            have HG := Lib.hid (wgood_any p HP.out c HOK.out wr.drew labk V yk (n + 4) HW.out.drew.m HBK.out (by have := HN.out; omega))
            clear hc hw hnb
            obtain ⟨j, a⟩ := c
            have h0q : (0 : Int) ≤ (j : Int) := by omega
            have hq2 : (j : Int) < 2 := by have := HOK.out.1; omega
            go_upto_region 9 with fail
            refine gS (.take 0 (.take 1 (.take 2 (.take 3 (.take 4 (.take 5 (.step 6 (.take 7 (.take 8 (.take 9 (.take 10 (.take 11 (.nil))))))))))))) (WhF w V p (.slice (some ⟨g, 0, none⟩) N cap) l (.slice spb nb capb) bad) HW.out.drew.fact ?_
            refine gT (.pointer (some ⟨V.M, 0, none⟩)) ?_; try simp only [pS]
            refine wpG_take _ (.agg (pcells p).toArray) rfl (by rfl) (fun X hX => ex_ldPq HP.out hX.pt rfl rfl) ?_; try simp only [pS]
            refine gT (.slice (some ⟨g, 0, none⟩) N cap) ?_; try simp only [pS]
            refine gT (.int .i64 (k : Int)) ?_; try simp only [pS]
            refine wpG_take _ (.pointer (some ⟨g, k * 2, none⟩)) rfl (by rfl) (fun X hX => w_iaC rfl rfl rfl HKN.out) ?_; try simp only [pS]
            refine wpG_take _ (.agg (plc (j, a)).toArray) rfl (by rfl) (fun X hX => w_ldC (hX.ol.rng HCK.out) rfl rfl) ?_; try simp only [pS]
            refine wpG_call _ rfl (by rfl) 47 #[.pointer (some ⟨V.M, 0, none⟩), .agg (pcells p).toArray, .agg (plc (j, a)).toArray] (fun _ => by go_simp) (fun u w' => Gdd yk p (j, a) (.returned u) ∧ WhW w lab V p (.slice (some ⟨g, 0, none⟩) N cap) l (.slice spb nb capb) bad labk yk w') (HG.out.mono fun e w' ⟨e1, e2⟩ => by
              have hw6 := HW.out.drew.below e2
              obtain ⟨b', rfl, e3⟩ := e1
              exact ⟨_, rfl, hw6.fact, ⟨b', rfl, e3⟩, hw6⟩) ?_
            rintro u W6 hs6 ⟨⟨b', eb, hgb⟩, hw6⟩
            injection eb with eb
            subst eb
            refine ⟨_, fun _ h => h, hs6, ?_⟩; try simp only [pS]
            refine gT (.tuple #[.string (bstr b'), .bool (gd kinR yk p (j, a)).isSome]) ?_; try simp only [pS]
            refine gT (.string (bstr b')) ?_; try simp only [pS]
            refine gT (.bool (gd kinR yk p (j, a)).isSome) ?_; try simp only [pS]
            refine gT (.string (bstr b')) ?_; try simp only [pS]
            refine gT (.bool (gd kinR yk p (j, a)).isSome) ?_; try simp only [pS]
            refine wpG_nil ?_
            have HW6 := Lib.hid hw6
            have HGB := Lib.hid hgb
            rw [HGQ.out.1] at HGB ⊢
            clear hs6 hw6 hgb HG HW
            cases hgd : gd kinR y p (j, a) with
            | some b1 =>
              obtain rfl := HGB.out b1 hgd
              rw [hgd] at HIL HFI HTS
              have HIL2 : Hid (ill kinR y p (l.take (k + 1)) = bad) := Lib.hid (by rw [HIL.out]; rfl)
              have HNX : Hid (∀ X, WhT w lab V p (.slice (some ⟨g, 0, none⟩) N cap) l (.slice spb nb capb) bad yk X → HlR w lab V p true (.slice (some ⟨g, 0, none⟩) N cap) l y (k + 1) (some b0) (.slice spb nb capb) bad yk X) := Lib.hid (fun X hX => ⟨by rw [HFI.out], HIL2.out, HR.out.fy, fun h1 _ => (by cases h1), hX⟩)
              clear HIL HFI HTS HIL2 HGB hgd
              rw [show (Option.isSome (some b' : Option d_Bs)) = true from rfl]
              go_upto_region 13 with fail
              refine gS (.take 0 (.take 1 (.take 2 (.take 3 (.take 4 (.take 5 (.take 6 (.take 7 (.take 8 (.take 9 (.take 10 (.take 11 (.take 12 (.take 13 (.take 14 (.take 15 (.take 16 (.take 17 (.nil))))))))))))))))))) (fun _ => True) trivial ?_
              refine gT (.bool true) ?_; try simp only [pS]
              refine gT (.bool false) ?_; try simp only [pS]
              refine gT (.bool false) ?_; try simp only [pS]
              refine wpG_pass _ rfl (by rfl) ?_; try simp only [pS]
              refine wpG_pass _ rfl (by rfl) ?_; try simp only [pS]
              refine wpG_pass _ rfl (by rfl) ?_; try simp only [pS]
              refine wpG_pass _ rfl (by rfl) ?_; try simp only [pS]
              refine wpG_pass _ rfl (by rfl) ?_; try simp only [pS]
              refine wpG_pass _ rfl (by rfl) ?_; try simp only [pS]
              refine wpG_pass _ rfl (by rfl) ?_; try simp only [pS]
              refine wpG_pass _ rfl (by rfl) ?_; try simp only [pS]
              refine wpG_pass _ rfl (by rfl) ?_; try simp only [pS]
              refine wpG_pass _ rfl (by rfl) ?_; try simp only [pS]
              refine wpG_pass _ rfl (by rfl) ?_; try simp only [pS]
              refine wpG_pass _ rfl (by rfl) ?_; try simp only [pS]
              refine wpG_pass _ rfl (by rfl) ?_; try simp only [pS]
              refine wpG_pass _ rfl (by rfl) ?_; try simp only [pS]
              refine gT (.bool false) ?_; try simp only [pS]
              refine wpG_nil ?_
              go_wp2_with fail
              go_roundw
              case rel => exact ⟨k + 1, some b0, bad, yk, by omega, by go_num, rfl, rfl, HNX.out _ ⟨_, HW6.out.drew⟩⟩
              case measure => simp [intOf]; omega
            | none =>
              rw [hgd] at HIL HFI
              have HFI2 : Hid (firstG kinR y p (l.take (k + 1)) = (some b0)) := Lib.hid HFI.out
              obtain ⟨dd, hdd⟩ : ∃ dd, (y.d j).dead = dd := ⟨_, rfl⟩
              have HDC : Hid (∀ X, WhW w lab V p (.slice (some ⟨g, 0, none⟩) N cap) l (.slice spb nb capb) bad labk yk X → X.cell? ⟨V.D j, 6, none⟩ = some (.bool dd)) := Lib.hid (fun X hX => by
                obtain ⟨_, _, _, _, _, hin⟩ := hX.m.dk j HOK.out.1
                have := hin.c.2.2.2.2.2.2.1
                rw [HGQ.out.2, hdd] at this
                exact this)
              have hil : ill kinR y p (l.take (k + 1)) = if dd then bad else bad ++ [(j, a)] := by
                rw [HIL.out]
                simp only [Option.isSome_none, Bool.false_or]
                rw [hdd]
              have HIL2 := Lib.hid hil
              clear HIL HFI HTS HGB hgd hil hdd
              rw [show (Option.isSome (none : Option d_Bs)) = false from rfl]
              go_upto_region 13 with fail
              refine gS (.take 0 (.take 1 (.take 2 (.take 3 (.take 4 (.take 5 (.take 6 (.take 7 (.take 8 (.take 9 (.take 10 (.take 11 (.take 12 (.take 13 (.take 14 (.take 15 (.take 16 (.take 17 (.nil))))))))))))))))))) (WhW w lab V p (.slice (some ⟨g, 0, none⟩) N cap) l (.slice spb nb capb) bad labk yk) HW6.out.drew ?_
              refine gT (.bool false) ?_; try simp only [pS]
              refine gT (.bool true) ?_; try simp only [pS]
              refine gT (.bool true) ?_; try simp only [pS]
              refine gT (.pointer (some ⟨V.M, 0, none⟩)) ?_; try simp only [pS]
              refine gT (.slice (some ⟨g, 0, none⟩) N cap) ?_; try simp only [pS]
              refine gT (.int .i64 (k : Int)) ?_; try simp only [pS]
              refine wpG_take _ (.pointer (some ⟨g, k * 2, none⟩)) rfl (by rfl) (fun X hX => w_iaC rfl rfl rfl HKN.out) ?_; try simp only [pS]
              refine gT (.pointer (some ⟨g, k * 2, none⟩)) ?_; try simp only [pS]
              refine wpG_take _ (.int .i64 (j : Int)) rfl (by rfl) (fun X hX => ex_ld1 Tryz.underlying3 rfl rfl (OwnC.cells2 hX.ol HCK.out).1) ?_; try simp only [pS]
              refine gT (.pointer (some ⟨V.M, 0, none⟩)) ?_; try simp only [pS]
              refine gT (.pointer (some ⟨V.M, 0, none⟩)) ?_; try simp only [pS]
              refine gT (.pointer (some ⟨V.M, j, none⟩)) ?_; try simp only [pS]
              refine wpG_take _ (.pointer (some ⟨V.D j, 0, none⟩)) rfl (by rfl) (fun X hX => w_ldP Tryz.underlying38 rfl rfl (hX.m.cell.1 j HOK.out.1)) ?_; try simp only [pS]
              refine gT (.pointer (some ⟨V.D j, 0, none⟩)) ?_; try simp only [pS]
              refine gT (.pointer (some ⟨V.D j, 6, none⟩)) ?_; try simp only [pS]
              refine wpG_take _ (.bool dd) rfl (by rfl) (fun X hX => w_ldB rfl rfl (HDC.out X hX)) ?_; try simp only [pS]
              refine gT (.bool (!dd)) ?_; try simp only [pS]
              refine gT (.bool (!dd)) ?_; try simp only [pS]
              refine wpG_nil ?_
              cases dd with
              | true =>
                have HNX : Hid (HlR w lab V p true (.slice (some ⟨g, 0, none⟩) N cap) l y (k + 1) (some b0) (.slice spb nb capb) bad yk W6.drew) := Lib.hid ⟨HFI2.out, by rw [HIL2.out]; rfl, HR.out.fy, fun h1 h2 => (by cases h1 <;> cases h2), _, HW6.out.drew⟩
                clear HDC HIL2 HFI2
                rw [show (!true) = false from rfl]
                go_wp2_with fail
                go_roundw
                case rel => exact ⟨k + 1, (some b0), bad, yk, by omega, by go_num, rfl, rfl, HNX.out⟩
                case measure => simp [intOf]; omega
              | false =>
                have hil : ill kinR y p (l.take (k + 1)) = bad ++ [(j, a)] := by rw [HIL2.out]; rfl
                have HIL3 := Lib.hid hil
                have HYN := Lib.hid (foundsW_snoc y bad (j, a))
                rw [HR.out.fy] at HYN
                obtain ⟨G, hG⟩ : ∃ G, yk.f j = G := ⟨_, rfl⟩
                have HGL : Hid (G < 1000) := Lib.hid (by have := HBK.out.f j; have := HN.out; omega)
                have hw8 := HW6.out.drew.drew
                have cg := hw8.m.cell.2.2.1 j HOK.out.1
                have HFR := Lib.hid (hw8.m.mfree (4 + j))
                have HMe := Lib.hid (hw8.turn (hw8.m.foundE HOK.out.1))
                have HW8 := Lib.hid hw8
                rw [hG] at cg HMe
                have HCG := Lib.hid cg
                have HYQ : Hid (founds y (bad ++ [(j, a)]) = { yk with f := upk yk.f j (G + 1) }) := Lib.hid (by rw [HYN.out]; show ({ yk with f := upk yk.f j (yk.f j + 1) } : Wi) = _; rw [hG])
                clear HDC HIL2 hil hw8 hG cg HYN
                rw [show (!false) = true from rfl]
                go_upto_region 14 with fail
                refine gS (.take 0 (.take 1 (.take 2 (.take 3 (.take 4 (.take 5 (.take 6 (.take 7 (.take 8 (.take 11 (.take 12 (.step 9 (.take 10 (.take 13 (.step 14 (.nil)))))))))))))))) (WhF w V p (.slice (some ⟨g, 0, none⟩) N cap) l (.slice spb nb capb) bad) HW8.out.fact ?_
                refine gT (.pointer (some ⟨V.M, 0, none⟩)) ?_; try simp only [pS]
                refine gT (.slice (some ⟨g, 0, none⟩) N cap) ?_; try simp only [pS]
                refine gT (.int .i64 (k : Int)) ?_; try simp only [pS]
                refine wpG_take _ (.pointer (some ⟨g, k * 2, none⟩)) rfl (by rfl) (fun X hX => w_iaC rfl rfl rfl HKN.out) ?_; try simp only [pS]
                refine gT (.pointer (some ⟨g, k * 2, none⟩)) ?_; try simp only [pS]
                refine wpG_take _ (.int .i64 (j : Int)) rfl (by rfl) (fun X hX => ex_ld1 Tryz.underlying3 rfl rfl (OwnC.cells2 hX.ol HCK.out).1) ?_; try simp only [pS]
                refine gT (.pointer (some ⟨V.M, 0, none⟩)) ?_; try simp only [pS]
                refine gT (.pointer (some ⟨V.M, 4, none⟩)) ?_; try simp only [pS]
                refine gT (.pointer (some ⟨V.M, 4 + j, none⟩)) ?_; try simp only [pS]
                refine gT (.pointer (some ⟨V.M, 0, none⟩)) ?_; try simp only [pS]
                refine gT (.pointer (some ⟨V.M, 4, none⟩)) ?_; try simp only [pS]
                refine d_wpG_mk _ rfl (by rfl) (.int .i64 (G : Int)) _ (ex_ld1 Tryz.underlying3 rfl rfl HCG.out) _ HW8.out.fact (fun _ h => h) ?_; try simp only [pS]
                refine wpG_take _ (.int .i64 ((G + 1 : Nat) : Int)) rfl (by rfl) (fun X hX => q_inc rfl rfl rfl (by have := HGL.out; omega)) ?_; try simp only [pS]
                refine gT (.pointer (some ⟨V.M, 4 + j, none⟩)) ?_; try simp only [pS]
                refine wpG_st _ rfl (by rfl) _ (q_stI rfl rfl rfl HCG.out HFR.out) (WhF w V p (.slice (some ⟨g, 0, none⟩) N cap) l (.slice spb nb capb) bad) HMe.out.1 HMe.out.1 (fun _ h => h) ?_; try simp only [pS]
                refine wpG_nil ?_
                have hm2 := HMe.out.2
                generalize (W6.drew.drew.setCell ⟨V.M, 4 + j, none⟩ (.int .i64 ((G + 1 : Nat) : Int))) = W9 at hm2 ⊢
                obtain ⟨lab9, h9⟩ := hm2
                have HW9 := Lib.hid h9
                obtain ⟨vb2, Z2, hr2, hw2, ⟨sp2, n2, cp2, rfl⟩⟩ := h9.push (j, a) (by have := HBL.out; omega) 116
                have HR2 := Lib.hid hr2
                have HNX : Hid (HlR w lab V p true (.slice (some ⟨g, 0, none⟩) N cap) l y (k + 1) (some b0) (.slice sp2 n2 cp2) (bad ++ [(j, a)]) { yk with f := upk yk.f j (G + 1) } Z2) := Lib.hid ⟨HFI2.out, HIL3.out, HYQ.out, fun h1 h2 => (by cases h1 <;> cases h2), _, hw2⟩
                clear h9 hr2 hw2 HMe HCG HFR HW8 HYQ HIL3 HFI2
                go_wp2_with (first | (refine wpL_val rfl (w_iaC rfl rfl rfl HKN.out) ?_) | (refine wpL_val rfl (w_ldC (HW9.out.ol.rng HCK.out) rfl rfl) ?_) | (refine wpL_ok rfl (w_oneC rfl rfl) ?_) | (at_builtin; refine wpL_val rfl (ex_appC rfl rfl rfl HR2.out) ?_) | fail)
                go_roundw
                case rel => exact ⟨_, _, _, _, ⟨k + 1, by omega, rfl, (some b0), rfl, rfl, bad ++ [(j, a)], _, HNX.out⟩, rfl, rfl, rfl, by go_num⟩
                case measure => simp [intOf]; omega
          | false =>
            obtain ⟨labk, hw⟩ := HR.out.fw
            obtain ⟨spb, capb, rfl, hcb, hspb⟩ := OwnC.form2 hw.ob
            obtain ⟨nb, hnb⟩ : ∃ nb, bad.length = nb := ⟨_, rfl⟩
            rw [hnb] at hw HR hcb hspb ⊢
            have HNB := Lib.hid hnb; have HSB := Lib.hid hspb; have HCB := Lib.hid hcb
            have hbl4 : nb ≤ 4 := by rw [← hnb]; exact HBL.out
            have HB4 := Lib.hid hbl4
            have HB0 := Lib.hid (firstW_len HR.out.ff)
            have HOKb : Hid (∀ c ∈ bad, c.1 < 2 ∧ 0 < c.2 ∧ c.2 < 65536) := Lib.hid (fun c hc => by
              rw [← HR.out.fb] at hc
              exact HOKc.out c (List.mem_of_mem_take (List.mem_filter.1 hc).1))
            have HFIN : Hid (∀ X, WhT w lab V p (.slice sp N cap) l (.slice spb nb capb) bad (mends kinR p b0 yk bad) X → Po (.returned (.tuple #[.string (bstr b0), .int .i64 0])) X) := Lib.hid (fun X hX => HPo.out _ _ (HR.out.done HMY.out HL.out (fun h => by cases h) hX))
            have HR0 : Hid (WhT w lab V p (.slice sp N cap) l (.slice spb nb capb) bad (mends kinR p b0 yk (bad.take 0)) wr) := Lib.hid ⟨_, hw⟩
            rw [show (Option.isSome (some b0 : Option d_Bs)) = true from rfl, show ((some b0 : Option d_Bs).getD []) = b0 from rfl]
            have HME := Lib.hid (fun (c : Cpy) hc X labX (yX : Wi) hX hbX => wmend_any p HP.out c hc b0 (by have := HB0.out; omega) X labX V yX (n + 8) hX hbX (by have := HN.out; omega))
            obtain ⟨s0, hs0⟩ : ∃ s, bstr b0 = s := ⟨_, rfl⟩
            rw [hs0] at HFIN HME ⊢
            clear hw hnb hcb hspb hbl4 hs0 HR HPo
            go_upto_region 19 with fail
            go_loopw [15] (fun i wr => ∃ z : Nat, z ≤ nb ∧ i = .int .i64 (z : Int) ∧ WhT w lab V p (.slice sp N cap) l (.slice spb nb capb) bad (mends kinR p b0 yk (bad.take z)) wr) (fun i _ => nb - (intOf i).toNat)
            case atStart => exact ⟨0, by omega, rfl, HR0.out⟩
            case round =>
              clear HR0
              obtain ⟨q, hq, rfl, labq, hw⟩ := hrel
              have HW := Lib.hid hw
              clear hw
              have wq1 := IntWalk.i64_in ((q : Int) + 1) (by have := HB4.out; omega)
              by_cases hlt2 : q < nb
              · obtain ⟨c, hc⟩ : ∃ c, bad[q]? = some c := ⟨_, List.getElem?_eq_getElem (by have := HNB.out; omega)⟩
                obtain ⟨g, rfl⟩ := HSB.out (by omega)
                have HCK := Lib.hid hc
                have HOK := Lib.hid (HOKb.out c (List.mem_of_getElem? hc))
                have HKN : Hid (q < nb ∧ nb ≤ capb) := Lib.hid ⟨hlt2, HCB.out⟩
                have HSN := Lib.hid ((congrArg (mends kinR p b0 yk) (take_one hc)).trans (mendsW_snoc p b0 yk (bad.take q) c))
                have HBq : Hid (Bw (mends kinR p b0 yk (bad.take q)) (n + 8)) := Lib.hid ((Bw.mends p b0 (bad.take q) yk (n + 4) HBK.out (fun c hc => HOKb.out c (List.mem_of_mem_take hc))).up (by have := HB4.out; have := HNB.out; simp; omega))
                obtain ⟨yq, hyq⟩ : ∃ yq, mends kinR p b0 yk (bad.take q) = yq := ⟨_, rfl⟩
                rw [hyq] at HSN HW HBq
                have HCL := Lib.hid (HME.out c HOK.out wr.drew labq yq HW.out.drew.m HBq.out)
                clear hc hyq
                go_upto_region 21 with fail
                refine gS (.take 0 (.take 1 (.take 2 (.take 3 (.take 4 (.take 5 (.take 6 (.step 7 (.nil))))))))) (WhF w V p (.slice sp N cap) l (.slice (some ⟨g, 0, none⟩) nb capb) bad) HW.out.drew.fact ?_
                refine gT (.pointer (some ⟨V.M, 0, none⟩)) ?_; try simp only [pS]
                refine wpG_take _ (.agg (pcells p).toArray) rfl (by rfl) (fun X hX => ex_ldPq HP.out hX.pt rfl rfl) ?_; try simp only [pS]
                refine gT (.slice (some ⟨g, 0, none⟩) nb capb) ?_; try simp only [pS]
                refine gT (.int .i64 (q : Int)) ?_; try simp only [pS]
                refine wpG_take _ (.pointer (some ⟨g, q * 2, none⟩)) rfl (by rfl) (fun X hX => w_iaC rfl rfl rfl HKN.out) ?_; try simp only [pS]
                refine wpG_take _ (.agg (plc c).toArray) rfl (by rfl) (fun X hX => w_ldC (hX.ob.rng HCK.out) rfl rfl) ?_; try simp only [pS]
                refine gT (.string s0) ?_; try simp only [pS]
                refine wpG_call _ rfl (by rfl) 48 #[.pointer (some ⟨V.M, 0, none⟩), .agg (pcells p).toArray, .agg (plc c).toArray, .string s0] (fun _ => by go_simp) (fun u w' => u = .tuple #[] ∧ WhT w lab V p (.slice sp N cap) l (.slice (some ⟨g, 0, none⟩) nb capb) bad (mend1 kinR p b0 yq c) w') (HCL.out.mono fun e w' ⟨e1, e2⟩ => by
                  obtain ⟨f1, f2⟩ := HW.out.drew.turn e2
                  exact ⟨_, e1, f1, rfl, f2⟩) ?_
                rintro u W4 hs4 ⟨rfl, hw4⟩
                refine ⟨_, fun _ h => h, hs4, ?_⟩; try simp only [pS]
                refine wpG_nil ?_
                have HW4 := Lib.hid hw4
                clear hs4 hw4 HCL HW HBq
                go_wp2_with fail
                go_roundw
                case rel => exact ⟨q + 1, by omega, by go_num, by rw [HSN.out]; exact HW4.out⟩
                case measure => simp [intOf]; omega
              · obtain rfl : q = nb := by omega
                have HF := Lib.hid (HFIN.out wr (by
                  have := HW.out
                  rw [List.take_of_length_le (by rw [HNB.out]; exact Nat.le_refl _)] at this
                  exact ⟨_, this⟩))
                clear hlt2 HFIN HW
                go_wp2_with fail
                first | exact HF.out | (go_ret2; exact HF.out)
      · obtain rfl : k = N := by omega
        have HTL : Hid (l.take k = l) := Lib.hid (List.take_of_length_le (by rw [HNN.out]; exact Nat.le_refl _))
        cases F with
        | none =>
          have HF := Lib.hid (HPo.out _ _ (HR.out.none HMY.out HL.out HTL.out))
          rw [show (Option.isSome (none : Option d_Bs)) = false from rfl]
          clear HR HPo hlt
          go_wp2_with fail
          first | exact HF.out | (go_ret2; exact HF.out)
        | some b0 =>
          obtain ⟨labk, hw⟩ := HR.out.fw
          obtain ⟨spb, capb, rfl, hcb, hspb⟩ := OwnC.form2 hw.ob
          obtain ⟨nb, hnb⟩ : ∃ nb, bad.length = nb := ⟨_, rfl⟩
          rw [hnb] at hw HR hcb hspb ⊢
          have HNB := Lib.hid hnb; have HSB := Lib.hid hspb; have HCB := Lib.hid hcb
          have hbl4 : nb ≤ 4 := by rw [← hnb]; exact HBL.out
          have HB4 := Lib.hid hbl4
          have HB0 := Lib.hid (firstW_len HR.out.ff)
          have HOKb : Hid (∀ c ∈ bad, c.1 < 2 ∧ 0 < c.2 ∧ c.2 < 65536) := Lib.hid (fun c hc => by
            rw [← HR.out.fb] at hc
            exact HOKc.out c (List.mem_of_mem_take (List.mem_filter.1 hc).1))
          have HFIN : Hid (∀ X, WhT w lab V p (.slice sp k cap) l (.slice spb nb capb) bad (mends kinR p b0 yk bad) X → Po (.returned (.tuple #[.string (bstr b0), .int .i64 0])) X) := Lib.hid (fun X hX => HPo.out _ _ (HR.out.done HMY.out HL.out (fun _ => HTL.out) hX))
          have HR0 : Hid (WhT w lab V p (.slice sp k cap) l (.slice spb nb capb) bad (mends kinR p b0 yk (bad.take 0)) wr) := Lib.hid ⟨_, hw⟩
          rw [show (Option.isSome (some b0 : Option d_Bs)) = true from rfl, show ((some b0 : Option d_Bs).getD []) = b0 from rfl]
          have HME := Lib.hid (fun (c : Cpy) hc X labX (yX : Wi) hX hbX => wmend_any p HP.out c hc b0 (by have := HB0.out; omega) X labX V yX (n + 8) hX hbX (by have := HN.out; omega))
          obtain ⟨s0, hs0⟩ : ∃ s, bstr b0 = s := ⟨_, rfl⟩
          rw [hs0] at HFIN HME ⊢
          clear hw hnb hcb hspb hbl4 hs0 HR HPo
          go_upto_region 19 with fail
          go_loopw [15] (fun i wr => ∃ z : Nat, z ≤ nb ∧ i = .int .i64 (z : Int) ∧ WhT w lab V p (.slice sp k cap) l (.slice spb nb capb) bad (mends kinR p b0 yk (bad.take z)) wr) (fun i _ => nb - (intOf i).toNat)
          case atStart => exact ⟨0, by omega, rfl, HR0.out⟩
          case round =>
            clear HR0
            obtain ⟨q, hq, rfl, labq, hw⟩ := hrel
            have HW := Lib.hid hw
            clear hw
            have wq1 := IntWalk.i64_in ((q : Int) + 1) (by have := HB4.out; omega)
            by_cases hlt2 : q < nb
            · obtain ⟨c, hc⟩ : ∃ c, bad[q]? = some c := ⟨_, List.getElem?_eq_getElem (by have := HNB.out; omega)⟩
              obtain ⟨g, rfl⟩ := HSB.out (by omega)
              have HCK := Lib.hid hc
              have HOK := Lib.hid (HOKb.out c (List.mem_of_getElem? hc))
              have HKN : Hid (q < nb ∧ nb ≤ capb) := Lib.hid ⟨hlt2, HCB.out⟩
              have HSN := Lib.hid ((congrArg (mends kinR p b0 yk) (take_one hc)).trans (mendsW_snoc p b0 yk (bad.take q) c))
              have HBq : Hid (Bw (mends kinR p b0 yk (bad.take q)) (n + 8)) := Lib.hid ((Bw.mends p b0 (bad.take q) yk (n + 4) HBK.out (fun c hc => HOKb.out c (List.mem_of_mem_take hc))).up (by have := HB4.out; have := HNB.out; simp; omega))
              obtain ⟨yq, hyq⟩ : ∃ yq, mends kinR p b0 yk (bad.take q) = yq := ⟨_, rfl⟩
              rw [hyq] at HSN HW HBq
              have HCL := Lib.hid (HME.out c HOK.out wr.drew labq yq HW.out.drew.m HBq.out)
              clear hc hyq
              go_upto_region 21 with fail
              refine gS (.take 0 (.take 1 (.take 2 (.take 3 (.take 4 (.take 5 (.take 6 (.step 7 (.nil))))))))) (WhF w V p (.slice sp k cap) l (.slice (some ⟨g, 0, none⟩) nb capb) bad) HW.out.drew.fact ?_
              refine gT (.pointer (some ⟨V.M, 0, none⟩)) ?_; try simp only [pS]
              refine wpG_take _ (.agg (pcells p).toArray) rfl (by rfl) (fun X hX => ex_ldPq HP.out hX.pt rfl rfl) ?_; try simp only [pS]
              refine gT (.slice (some ⟨g, 0, none⟩) nb capb) ?_; try simp only [pS]
              refine gT (.int .i64 (q : Int)) ?_; try simp only [pS]
              refine wpG_take _ (.pointer (some ⟨g, q * 2, none⟩)) rfl (by rfl) (fun X hX => w_iaC rfl rfl rfl HKN.out) ?_; try simp only [pS]
              refine wpG_take _ (.agg (plc c).toArray) rfl (by rfl) (fun X hX => w_ldC (hX.ob.rng HCK.out) rfl rfl) ?_; try simp only [pS]
              refine gT (.string s0) ?_; try simp only [pS]
              refine wpG_call _ rfl (by rfl) 48 #[.pointer (some ⟨V.M, 0, none⟩), .agg (pcells p).toArray, .agg (plc c).toArray, .string s0] (fun _ => by go_simp) (fun u w' => u = .tuple #[] ∧ WhT w lab V p (.slice sp k cap) l (.slice (some ⟨g, 0, none⟩) nb capb) bad (mend1 kinR p b0 yq c) w') (HCL.out.mono fun e w' ⟨e1, e2⟩ => by
                obtain ⟨f1, f2⟩ := HW.out.drew.turn e2
                exact ⟨_, e1, f1, rfl, f2⟩) ?_
              rintro u W4 hs4 ⟨rfl, hw4⟩
              refine ⟨_, fun _ h => h, hs4, ?_⟩; try simp only [pS]
              refine wpG_nil ?_
              have HW4 := Lib.hid hw4
              clear hs4 hw4 HCL HW HBq
              go_wp2_with fail
              go_roundw
              case rel => exact ⟨q + 1, by omega, by go_num, by rw [HSN.out]; exact HW4.out⟩
              case measure => simp [intOf]; omega
            · obtain rfl : q = nb := by omega
              have HF := Lib.hid (HFIN.out wr (by
                have := HW.out
                rw [List.take_of_length_le (by rw [HNB.out]; exact Nat.le_refl _)] at this
                exact ⟨_, this⟩))
              clear hlt2 HFIN HW
              go_wp2_with fail
              first | exact HF.out | (go_ret2; exact HF.out)
end Go.Proofs.YtmgagalhpkieoaaGreatDoor
