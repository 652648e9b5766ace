/- Content: the iterator goes through the pieces. -/
import Derived.Test.YthionhliokhcgaaCe
import Derived.Outline
namespace Go.Proofs.Ythionhliokhcgaa
open Go.RowKit Go.Shelf

attribute [local go_sem] Oper.semAt_some

def WantsOk (wf : Nat) (wt : Nat → Nat → Bool) : Prop := ∀ (off f t : Nat) (v : Value), f ≤ t → t ≤ 512 → ∀ W, Calls Try.prog wf #[.agg (pcC off f t v).toArray] W fun e w' => e = .returned (.bool (wt f t)) ∧ w' = W.alloc (.cells (pcC off f t v).toArray 56)
set_option maxRecDepth 100000 in
set_option maxHeartbeats 4000000 in
theorem pieces_in {wS : Bas} {B D G : Nat} {vs : List Value} {m : List B8} {bad : Nat} {avS : Value} {fr te wf : Nat} {wt : Nat → Nat → Bool} {aq0 : List Nat} (n : Nat) (hn : 1 ≤ n) (hfr : fr ≤ 32768) (hte : te ≤ 32768) (hwt : WantsOk wf wt)
    (heg : ∀ (args : Array Value) (w : World), (callFunc wf args).run Try.prog w = .ok (.enter wf args) w) (hq : aq0.length + 100 < 1000000) (J J1 : Nat → World → Prop)
    (hJc : ∀ i A, J i A → Cst wS B D G vs m bad avS fr te wf (aq0 ++ askU wt fr te i) A)
    (hJ1 : ∀ i A A', J i A → pcA fr i < te → Cst wS B D G vs m bad avS fr te wf (aq0 ++ askU wt fr te (i + 1)) A' → Kps D avS wS A A' → J1 i A') :
    SeqW Fence.wide n Try.prog 19 #[.pointer (some ⟨G + 1, 0, none⟩), .pointer (some ⟨G + 1 + 1, 0, none⟩), .pointer (some ⟨G + 1 + 1 + 1, 0, none⟩), .pointer (some ⟨G, 0, none⟩)] (fun i => ycE (yc vs bad wt fr te i)) wS.n
      (fun ys => te ≤ pcA fr ys.length ∨ ∃ i, i < ys.length ∧ (yc vs bad wt fr te i).e ≠ 0) (fun _ => True) (fun pre A => pre = List.range pre.length ∧ J pre.length A) (fun pre x A => pre = List.range pre.length ∧ x = pre.length ∧ J1 x A) := by
  intro l R Jx W hR hY h0 hRW
  have HY := Lib.hid hY; have HR := Lib.hid hR; have HW := Lib.hid hwt; have HJC := Lib.hid hJc; have HJ1 := Lib.hid hJ1; have HQ := Lib.hid hq; have HFR := Lib.hid hfr; have HTE := Lib.hid hte
  have H0 : Hid (J 0 W) := Lib.hid h0.2
  have HRW := Lib.hid hRW
  have c1 := (H0.out |> hJc 0 W).b1.cell (j := 0) rfl
  clear hY hR hwt hJc hJ1 hq hfr hte h0 hRW
  refine callsIn_of_wp Try.func19 rfl trivial ?_ rfl
  simp only [Try.ntmps19, List.size_toArray, List.length_cons, List.length_nil, Nat.reduceAdd, Nat.reduceSub, Array.replicate_succ, Array.replicate_zero, List.push_toArray, List.append_toArray, List.nil_append, List.cons_append]
  gi_wp2
  gi_loopw [6] (fun t wr => ∃ i : Nat, t = .int .u64 (pcA fr i : Int) ∧ J i wr ∧ R wr ∧ ∀ j, j < i → (yc vs bad wt fr te j).e = 0) (fun t _ => te - (intOf t).toNat)
  case atStart => exact ⟨0, rfl, H0.out, HRW.out, fun j hj => by omega⟩
  case round =>
    clear c1 H0 HRW
    obtain ⟨i, rfl, hJ, hRr, hno⟩ := hrel
    have HJ := Lib.hid hJ; have HRr := Lib.hid hRr; have HNO := Lib.hid hno
    have hC := HJC.out i wr hJ
    have HC := Lib.hid hC
    have c2 := hC.b2.cell (j := 0) rfl
    clear hJ hRr hno hC
    by_cases hlt : pcA fr i < te
    · have hAS := pcA_succ fr i
      have hAE := pcA_eq fr i
      have hFL := pcF_lt fr i
      have hT : pcT fr te i = min (te - 512 * pcO fr i) 512 := rfl
      obtain ⟨a, ha⟩ : ∃ a, pcA fr i = a := ⟨_, rfl⟩
      obtain ⟨a2, ha2⟩ : ∃ a, pcA fr (i + 1) = a := ⟨_, rfl⟩
      obtain ⟨K, hK⟩ : ∃ a, pcO fr i = a := ⟨_, rfl⟩
      obtain ⟨r, hr⟩ : ∃ a, pcF fr i = a := ⟨_, rfl⟩
      obtain ⟨tt, htt⟩ : ∃ a, pcT fr te i = a := ⟨_, rfl⟩
      obtain ⟨f, hf⟩ : ∃ f, 512 * K = f := ⟨_, rfl⟩
      obtain ⟨d, hd⟩ : ∃ d, te - f = d := ⟨_, rfl⟩
      have h1 := HTE.out
      rw [ha, hK, hr, hf] at hAE
      rw [ha2, hK, hf] at hAS
      rw [hr] at hFL
      rw [htt, hK, hf, hd] at hT
      have e1 : (a : Int) % 512 = (r : Int) := by omega
      have e2 : (a : Int) - (r : Int) = (f : Int) := by omega
      have e3 : (f : Int) / 512 = (K : Int) := by omega
      have e4 : (a : Int) - (f : Int) = (r : Int) := by omega
      have e5 : (te : Int) - (f : Int) = (d : Int) := by rw [ha] at hlt; omega
      have e6 : (f : Int) + 512 = (a2 : Int) := by omega
      have w8 : (K : Int) % 4294967296 = (K : Int) := by omega
      have w7 : IntKind.u64.wrap (K : Int) = (K : Int) := by rw [IntKind.wrap_u64]; omega
      have w1 : IntKind.u32.wrap (K : Int) = (K : Int) := by rw [IntKind.wrap_u32]; omega
      have w2 : IntKind.i64.wrap (r : Int) = (r : Int) := by rw [IntKind.wrap_i64]; omega
      have w3 : IntKind.u64.wrap (f : Int) = (f : Int) := by rw [IntKind.wrap_u64]; omega
      have w4 : IntKind.u64.wrap (d : Int) = (d : Int) := by rw [IntKind.wrap_u64]; omega
      have w5 : IntKind.u64.wrap (a2 : Int) = (a2 : Int) := by rw [IntKind.wrap_u64]; omega
      have w6 : IntKind.u64.wrap (r : Int) = (r : Int) := by rw [IntKind.wrap_u64]; omega
      have HK := Lib.hid hK; have HRR := Lib.hid hr; have HTT := Lib.hid htt; have HF := Lib.hid hf; have HD := Lib.hid hd; have HA := Lib.hid ha; have HA2 := Lib.hid ha2; have HT := Lib.hid hT; have HAE := Lib.hid hAE
      rw [ha] at hlt ⊢
      have hlti : (a : Int) < (te : Int) := by omega
      clear hK hr htt hf hd ha ha2 hT hAE hAS hFL h1
      have HTI : Hid ((if (512 : Int) < (d : Int) then 512 else (d : Int)) = (tt : Int)) := Lib.hid (by have := HT.out; split <;> omega)
      have hGlt : G + 1 + 1 + 1 < wr.heap.size := HC.out.b3.lt
      refine wpIn_wide.2 ?_
      go_upto_region 5 with fail
      refine (fun (k : ∀ X, Blk X wr.heap.size (pcC K r tt (.slice none 0 0)) 56 → Below wr.heap.size wr X → Code.wp _ _ _ _ X) => k _ (by rw [HTI.out]; exact Blk.new' _ _ _ _ _ rfl rfl) ((Below.refl _ _).alloc (Nat.le_refl _) _)) ?_
      intro X hbx hbl
      generalize (if (512 : Int) < (d : Int) then (512 : Int) else (d : Int)) = mn
      have HBX := Lib.hid hbx
      have HB1 := Lib.hid hbl
      have HCX := Lib.hid (HC.out.below hbl)
      have d3 := HCX.out.b3.cell (j := 0) rfl
      have p0 := hbx.cell (j := 0) rfl
      have p1 := hbx.cell (j := 1) rfl
      have p2 := hbx.cell (j := 2) rfl
      have p3 := hbx.cell (j := 3) rfl
      obtain ⟨g, hg⟩ : ∃ g, wr.heap.size = g := ⟨_, rfl⟩
      rw [hg] at HBX p0 p1 p2 p3 ⊢
      have HGG := Lib.hid hg
      have HWS : Hid (wS.n ≤ wr.heap.size) := Lib.hid (by obtain ⟨av, q1, q2⟩ := HC.out.sh; exact q2.sz)
      have HWG : Hid (wr.heap.size ≤ g) := Lib.hid (by omega)
      have HK64 : Hid (K < 64) := Lib.hid (by have := HTE.out; omega)
      have HRT : Hid (r ≤ tt ∧ tt ≤ 512) := Lib.hid (by have := HT.out; omega)
      clear hbx hbl c2 p0 p1 p2 p3 hg hGlt e1 e2 e3 e4 e5 e6 w1 w2 w3 w4 w5 w6 w7 w8 HTI HT HF HD HAE
      go_wp2_with (first | (refine c_val rfl (c_ldPc HBX.out rfl rfl) ?_) | fail)
      refine (HW.out K r tt (.slice none 0 0) HRT.out.1 HRT.out.2 X).mono ?_
      rintro e X2 ⟨rfl, hx2⟩
      have hb2 : Below X.heap.size X X2 := by rw [hx2]; exact (Below.refl _ _).alloc (Nat.le_refl _) _
      have HC2 := Lib.hid (HCX.out.below hb2)
      have HBX2 := Lib.hid (HBX.out.below hb2 HBX.out.lt)
      have HK2 : Hid (Kps D avS wS wr X2) := Lib.hid ((Kps.of_below HB1.out (by obtain ⟨av, q1, q2⟩ := HC.out.sh; exact q2.sz)).trans (Kps.of_below hb2 (by obtain ⟨av, q1, q2⟩ := HCX.out.sh; exact q2.sz)))
      clear hx2 hb2 d3 HCX HBX HB1 HC HGG
      have p0 := HBX2.out.cell (j := 0) rfl
      cases hw : wt r tt
      · have HYC : Hid (yc vs bad wt fr te i = ⟨K, r, tt, .slice none 0 0, 0⟩ ∧ askU wt fr te (i + 1) = askU wt fr te i) := Lib.hid (by
          constructor
          · unfold yc; rw [HRR.out, HTT.out, HK.out, if_neg (by rw [hw]; simp)]
          · rw [askU_succ]; unfold ask1; rw [HRR.out, HTT.out, if_neg (by rw [hw]; simp), List.append_nil])
        go_upto_region 10 with fail
        refine (wpIn_wide (n := n)).1 ?_
        have h1 := HJ1.out i wr X2 HJ.out (by rw [HA.out]; exact hlt) (by rw [HYC.out.2]; exact HC2.out) HK2.out
        obtain ⟨fn, tmps, assign, body, hy, hRd⟩ := HY.out (List.range i) i X2 ⟨by simp, by simp, h1⟩ (HR.out _ _ HRr.out HK2.out.from_)
        rw [HYC.out.1] at hy
        have hy : (Instr.yield l #[.agg #[.int .u32 (K : Int), .int .i64 (r : Int), .int .i64 (tt : Int), .slice none 0 0], .int .i64 0]).run Try.prog X2 = _ := hy
        clear h1
        have p1 := HBX2.out.cell (j := 1) rfl
        have p2 := HBX2.out.cell (j := 2) rfl
        have p3 := HBX2.out.cell (j := 3) rfl
        gi_wp2
        refine hRd.mono ?_
        rintro e W3 (⟨rfl, ⟨-, hJ3⟩, hR3⟩ | ⟨rfl, hJx3⟩)
        · have hJ3 : J (i + 1) W3 := by simpa using hJ3
          have hn3 : ∀ j, j < i + 1 → (yc vs bad wt fr te j).e = 0 := fun j hj => by
            rcases Nat.lt_succ_iff_lt_or_eq.1 hj with h | rfl
            · exact HNO.out j h
            · rw [HYC.out.1]
          have HJ3 := Lib.hid hJ3; have HR3 := Lib.hid hR3; have HN3 := Lib.hid hn3
          clear hJ3 hR3 hn3 p0 p1 p2 p3
          gi_wp2_with (first | (refine (wpIn_wide (n := n)).1 ?_) | fail)
          go_roundw
          case rel => exact ⟨i + 1, by rw [HA2.out], HJ3.out, HR3.out, HN3.out⟩
          case measure => simp [intOf]; have := hlt; have := pcA_succ fr i; have := pcA_eq fr i; have := pcF_lt fr i; have := HA.out; have := HA2.out; omega
        · gi_wp2_with (first | (refine (wpIn_wide (n := n)).1 ?_) | fail)
          refine bodyPost_ret (results_none rfl _ _ _) rfl ?_
          exact ⟨⟨_, rfl⟩, .inr ⟨_, trivial, hJx3⟩⟩
      · obtain ⟨av, hsh, hmv⟩ := HC2.out.sh
        have HLF := Lib.hid (cleaf_any hsh K HK64.out (Nat.le_trans HC2.out.bl hmv.sz) (by
          have h1 := askU_len wt fr te i
          have h2 := HQ.out
          have h3 := HA.out
          have h4 := HTE.out
          have h5 : i < 65 := by
            unfold pcA at h3
            split at h3 <;> omega
          rw [List.length_append]; omega))
        have HSH := Lib.hid hsh
        have HMV := Lib.hid hmv
        have hvk : ∃ v, vs[K]? = some v := ⟨_, List.getElem?_eq_getElem (by rw [hsh.vl]; exact HK64.out)⟩
        obtain ⟨v, hv⟩ := hvk
        have hml : ∃ l, m[K]? = some l := ⟨_, List.getElem?_eq_getElem (by rw [hsh.ml]; exact HK64.out)⟩
        obtain ⟨lb, hml⟩ := hml
        obtain ⟨spv, nv, capv, hvf⟩ : ∃ sp n cap, v = .slice sp n cap := by
          obtain ⟨sp, cap, e, _⟩ := c_owns_form (hsh.row K v lb hv hml)
          exact ⟨sp, _, cap, e⟩
        have hgv : vs.getD K undef = .slice spv nv capv := by rw [List.getD_eq_getElem?_getD, hv, hvf]; rfl
        have HGV := Lib.hid hgv
        have d0 := HC2.out.b0.cell (j := 0) rfl
        unfold shC at d0
        have hAS : askU wt fr te (i + 1) = askU wt fr te i ++ [K] := by rw [askU_succ]; unfold ask1; rw [HRR.out, HTT.out, HK.out, if_pos hw]
        have HAS := Lib.hid hAS
        have HWW := Lib.hid hw
        clear hsh hmv hv hml hvf hgv hAS hw
        go_wp2_with fail
        refine HLF.out.mono ?_
        rintro e X3 ⟨rfl, av', hsh3, hmv3⟩
        have HBX3 := Lib.hid (HSH.out.keep hmv3 HBX2.out (by decide) (by decide))
        have HC3 : Hid (Cst wS B D G vs m bad avS fr te wf (aq0 ++ askU wt fr te (i + 1)) X3) := Lib.hid (by
          rw [HAS.out, ← List.append_assoc]
          exact HC2.out.step HSH.out HMV.out hmv3 hsh3)
        have HK3 : Hid (Kps D avS wS wr X3) := Lib.hid (HK2.out.trans (kps_ask HSH.out HMV.out hmv3))
        clear hsh3 hmv3 HLF HSH HMV HC2 HBX2 HK2 p0 d0
        cases hbk : badAt bad K
        · have HYC : Hid (yc vs bad wt fr te i = ⟨K, r, tt, .slice spv nv capv, 0⟩) := Lib.hid (by
            unfold yc; rw [HRR.out, HTT.out, HK.out, if_pos HWW.out, if_neg (by rw [hbk]; simp), HGV.out])
          have e1 : lfV vs bad K = .slice spv nv capv := by unfold lfV; rw [if_neg (by rw [hbk]; simp), HGV.out]
          have e2 : ((lfE bad K : Nat) : Int) = 0 := by unfold lfE; rw [if_neg (by rw [hbk]; simp)]; rfl
          rw [e1, e2]
          clear e1 e2
          have p3 := HBX3.out.cell (j := 3) rfl
          have q3 := HBX3.out.free 3
          go_upto_region 8 with fail
          refine (fun (k : ∀ X, Blk X g (pcC K r tt (.slice spv nv capv)) 56 → Cst wS B D G vs m bad avS fr te wf (aq0 ++ askU wt fr te (i + 1)) X → Kps D avS wS wr X → Code.wp _ _ _ _ X) => k _ (HBX3.out.set 3 _) ?_ ?_) ?_
          · exact HC3.out.set HBX3.out (by decide) (.inr (by decide)) (by obtain ⟨av, q1, q2⟩ := HC3.out.sh; exact Nat.le_trans q2.ws (Nat.le_trans HWS.out HWG.out)) 3 _
          · exact HK3.out.set HBX3.out HWG.out HWS.out 3 _
          intro X4 hb4 hc4 hk4
          have HBX4 := Lib.hid hb4; have HC4 := Lib.hid hc4; have HK4 := Lib.hid hk4
          clear hb4 hc4 hk4 HBX3 HC3 HK3 p3 q3
          go_upto_region 10 with fail
          refine (wpIn_wide (n := n)).1 ?_
          have h1 := HJ1.out i wr X4 HJ.out (by rw [HA.out]; exact hlt) HC4.out HK4.out
          obtain ⟨fn, tmps, assign, body, hy, hRd⟩ := HY.out (List.range i) i X4 ⟨by simp, by simp, h1⟩ (HR.out _ _ HRr.out HK4.out.from_)
          rw [HYC.out] at hy
          have hy : (Instr.yield l #[.agg #[.int .u32 (K : Int), .int .i64 (r : Int), .int .i64 (tt : Int), .slice spv nv capv], .int .i64 0]).run Try.prog X4 = _ := hy
          clear h1
          have p0 := HBX4.out.cell (j := 0) rfl
          have p1 := HBX4.out.cell (j := 1) rfl
          have p2 := HBX4.out.cell (j := 2) rfl
          have p3 := HBX4.out.cell (j := 3) rfl
          gi_wp2
          refine hRd.mono ?_
          rintro e W3 (⟨rfl, ⟨-, hJ3⟩, hR3⟩ | ⟨rfl, hJx3⟩)
          · have hJ3 : J (i + 1) W3 := by simpa using hJ3
            have hn3 : ∀ j, j < i + 1 → (yc vs bad wt fr te j).e = 0 := fun j hj => by
              rcases Nat.lt_succ_iff_lt_or_eq.1 hj with h | rfl
              · exact HNO.out j h
              · rw [HYC.out]
            have HJ3 := Lib.hid hJ3; have HR3 := Lib.hid hR3; have HN3 := Lib.hid hn3
            clear hJ3 hR3 hn3 p0 p1 p2 p3
            gi_wp2_with (first | (refine (wpIn_wide (n := n)).1 ?_) | fail)
            go_roundw
            case rel => exact ⟨i + 1, by rw [HA2.out], HJ3.out, HR3.out, HN3.out⟩
            case measure => simp [intOf]; have := hlt; have := pcA_succ fr i; have := pcA_eq fr i; have := pcF_lt fr i; have := HA.out; have := HA2.out; omega
          · gi_wp2_with (first | (refine (wpIn_wide (n := n)).1 ?_) | fail)
            refine bodyPost_ret (results_none rfl _ _ _) rfl ?_
            exact ⟨⟨_, rfl⟩, .inr ⟨_, trivial, hJx3⟩⟩
        · have HYC : Hid (yc vs bad wt fr te i = ⟨0, 0, 0, .slice none 0 0, 21⟩) := Lib.hid (by
            unfold yc; rw [HRR.out, HTT.out, HK.out, if_pos HWW.out, if_pos hbk])
          have e1 : lfV vs bad K = .slice none 0 0 := by unfold lfV; rw [if_pos hbk]
          have e2 : ((lfE bad K : Nat) : Int) = 21 := by unfold lfE; rw [if_pos hbk]; rfl
          rw [e1, e2]
          clear e1 e2
          have p3 := HBX3.out.cell (j := 3) rfl
          have q3 := HBX3.out.free 3
          go_upto_region 8 with fail
          refine (fun (k : ∀ X, Cst wS B D G vs m bad avS fr te wf (aq0 ++ askU wt fr te (i + 1)) X → Kps D avS wS wr X → Code.wp _ _ _ _ X) => k _ ?_ ?_) ?_
          · exact HC3.out.set HBX3.out (by decide) (.inr (by decide)) (by obtain ⟨av, q1, q2⟩ := HC3.out.sh; exact Nat.le_trans q2.ws (Nat.le_trans HWS.out HWG.out)) 3 _
          · exact HK3.out.set HBX3.out HWG.out HWS.out 3 _
          intro X4 hc4 hk4
          have HC4 := Lib.hid hc4; have HK4 := Lib.hid hk4
          clear hc4 hk4 HBX3 HC3 HK3 p3 q3
          go_upto_region 9 with fail
          refine (wpIn_wide (n := n)).1 ?_
          have h1 := HJ1.out i wr X4 HJ.out (by rw [HA.out]; exact hlt) HC4.out HK4.out
          obtain ⟨fn, tmps, assign, body, hy, hRd⟩ := HY.out (List.range i) i X4 ⟨by simp, by simp, h1⟩ (HR.out _ _ HRr.out HK4.out.from_)
          rw [HYC.out] at hy
          have hy : (Instr.yield l #[.agg #[.int .u32 0, .int .i64 0, .int .i64 0, .slice none 0 0], .int .i64 21]).run Try.prog X4 = _ := hy
          clear h1
          gi_wp2
          refine hRd.mono ?_
          rintro e W3 (⟨rfl, ⟨-, hJ3⟩, hR3⟩ | ⟨rfl, hJx3⟩)
          · have hJ3 : J (i + 1) W3 := by simpa using hJ3
            have HJ3 := Lib.hid hJ3; have HR3 := Lib.hid hR3
            clear hJ3 hR3
            gi_wp2_with (first | (refine (wpIn_wide (n := n)).1 ?_) | fail)
            refine bodyPost_ret (results_none rfl _ _ _) rfl ?_
            exact ⟨⟨_, rfl⟩, .inl ⟨List.range (i + 1), .inr ⟨i, by simp, by rw [HYC.out]; simp⟩, ⟨by simp, by simpa using HJ3.out⟩, HR3.out⟩⟩
          · gi_wp2_with (first | (refine (wpIn_wide (n := n)).1 ?_) | fail)
            refine bodyPost_ret (results_none rfl _ _ _) rfl ?_
            exact ⟨⟨_, rfl⟩, .inr ⟨_, trivial, hJx3⟩⟩
    · have HE := Lib.hid hlt
      have hlt' : ¬ ((pcA fr i : Int) < (te : Int)) := by omega
      obtain ⟨a, ha⟩ : ∃ a, pcA fr i = a := ⟨_, rfl⟩
      rw [ha] at hlt' ⊢
      have HA := Lib.hid ha
      clear hlt ha
      gi_wp2
      go_end0
      exact ⟨⟨_, rfl⟩, .inl ⟨List.range i, .inl (by have := HE.out; simp; omega), ⟨by simp, by simpa using HJ.out⟩, HRr.out⟩⟩
end Go.Proofs.Ythionhliokhcgaa
