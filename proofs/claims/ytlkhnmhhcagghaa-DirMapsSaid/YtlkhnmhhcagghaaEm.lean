/- DirPlays: the walk. -/
import Derived.Test.YtlkhnmhhcagghaaEl
import Derived.Test.YtlkhnmhhcagghaaEj
import Derived.Deep.CutBlock
import Derived.Deep.CutRange
import Derived.BigFrame
namespace Go.Proofs.Ytlkhnmhhcagghaa
open Go.RowKit

attribute [local go_sem] Oper.semAt_some

structure AcD where
  d : Nat
  e : Ent
instance : Inhabited AcD := ⟨⟨0, default⟩⟩
abbrev dacells (a : AcD) : List Value := .int .u8 (a.d : Int) :: ecells a.e
def ActsD (w : World) (sp : Option Addr) (l : List AcD) : Prop :=
  0 < l.length → ∃ g o, sp = some ⟨g, o, none⟩ ∧ g < w.heap.size ∧ ∀ i a, l[i]? = some a → w.rangeAt g (o + i * 4) (dacells a)
def goodL (L : List Ent) : Prop := (L.map (·.n)).Nodup ∧ L.length ≤ 64
theorem drop_keep (n : List UInt8) : ∀ (L : List Ent) (k : Nat), L.findIdx? (eqB n) = some k → (L.map (·.n)).Nodup → L.take k ++ L.drop (k + 1) = keepL n L
  | [], k, h, _ => by simp at h
  | a :: L, k, h, hn => by
    rw [List.map_cons, List.nodup_cons] at hn
    rw [List.findIdx?_cons] at h
    cases ha : eqB n a with
    | true =>
      rw [ha, if_pos rfl] at h
      obtain rfl : 0 = k := by simpa using h
      have hx : a.n = n := by simpa [eqB] using ha
      unfold keepL
      rw [List.filter_cons, if_neg (by rw [ha]; simp)]
      show L = _
      rw [List.filter_eq_self.2]
      intro x hxm
      have : x.n ≠ n := fun e => hn.1 (by rw [hx, ← e]; exact List.mem_map.2 ⟨x, hxm, rfl⟩)
      simpa [eqB] using this
    | false =>
      rw [ha, if_neg (by simp)] at h
      obtain ⟨j, hj, rfl⟩ := Option.map_eq_some_iff.1 h
      have ih := drop_keep n L j hj hn.2
      unfold keepL at *
      rw [List.filter_cons, if_pos (by rw [ha]; rfl), ← ih]
      rfl
theorem dropL_keep {n : List UInt8} {L : List Ent} (h : dropE n L = 0) (hg : goodL L) : dropL n L = keepL n L := by
  unfold dropE at h
  unfold dropL
  cases hf : L.findIdx? (eqB n) with
  | none => rw [if_pos hf] at h; cases h
  | some k => exact drop_keep n L k hf hg.1
theorem keepL_good (n : List UInt8) {L : List Ent} (hg : goodL L) : goodL (keepL n L) := by
  unfold keepL
  refine ⟨hg.1.sublist (List.Sublist.map _ List.filter_sublist), Nat.le_trans (List.length_filter_le _ _) hg.2⟩
theorem addE_facts {L : List Ent} {e : Ent} (h : addE L e = 0) : errC e.n = 0 ∧ whoB e = true ∧ L.findIdx? (eqB e.n) = none ∧ L.length < 64 := by
  unfold addE at h
  by_cases h1 : errC e.n = 0
  · rw [if_neg (by simpa using h1)] at h
    cases h2 : whoB e with
    | false => rw [h2, if_pos rfl] at h; cases h
    | true =>
      rw [h2, if_neg (by simp)] at h
      by_cases h3 : L.findIdx? (eqB e.n) = none
      · rw [if_neg (by simpa using h3)] at h
        by_cases h4 : 64 ≤ L.length
        · rw [if_pos h4] at h; cases h
        · exact ⟨h1, rfl, h3, by omega⟩
      · rw [if_pos h3] at h; cases h
  · rw [if_pos h1] at h; exact absurd h h1
theorem addL_perm {L : List Ent} {e : Ent} (h : addE L e = 0) : (addL L e).Perm (e :: L) := by
  unfold addL
  rw [if_pos h]
  exact List.perm_middle.trans (by rw [List.take_append_drop])
theorem addL_good {L : List Ent} {e : Ent} (h : addE L e = 0) (hg : goodL L) : goodL (addL L e) := by
  have hp := addL_perm h
  obtain ⟨-, -, h3, h4⟩ := addE_facts h
  refine ⟨(hp.map (·.n)).nodup_iff.2 ?_, by rw [hp.length_eq, List.length_cons]; omega⟩
  rw [List.map_cons, List.nodup_cons]
  refine ⟨fun hm => ?_, hg.1⟩
  obtain ⟨x, hx, hxn⟩ := List.mem_map.1 hm
  have := List.findIdx?_eq_none_iff.1 h3 x hx
  simp [eqB, hxn] at this
theorem e_lenS {ρ : Operand → Value} {o : Oper} {x : Operand} {w : World} {n : List UInt8} (ho : o.op = .call { callee := .builtin .len, args := #[x], argTypes := #[9] }) (hx : ρ x = .string (str n)) : (execOp ρ o).run Try.prog w = .ok (.value (.int .i64 (n.length : Int))) w := by
  have := str_size n
  unfold execOp
  simp only [ho]
  go_simp
theorem ex_iaA {ρ : Operand → Value} {o : Oper} {x y : Operand} {w : World} {g o' n cap k : Nat} (ho : o.op = .indexAddr 38 x y) (hx : ρ x = .slice (some ⟨g, o', none⟩) n cap) (hy : ρ y = .int .i64 (k : Int)) (hk : k < n ∧ n ≤ cap) :
    (execOp ρ o).run Try.prog w = .ok (.value (.pointer (some ⟨g, o' + k * 4, none⟩))) w := by
  have h1 : ¬ n ≤ k := by omega
  unfold execOp
  simp only [ho]
  go_simp
set_option maxRecDepth 100000 in
set_option maxHeartbeats 16000000 in
theorem plays_go (l : List AcD) (sp : Option Addr) (cap : Nat) (hc : l.length ≤ cap) (hl : l.length ≤ 150) (w : World) (hA : ActsD w sp l) : Calls Try.prog 4 #[.slice sp l.length cap] w fun e w' => e = .returned (.bool true) ∧ Below w.heap.size w w' := by
  obtain ⟨N, hN⟩ : ∃ N, l.length = N := ⟨_, rfl⟩
  rw [hN] at hc hl ⊢
  have HN := Lib.hid hN; have HC := Lib.hid hc; have HL := Lib.hid hl; have HA := Lib.hid hA
  generalize hPost : (fun (e : Ending) (w' : World) => e = .returned (.bool true) ∧ Below w.heap.size w w') = Post
  have HP : Hid (∀ w', Below w.heap.size w w' → Post (.returned (.bool true)) w') := Lib.hid fun w' h => by rw [← hPost]; exact ⟨rfl, h⟩
  have z0 : ¬ (150 : Int) < (N : Int) := by omega
  clear hN hc hl hA hPost
  go_enter Try.func4, Try.ntmps4
  go_upto_region 7 with fail
  go_loopg [3, 4, 5] N (fun r s3 s4 i wr => ∃ (k : Nat) (L : List Ent), i = .int .i64 (k : Int) ∧ r + k = N ∧ goodL L ∧ OwnE wr w.heap.size s3 L ∧ OwnR wr w.heap.size s4 L ∧ Below w.heap.size w wr)
  case atStart => exact ⟨0, [], rfl, by omega, ⟨by simp, by simp⟩, OwnE.nil _ _, OwnR.nil _ _, Below.refl _ _⟩
  case round =>
    as_aux_lemma =>
      obtain ⟨k, L, rfl, hgk, hgood, ho3, ho4, hbw⟩ := hrel
      obtain ⟨sp3, cap3, rfl, hc3, -, hs3, hz3, -⟩ := ho3.form
      obtain ⟨sp4, cap4, rfl, hc4, -, hs4, -, -⟩ := ho4.form
      have HG := Lib.hid hgood; have HO3 := Lib.hid ho3; have HO4 := Lib.hid ho4; have HBW := Lib.hid hbw; have HC3 := Lib.hid hc3; have HC4 := Lib.hid hc4; have HZ3 := Lib.hid hz3
      have HL64 : Hid (L.length ≤ 64) := Lib.hid hgood.2
      obtain ⟨M, hM⟩ : ∃ M, L.length = M := ⟨_, rfl⟩
      rw [hM] at HO3 HO4 HC3 HC4 HL64 ⊢
      have HM := Lib.hid hM
      clear hgood ho3 ho4 hbw hc3 hc4 hs3 hz3 hs4 hM
      have wk1 := IntWalk.i64_in ((k : Int) + 1) (by have := HL.out; omega)
      by_cases hlt : k < N
      · have hlt' : (k : Int) < (N : Int) := by omega
        obtain ⟨a, ha⟩ : ∃ a, l[k]? = some a := ⟨_, List.getElem?_eq_getElem (by have := HN.out; omega)⟩
        obtain ⟨g, o, rfl, hg, hr⟩ := HA.out (by have := HN.out; omega)
        have hcell : ∀ X, Below w.heap.size w X → X.cell? ⟨g, o + k * 4, none⟩ = some (.int .u8 (a.d : Int)) ∧ X.rangeAt g (o + k * 4 + 1) (ecells a.e) := fun X hX => by
          have h0 := hr k a ha
          refine ⟨by rw [hX.cell (p := ⟨g, o + k * 4, none⟩) hg]; exact h0 0 _ rfl, fun j v hv => ?_⟩
          rw [hX.cell (p := ⟨g, o + k * 4 + 1 + j, none⟩) hg, show o + k * 4 + 1 + j = o + k * 4 + (j + 1) by omega]
          exact h0 (j + 1) v (by simpa using hv)
        have HCL := Lib.hid hcell
        have HKC : Hid (k < N ∧ N ≤ cap) := Lib.hid ⟨hlt, HC.out⟩
        obtain ⟨d, e⟩ := a
        simp only at HCL hcell
        have HRG := Lib.hid (hcell wr HBW.out).2
        have hbx := box_inR wr #[.string ⟨#[]⟩, .int .u16 0, .int .u8 0] e rfl
        have HBX := Lib.hid hbx
        clear ha hg hr hcell hbx
        go_upto_region 9 with (first | (refine e_val rfl (ex_iaA rfl rfl rfl HKC.out) ?_) | (refine e_val rfl (ex_ldR HRG.out rfl rfl) ?_) | (refine wpList_store_row rfl 41 (.tmp 6) (.tmp 30) rfl wr.heap.size (ecells e).toArray rfl rfl 41 _ (heap_alloc_new wr _) (sizeRc e) rfl (all_ec e) ?_) | fail)
        obtain ⟨W2, hW2⟩ : ∃ W, (wr.alloc (.cells #[.string ⟨#[]⟩, .int .u16 0, .int .u8 0] 41)).setRow wr.heap.size (ecells e).toArray = W := ⟨_, rfl⟩
        obtain ⟨g6, hg6⟩ : ∃ g, wr.heap.size = g := ⟨_, rfl⟩
        obtain ⟨hbx1, hbx2⟩ := HBX.out
        rw [hg6] at hW2
        rw [hg6] at hbx1 hbx2 ⊢
        rw [hW2] at hbx1 hbx2 ⊢
        rw [← hg6] at hbx1
        have HB2 : Hid (Below w.heap.size w W2) := Lib.hid (HBW.out.trans (hbx1.mono HBW.out.size))
        have HO32 := Lib.hid (HO3.out.below hbx1 (Nat.le_refl _)); have HO42 := Lib.hid (HO4.out.below hbx1 (Nat.le_refl _)); have HK2 := Lib.hid hbx2
        have c0 := hbx2.cell (j := 0) rfl
        clear hbx1 hbx2 hW2 hg6 HBX HO3 HO4 HBW HRG
        by_cases h300 : 300 < e.n.length
        · have z1 : (300 : Int) < (e.n.length : Int) := by omega
          clear h300
          go_wp2_with (first | (refine e_val rfl (e_lenS rfl rfl) ?_) | fail)
          refine (enWakes_any W2).mono ?_
          rintro x W3 ⟨rfl, hb3⟩
          have HQ := Lib.hid (HP.out W3 (HB2.out.trans (hb3.mono HB2.out.size)))
          go_wp2_with fail
          first | exact HQ.out | (go_ret; exact HQ.out)
        · have z1 : ¬ (300 : Int) < (e.n.length : Int) := by omega
          have HNM : Hid (e.n.length < 1000000) := Lib.hid (by omega)
          clear h300
          obtain ⟨v7, w7, hr7, ho7, hg7, -⟩ := ownE_apps (OwnE.nil W2 W2.heap.size) (Nat.le_refl _) (l2 := L) (by have := HL64.out; have := HM.out; simp; omega) HO32.out.src' HZ3.out 29
          rw [HM.out] at hr7
          have hb7 : Below W2.heap.size W2 w7 := (Below.refl _ _).trans (((Chg.refl (fun g => (Value.slice none 0 0).ownBlock = some g) W2).grown hg7 (fun k e => .inl e)).below (fun k hk => by cases hk) (Nat.le_refl _))
          rw [List.nil_append] at ho7
          obtain ⟨sp7, cap7, e7, hc7, -, -, -, -⟩ := ho7.form
          rw [HM.out] at e7 hc7
          subst e7
          have HR7 := Lib.hid hr7; have HC7 := Lib.hid hc7
          have HO7 : Hid (OwnE w7 w.heap.size (.slice sp7 M cap7) L) := Lib.hid (ho7.lower HB2.out.size)
          have HB7 : Hid (Below w.heap.size w w7) := Lib.hid (HB2.out.trans (hb7.mono HB2.out.size))
          have HO37 := Lib.hid (HO32.out.below hb7 (Nat.le_refl _)); have HO47 := Lib.hid (HO42.out.below hb7 (Nat.le_refl _)); have HK7 := Lib.hid (HK2.out.below hb7 HK2.out.lt)
          have HD7 := Lib.hid (HCL.out w7 HB7.out).1
          clear hr7 ho7 hg7 hb7 hc7
          go_upto_region 15 with (first | (refine e_val rfl (e_lenS rfl rfl) ?_) | (at_builtin; refine e_val rfl (ex_appE rfl rfl rfl HR7.out) ?_) | fail)
          clear c0 HR7 HO32 HO42 HK2 HB2
          have d0 := HD7.out
          go_upto_block 2 with (first | (refine e_val rfl (ex_iaA rfl rfl rfl HKC.out) ?_) | fail)
          clear d0
          have HG6 := Lib.hid HK7.out.lt
          go_cut [8, 9, 10, 11] from 20 to 143 (fun s8 s9 s10 s11 wx => ∃ (er n8 n9 : Nat) (sp8 sp9 : Option Addr) (cap8 cap9 : Nat) (L' : List Ent), s8 = .slice sp8 n8 cap8 ∧ s9 = .slice sp9 n9 cap9 ∧ s10 = .int .i64 (er : Int) ∧ s11 = .int .i64 (er : Int) ∧ Below w.heap.size w wx ∧ Below w7.heap.size w7 wx ∧ (er ≠ 0 → n8 = 0) ∧ (er = 0 → goodL L' ∧ OwnE wx w.heap.size (.slice sp8 n8 cap8) L' ∧ OwnR wx w.heap.size (.slice sp9 n9 cap9) L'))
          case first =>
            as_aux_lemma =>
              have c0 := HK7.out.cell (j := 0) rfl
              by_cases hd0 : d = 0
              · have y0 : ((d : Int) == 0) = true := by rw [hd0]; rfl
                clear hd0
                go_wp2_with fail
                have h1 := enDrop_any L e.n sp3 cap3 (by rw [HM.out]; exact HC3.out) HZ3.out (by rw [HM.out]; have := HL64.out; omega) w7 HO37.out.src'
                rw [HM.out] at h1
                refine h1.mono ?_
                rintro x W8 ⟨v8, rfl, ho8, hb8⟩
                obtain ⟨sp8, cap8, rfl, -⟩ := ho8.form
                have HO8 := Lib.hid ho8; have HB8 := Lib.hid hb8
                have HB8w : Hid (Below w.heap.size w W8) := Lib.hid (HB7.out.trans (hb8.mono HB7.out.size))
                have HO48 := Lib.hid (HO47.out.below hb8 (Nat.le_refl _))
                have c0' := (HK7.out.below hb8 HG6.out).cell (j := 0) rfl
                clear h1 ho8 hb8 c0
                go_wp2_with fail
                have h2 := renDrop_any L e.n sp4 cap4 (by rw [HM.out]; exact HC4.out) (by rw [HM.out]; have := HL64.out; omega) W8 HO48.out.src'
                rw [HM.out] at h2
                obtain ⟨KL, hKL⟩ : ∃ K, (if dropE e.n L = 0 then keepL e.n L else []) = K := ⟨_, rfl⟩
                rw [hKL] at h2
                have HKL := Lib.hid hKL
                clear hKL
                refine h2.mono ?_
                rintro x W9 ⟨v9, rfl, ho9, hb9⟩
                obtain ⟨sp9, cap9, rfl, -⟩ := ho9.form
                have HO9 := Lib.hid ho9; have HB9 := Lib.hid hb9
                clear h2 ho9 hb9 c0'
                go_wp2_with fail
                go_meet
                refine ⟨dropE e.n L, _, _, sp8, sp9, cap8, cap9, dropL e.n L, rfl, rfl, rfl, rfl, HB8w.out.trans (HB9.out.mono HB8w.out.size), HB8.out.trans (HB9.out.mono HB8.out.size), fun h => ?_, fun h => ?_⟩
                · unfold dropE at h
                  unfold dropL
                  cases hf : L.findIdx? (eqB e.n) with
                  | none => rfl
                  | some j => rw [if_neg (by rw [hf]; simp)] at h; exact absurd rfl h
                · have hk := dropL_keep h HG.out
                  refine ⟨by rw [hk]; exact keepL_good _ HG.out, (HO8.out.below HB9.out (Nat.le_refl _)).lower HB7.out.size, ?_⟩
                  have h9 := HO9.out.lower (B' := w.heap.size) HB8w.out.size
                  have hkl := HKL.out
                  rw [if_pos h, ← hk] at hkl
                  rw [hkl]
                  exact h9
              · have y0 : ((d : Int) == 0) = false := by simp; omega
                by_cases hd1 : d = 1
                · have y1 : ((d : Int) == 1) = true := by rw [hd1]; rfl
                  clear hd0 hd1
                  go_wp2_with fail
                  have h1 := enFind_any L e.n sp3 cap3 (by rw [HM.out]; exact HC3.out) (by rw [HM.out]; have := HL64.out; omega) w7 HO37.out.src'
                  rw [HM.out] at h1
                  refine h1.mono ?_
                  rintro x W8 ⟨rfl, hb8⟩
                  obtain ⟨F, hF⟩ : ∃ F, (findP e.n L).getD zeroEnt = F := ⟨_, rfl⟩
                  obtain ⟨is_, his⟩ : ∃ b, (findP e.n L).isSome = b := ⟨_, rfl⟩
                  rw [hF, his]
                  have HF := Lib.hid hF; have HIS := Lib.hid his
                  have HBX := Lib.hid (box_in W8 #[.string ⟨#[]⟩, .int .u16 0, .int .u8 0] F rfl)
                  have HB8 := Lib.hid hb8
                  clear h1 hb8 hF his
                  go_upto_region 23 with (first | (refine wpList_store_row rfl 46 (.tmp 12) (.tmp 84) rfl W8.heap.size (ecells F).toArray rfl rfl 46 _ (heap_alloc_new W8 _) (sizeEc F) rfl (all_ec F) ?_) | fail)
                  obtain ⟨W9, hW9⟩ : ∃ W, (W8.alloc (.cells #[.string ⟨#[]⟩, .int .u16 0, .int .u8 0] 46)).setRow W8.heap.size (ecells F).toArray = W := ⟨_, rfl⟩
                  obtain ⟨g12, hg12⟩ : ∃ g, W8.heap.size = g := ⟨_, rfl⟩
                  obtain ⟨hx1, hx2⟩ := HBX.out
                  rw [hg12] at hW9
                  rw [hg12] at hx1 hx2 ⊢
                  rw [hW9] at hx1 hx2 ⊢
                  rw [← hg12] at hx1
                  have HB9 : Hid (Below w7.heap.size w7 W9) := Lib.hid (HB8.out.trans (hx1.mono HB8.out.size))
                  have HK12 := Lib.hid hx2
                  have c0' := (HK7.out.below HB9.out HG6.out).cell (j := 0) rfl
                  clear hx1 hx2 hW9 hg12 HBX HB8 c0
                  go_wp2_with fail
                  have h2 := renFind_any L e.n sp4 cap4 (by rw [HM.out]; exact HC4.out) (by rw [HM.out]; have := HL64.out; omega) W9 (HO47.out.below HB9.out (Nat.le_refl _)).src'
                  rw [HM.out, HF.out, HIS.out] at h2
                  refine h2.mono ?_
                  rintro x W10 ⟨rfl, hb10⟩
                  have HBX := Lib.hid (box_inR W10 #[.string ⟨#[]⟩, .int .u16 0, .int .u8 0] F rfl)
                  have HB10 : Hid (Below w7.heap.size w7 W10) := Lib.hid (HB9.out.trans (hb10.mono HB9.out.size))
                  have HK13 := Lib.hid (HK12.out.below hb10 HK12.out.lt)
                  clear h2 hb10 c0'
                  go_upto_region 24 with (first | (refine wpList_store_row rfl 41 (.tmp 14) (.tmp 91) rfl W10.heap.size (ecells F).toArray rfl rfl 41 _ (heap_alloc_new W10 _) (sizeRc F) rfl (all_ec F) ?_) | fail)
                  obtain ⟨W11, hW11⟩ : ∃ W, (W10.alloc (.cells #[.string ⟨#[]⟩, .int .u16 0, .int .u8 0] 41)).setRow W10.heap.size (ecells F).toArray = W := ⟨_, rfl⟩
                  obtain ⟨g14, hg14⟩ : ∃ g, W10.heap.size = g := ⟨_, rfl⟩
                  obtain ⟨hx1, hx2⟩ := HBX.out
                  rw [hg14] at hW11
                  rw [hg14] at hx1 hx2 ⊢
                  rw [hW11] at hx1 hx2 ⊢
                  rw [← hg14] at hx1
                  have HB11 : Hid (Below w7.heap.size w7 W11) := Lib.hid (HB10.out.trans (hx1.mono HB10.out.size))
                  have hk12 := HK13.out.below hx1 HK13.out.lt
                  have hb12 : Below W11.heap.size W11 (W11.alloc (.cells (ecells F).toArray 46)) := (Below.refl _ _).alloc (Nat.le_refl _) _
                  have hb13 : Below W11.heap.size W11 ((W11.alloc (.cells (ecells F).toArray 46)).alloc (.cells (ecells F).toArray 41)) := hb12.alloc (by simp) _
                  have hr12 : W11.rangeAt g12 0 (ecells F) := fun j v hv => by rw [Nat.zero_add]; exact hk12.cell hv
                  have hk14 := hx2.below hb12 hx2.lt
                  have hr14 : (W11.alloc (.cells (ecells F).toArray 46)).rangeAt g14 0 (ecells F) := fun j v hv => by rw [Nat.zero_add]; exact hk14.cell hv
                  have hka : Blk ((W11.alloc (.cells (ecells F).toArray 46)).alloc (.cells (ecells F).toArray 41)) W11.heap.size (ecells F) 46 := (Blk.new' _ _ _ _ _ rfl rfl).alloc _
                  have hkb : Blk ((W11.alloc (.cells (ecells F).toArray 46)).alloc (.cells (ecells F).toArray 41)) (W11.alloc (.cells (ecells F).toArray 46)).heap.size (ecells F) 41 := Blk.new' _ _ _ _ _ rfl rfl
                  have hsame := enSame_any [F] (some ⟨W11.heap.size, 0, none⟩) (some ⟨(W11.alloc (.cells (ecells F).toArray 46)).heap.size, 0, none⟩) 1 1 (by simp) (by simp) (by simp) _ (srcE_one hka) (srcE_one hkb)
                  have HR12 := Lib.hid hr12; have HR14 := Lib.hid hr14; have HSM := Lib.hid hsame
                  have HB13 : Hid (Below w7.heap.size w7 ((W11.alloc (.cells (ecells F).toArray 46)).alloc (.cells (ecells F).toArray 41))) := Lib.hid (HB11.out.trans (hb13.mono HB11.out.size))
                  have hsz : (W11.alloc (.cells (ecells F).toArray 46)).heap.size = W11.heap.size + 1 := by simp
                  rw [hsz] at HSM
                  clear hx1 hx2 hW11 hg14 HBX hk12 hb12 hb13 hr12 hk14 hr14 hka hkb hsame hsz
                  go_wp2_with (first | (refine e_valG (by rfl) (ex_ldE HR12.out rfl rfl) ?_) | (refine e_valG (by rfl) (ex_ldR HR14.out rfl rfl) ?_) | (refine e_valG (by rfl) (ex_oneE rfl rfl) ?_) | (refine e_valG (by rfl) (ex_oneR rfl rfl) ?_) | fail)
                  refine HSM.out.mono ?_
                  rintro x W14 ⟨rfl, hb14⟩
                  have HB14 : Hid (Below w7.heap.size w7 W14) := Lib.hid (HB13.out.trans (hb14.mono HB13.out.size))
                  clear hb14
                  go_wp2_with fail
                  go_meet
                  exact ⟨0, M, M, sp3, sp4, cap3, cap4, L, rfl, rfl, rfl, rfl, HB7.out.trans (HB14.out.mono HB7.out.size), HB14.out, fun h => absurd rfl h, fun _ => ⟨HG.out, HO37.out.below HB14.out (Nat.le_refl _), HO47.out.below HB14.out (Nat.le_refl _)⟩⟩
                · have y1 : ((d : Int) == 1) = false := by simp; omega
                  have c1 := HK7.out.cell (j := 1) rfl
                  have c2 := HK7.out.cell (j := 2) rfl
                  clear hd0 hd1
                  go_wp2_with fail
                  have h1 := enAdd_any L e sp3 cap3 (by rw [HM.out]; exact HC3.out) HZ3.out (by rw [HM.out]; have := HL64.out; omega) HNM.out w7 HO37.out.src'
                  rw [HM.out] at h1
                  refine h1.mono ?_
                  rintro x W8 ⟨v8, rfl, ho8, hb8⟩
                  obtain ⟨sp8, cap8, rfl, -⟩ := ho8.form
                  have HO8 := Lib.hid ho8; have HB8 := Lib.hid hb8
                  have HB8w : Hid (Below w.heap.size w W8) := Lib.hid (HB7.out.trans (hb8.mono HB7.out.size))
                  have HO48 := Lib.hid (HO47.out.below hb8 (Nat.le_refl _))
                  have hk8 := HK7.out.below hb8 HG6.out
                  have q0 := hk8.cell (j := 0) rfl
                  have q1 := hk8.cell (j := 1) rfl
                  have q2 := hk8.cell (j := 2) rfl
                  clear h1 ho8 hb8 c0 c1 c2 hk8
                  go_wp2_with fail
                  have h2 := renAdd_any L e sp4 cap4 (by rw [HM.out]; exact HC4.out) (by rw [HM.out]; have := HL64.out; omega) HNM.out W8 HO48.out.src'
                  rw [HM.out] at h2
                  refine h2.mono ?_
                  rintro x W9 ⟨v9, rfl, ho9, hb9⟩
                  obtain ⟨sp9, cap9, rfl, -⟩ := ho9.form
                  have HO9 := Lib.hid ho9; have HB9 := Lib.hid hb9
                  clear h2 ho9 hb9 q0 q1 q2
                  go_wp2_with fail
                  go_meet
                  refine ⟨addE L e, _, _, sp8, sp9, cap8, cap9, addL L e, rfl, rfl, rfl, rfl, HB8w.out.trans (HB9.out.mono HB8w.out.size), HB8.out.trans (HB9.out.mono HB8.out.size), fun h => ?_, fun h => ?_⟩
                  · unfold addL; rw [if_neg h]; rfl
                  · exact ⟨addL_good h HG.out, (HO8.out.below HB9.out (Nat.le_refl _)).lower HB7.out.size, HO9.out.lower HB8w.out.size⟩
          case rest =>
            obtain ⟨er, n8, n9, sp8, sp9, cap8, cap9, L', rfl, rfl, rfl, rfl, hbx, hb7x, hne, heq⟩ := hcut
            have HBX := Lib.hid hbx; have HNE := Lib.hid hne; have HEQ := Lib.hid heq
            have HO7x := Lib.hid (HO7.out.below hb7x (Nat.le_refl _)); have HO3x := Lib.hid (HO37.out.below hb7x (Nat.le_refl _)); have HO4x := Lib.hid (HO47.out.below hb7x (Nat.le_refl _))
            clear hbx hb7x hne heq HO7 HO37 HO47 HK7 HD7
            have HSAME : Hid (∀ W, Below wc.heap.size wc W → ∀ sa capa sr capr, M ≤ capa → M ≤ capr → OwnE wc w.heap.size (.slice sa M capa) L → OwnR wc w.heap.size (.slice sr M capr) L → Calls Try.prog 13 #[.slice sa M capa, .slice sr M capr] W fun e w' => e = .returned (.bool true) ∧ Below W.heap.size W w') := Lib.hid fun W hW sa capa sr capr h1 h2 h3 h4 => by
              have h := enSame_any L sa sr capa capr (by rw [HM.out]; exact h1) (by rw [HM.out]; exact h2) (by rw [HM.out]; have := HL64.out; omega) W (h3.src'.grown hW) (h4.src'.grown hW)
              rw [HM.out] at h
              exact h
            by_cases her : er = 0
            · subst her
              obtain ⟨hg', ho8, ho9⟩ := HEQ.out rfl
              obtain ⟨sp8', cap8', e8, hc8, -, hs8, -, -⟩ := ho8.form
              obtain ⟨sp9', cap9', e9, hc9, -, hs9, -, -⟩ := ho9.form
              injection e8 with a1 a2 a3
              injection e9 with b1 b2 b3
              subst a1 a3 b1 b3
              have hsm := enSame_any L' sp8 sp9 cap8 cap9 hc8 hc9 (by have := hg'.2; omega) wc hs8 hs9
              rw [← a2] at hsm
              have e99 : n8 = n9 := by omega
              subst e99
              have HSM := Lib.hid hsm; have HG' := Lib.hid hg'; have HO8 := Lib.hid ho8; have HO9 := Lib.hid ho9
              have y0 : (((0 : Nat) : Int) != ((0 : Nat) : Int)) = false := rfl
              have y1 : (((0 : Nat) : Int) != 0) = false := rfl
              have y2 : (((0 : Nat) : Int) == 0) = true := rfl
              clear hsm hg' ho8 ho9 hc8 hs8 hc9 hs9 a2 b2
              go_wp2_with fail
              refine HSM.out.mono ?_
              rintro x W15 ⟨rfl, hb15⟩
              have HB15 := Lib.hid hb15
              clear hb15
              go_wp2_with fail
              refine (HSAME.out W15 HB15.out sp7 cap7 sp4 cap4 HC7.out HC4.out HO7x.out HO4x.out).mono ?_
              rintro x W16 ⟨rfl, hb16⟩
              have HB16 : Hid (Below wc.heap.size wc W16) := Lib.hid (HB15.out.trans (hb16.mono HB15.out.size))
              clear hb16
              go_wp2_with fail
              refine (HSAME.out W16 HB16.out sp3 cap3 sp4 cap4 HC3.out HC4.out HO3x.out HO4x.out).mono ?_
              rintro x W17 ⟨rfl, hb17⟩
              have HB17 : Hid (Below wc.heap.size wc W17) := Lib.hid (HB16.out.trans (hb17.mono HB16.out.size))
              clear hb17
              go_wp2_with fail
              go_roundg (N - (k + 1))
              case measure => omega
              case rel => exact ⟨k + 1, L', by go_num, by omega, HG'.out, HO8.out.below HB17.out (Nat.le_refl _), HO9.out.below HB17.out (Nat.le_refl _), HBX.out.trans (HB17.out.mono HBX.out.size)⟩
            · obtain rfl := HNE.out her
              have y1 : ((er : Int) != 0) = true := by simp; omega
              have y2 : ((er : Int) == 0) = false := by simp; omega
              clear her
              go_wp2_with fail
              refine (HSAME.out wc (Below.refl _ _) sp7 cap7 sp4 cap4 HC7.out HC4.out HO7x.out HO4x.out).mono ?_
              rintro x W16 ⟨rfl, hb16⟩
              have HB16 := Lib.hid hb16
              clear hb16
              go_wp2_with fail
              refine (HSAME.out W16 HB16.out sp3 cap3 sp4 cap4 HC3.out HC4.out HO3x.out HO4x.out).mono ?_
              rintro x W17 ⟨rfl, hb17⟩
              have HB17 : Hid (Below wc.heap.size wc W17) := Lib.hid (HB16.out.trans (hb17.mono HB16.out.size))
              clear hb17
              go_wp2_with fail
              go_roundg (N - (k + 1))
              case measure => omega
              case rel => exact ⟨k + 1, L, by go_num, by omega, HG.out, HO3x.out.below HB17.out (Nat.le_refl _), HO4x.out.below HB17.out (Nat.le_refl _), HBX.out.trans (HB17.out.mono HBX.out.size)⟩
      · obtain rfl : N = k := by omega
        have hlt' : ¬ (N : Int) < (N : Int) := by omega
        go_wp2_with fail
        refine (enWakes_any wr).mono ?_
        rintro x W3 ⟨rfl, hb3⟩
        have HQ := Lib.hid (HP.out W3 (HBW.out.trans (hb3.mono HBW.out.size)))
        go_wp2_with fail
        first | exact HQ.out | (go_ret; exact HQ.out)
end Go.Proofs.Ytlkhnmhhcagghaa
