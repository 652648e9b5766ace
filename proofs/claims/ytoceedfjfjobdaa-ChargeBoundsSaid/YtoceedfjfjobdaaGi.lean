/- Charge: each's iterator walked. -/
import Derived.Test.YtoceedfjfjobdaaGh
namespace Go.Proofs.Ytoceedfjfjobdaa
open Go.RowKit Go.Shelf

attribute [local go_sem] Oper.semAt_some

theorem KeepsFrom.cellW {B : Nat} {A : World} {g : Nat} {cs : List Value} {t : TypeId} (hb : Blk A g cs t) {A' : World} (hc : Chg (fun k => k = g) A A') : KeepsFrom B A A' := ⟨hc.size, fun k o _ hk ho => by
  by_cases e : k = g
  · subst e
    unfold Blk at hb
    rw [hb] at hk
    cases hk
    cases ho
  · rw [hc.block k (Array.getElem?_eq_some_iff.1 hk).1 e]; exact hk⟩
theorem KeepsFrom.of_below {B : Nat} {A A' : World} (h : Below A.heap.size A A') : KeepsFrom B A A' := ⟨h.size, fun k o _ hk _ => by
  rw [h.block k (Array.getElem?_eq_some_iff.1 hk).1]; exact hk⟩
theorem KC.blk {B g : Nat} {A A' : World} {cs : List Value} {t : TypeId} (h : KC B A A') (hg : B ≤ g) (hb : Blk A g cs t) : Blk A' g cs t := h.same g _ hg hb rfl
theorem own_snoc {l : List Nat} {j x : Nat} (h : l[j]? = some x) : ownT (l.take (j + 1)) = mark (ownT (l.take j)) x := by
  obtain ⟨hk, rfl⟩ := List.getElem?_eq_some_iff.1 h
  rw [List.take_succ_eq_append_getElem hk]
  unfold ownT
  rw [List.foldl_append]
  rfl
theorem ex_iaOf {ρ : Operand → Value} {o : Oper} {x y : Operand} {w : World} {g o' n cap k : Nat} (ho : o.op = .indexAddr 31 x y) (hx : ρ x = .slice (some ⟨g, o', none⟩) n cap) (hy : ρ y = .int .i64 (k : Int)) (hk : k < n ∧ n ≤ cap) :
    (execOp ρ o).run Try.prog w = .ok (.value (.pointer (some ⟨g, o' + k, none⟩))) w := by
  have h1 : ¬ n ≤ k := by omega
  unfold execOp
  simp only [ho]
  go_simp
theorem ex_ldGs {ρ : Operand → Value} {o : Oper} {x : Operand} {w : World} {ad : Addr} {v : Value} (ho : o.op = .load 35 x) (hx : ρ x = .pointer (some ad)) (hc : w.cell? ad = some v) : (execOp ρ o).run Try.prog w = .ok (.value v) w := by
  unfold execOp; simp only [ho]; go_simp
theorem ex_ld32 {ρ : Operand → Value} {o : Oper} {x : Operand} {w : World} {ad : Addr} {v : Value} (ho : o.op = .load 47 x) (hx : ρ x = .pointer (some ad)) (hc : w.cell? ad = some v) : (execOp ρ o).run Try.prog w = .ok (.value v) w := by
  unfold execOp; simp only [ho]; go_simp
theorem c_valIn {F : Fence} {n : Nat} {ops : Array Oper} {rest : List Oper} {o : Oper} {a : Act} {Q : Exit → Act → World → Prop} {w w' : World} {v : Value} {ty : TypeId} {x : Operand} (hg : o.guard = none) (ho : o.op = .load ty x) (hrun : (execOp a.eval o).run Try.prog w = .ok (.value v) w') (h : wpListIn F n Try.prog ops Q rest (a.put o.dst v) w') : wpListIn F n Try.prog ops Q (o :: rest) a w := by
  refine wpListIn_plain hg fun K hK => ?_
  refine ⟨fun f hf => ?_, ?_⟩
  · simp [Oper.about, ho] at hf
  · rw [Oper.semAt_plain F _ _ (by rw [ho]; intro c hc; cases hc), hrun]
    exact hK _ _ h
set_option maxRecDepth 100000 in
set_option maxHeartbeats 16000000 in
theorem each_in {nS G cap : Nat} {sp : Option Addr} {l : List Oi} (n : Nat) (hn : 1 ≤ n) (hl : l.length ≤ cap) (hN : l.length < 1000000) (hO : ∀ o ∈ l, o.offs.length < 1000000) (I : List Yi → World → Prop) (hH : ∀ pre A, I pre A → HdO G sp cap l A)
    (hB : ∀ pre A A', I pre A → Below nS A A' → I pre A') (hz : ∀ pre A, I pre A → nS ≤ A.heap.size) :
    SeqK Fence.wide n Try.prog 24 #[.pointer (some ⟨G, 0, none⟩)] yiE nS (fun ys => ys = eachI seen0 l) (fun _ => True) I (fun pre x A => I pre A ∧ ∃ r, eachI seen0 l = pre ++ x :: r) := by
  intro lb R Jx W hR hY h0 hRW
  have HY := Lib.hid hY; have HR := Lib.hid hR; have HH := Lib.hid hH; have HIB := Lib.hid hB; have HZ := Lib.hid hz; have HL := Lib.hid hl; have HOL := Lib.hid hO
  obtain ⟨N, hNN⟩ : ∃ N, l.length = N := ⟨_, rfl⟩
  have HN := Lib.hid hNN
  rw [hNN] at hN
  have HNB := Lib.hid hN
  have hbS : Below W.heap.size W (W.alloc (.cells (bcs seen0).toArray 62)) := (Below.refl _ _).alloc (Nat.le_refl _) _
  have H0 : Hid (Blk (W.alloc (.cells (bcs seen0).toArray 62)) W.heap.size (bcs seen0) 62 ∧ I [] (W.alloc (.cells (bcs seen0).toArray 62)) ∧ R (W.alloc (.cells (bcs seen0).toArray 62)) ∧ nS ≤ W.heap.size) :=
    Lib.hid ⟨Blk.new' _ _ _ _ _ rfl rfl, hB _ _ _ h0 (hbS.mono (hz _ _ h0)), hR _ _ hRW (KeepsFrom.of_below hbS), hz _ _ h0⟩
  clear hR hY hH hB hz hl hO h0 hRW hNN hN hbS
  refine callsIn_of_wp Try.func24 rfl trivial ?_ rfl
  simp only [Try.ntmps24, List.size_toArray, List.length_cons, List.length_nil, Nat.reduceAdd, Nat.reduceSub, Array.replicate_succ, Array.replicate_zero, List.push_toArray, List.append_toArray, List.nil_append, List.cons_append]
  refine wpIn_wide.2 ?_
  go_upto_region 1 with (first | (refine c_val rfl (ex_al zeroS rfl) ?_) | fail)
  refine (fun (k' : ∀ X, Blk X W.heap.size (bcs seen0) 62 → I [] X → R X → Code.wp _ _ _ _ X) => k' _ H0.out.1 H0.out.2.1 H0.out.2.2.1) ?_
  intro X1 hs1 hI1 hR1
  obtain ⟨S, hS⟩ : ∃ S, W.heap.size = S := ⟨_, rfl⟩
  rw [hS] at hs1 ⊢
  have HSn : Hid (nS ≤ S) := Lib.hid (by have := H0.out.2.2.2; omega)
  have HS1 := Lib.hid hs1; have HI1 := Lib.hid hI1; have HR1 := Lib.hid hR1
  have c1 := (HH.out _ _ hI1).b.cell (j := 0) rfl
  rw [HN.out] at c1
  clear hs1 hI1 hR1 hS H0
  go_upto_region 2 with (first | (refine c_val rfl (ex_ldGs rfl rfl c1) ?_) | fail)
  clear c1
  refine (wpIn_wide (n := n)).1 ?_
  gi_loopw [11] (fun t wr => ∃ (k : Nat) (s : List Bool) (pre : List Yi), k ≤ N ∧ t = .int .i64 (k : Int) ∧ s.length = 256 ∧ Blk wr S (bcs s) 62 ∧ I pre wr ∧ R wr ∧ pre ++ eachI s (l.drop k) = eachI seen0 l) (fun t _ => N - (intOf t).toNat)
  case atStart => exact ⟨0, seen0, [], by omega, rfl, by simp [seen0], HS1.out, HI1.out, HR1.out, by simp⟩
  case round =>
    clear HS1 HI1 HR1
    obtain ⟨k, s, pre, hk, rfl, hsl, hbS, hI, hRr, hev⟩ := hrel
    have HSL := Lib.hid hsl; have HBS := Lib.hid hbS; have HI := Lib.hid hI; have HRr := Lib.hid hRr; have HEV := Lib.hid hev
    clear hsl hbS hRr hev
    have wk1 := IntWalk.i64_in ((k : Int) + 1) (by have := HNB.out; omega)
    refine wpIn_wide.2 ?_
    by_cases hlt : k < N
    · have hd := HH.out _ _ hI
      obtain ⟨o, ho⟩ : ∃ o, l[k]? = some o := ⟨_, List.getElem?_eq_getElem (by have := HN.out; omega)⟩
      obtain ⟨g, off, rfl, hg, hr⟩ := hd.r (by have := HN.out; omega)
      have HRX := Lib.hid (hr k o ho)
      have HOK := Lib.hid (hd.k o (List.mem_of_getElem? ho))
      have HOM := Lib.hid (List.mem_of_getElem? ho)
      have HKC : Hid (k < N ∧ N ≤ cap) := Lib.hid ⟨hlt, by have := HL.out; rw [HN.out] at this; exact this⟩
      have HDR : Hid (l.drop k = o :: l.drop (k + 1)) := Lib.hid (by
        obtain ⟨h1, h2⟩ := List.getElem?_eq_some_iff.1 ho
        rw [List.drop_eq_getElem_cons h1, h2])
      have HSW : Hid (nS ≤ wr.heap.size) := Lib.hid (HZ.out _ _ hI)
      clear hd ho hg hr hI
      go_upto_region 4 with (first | (refine c_val rfl (ex_iaO rfl rfl rfl HKC.out) ?_) | (refine c_val rfl (ex_ldO HRX.out rfl rfl) ?_) | fail)
      refine (fun (k' : ∀ X, Blk X wr.heap.size (ocells o) 48 → Below wr.heap.size wr X → Code.wp _ _ _ _ X) => k' _ (Blk.new' _ _ _ _ _ rfl rfl) ((Below.refl _ _).alloc (Nat.le_refl _) _)) ?_
      intro X4 hb4 hl4
      have HBS4 := Lib.hid (HBS.out.below hl4 HBS.out.lt)
      have HI4 := Lib.hid (HIB.out _ _ _ HI.out (hl4.mono HSW.out))
      have HR4 := Lib.hid (HR.out _ _ HRr.out (KeepsFrom.of_below hl4))
      have HOK4 := Lib.hid (HOK.out.grown hl4)
      obtain ⟨gO, hgO⟩ : ∃ x, wr.heap.size = x := ⟨_, rfl⟩
      rw [hgO] at hb4 HSW ⊢
      have HB4 := Lib.hid hb4
      have p0 := hb4.cell (j := 0) rfl
      have p1 := hb4.cell (j := 1) rfl
      have p2 := hb4.cell (j := 2) rfl
      clear hb4 hl4 HBS HI HRr HOK HRX hgO
      obtain ⟨num, hnum⟩ : ∃ x, o.num = x := ⟨_, rfl⟩
      obtain ⟨kd, hkd⟩ : ∃ x, o.kind = x := ⟨_, rfl⟩
      rw [hnum] at p0
      rw [hkd] at p1
      have hnumb := HOK4.out.n
      rw [hnum] at hnumb
      have HNUM := Lib.hid hnum; have HKD := Lib.hid hkd; have HNU := Lib.hid hnumb
      have skip : okO o.ob s = false → pre ++ eachI s (l.drop (k + 1)) = eachI seen0 l := fun h => by
        rw [← HEV.out, HDR.out]
        show _ = pre ++ (if okO o.ob s = true then _ else _)
        rw [if_neg (by rw [h]; simp)]
      have hok : okO o.ob s = (decide (1 ≤ num) && decide (num ≤ 255) && decide (leafG kd ≠ 0) && !(s.getD num false)) := by unfold okO Oi.ob; simp only; rw [HNUM.out, HKD.out]
      clear hnum hkd hnumb
      by_cases c1 : num < 1
      · have z1 : (num : Int) < 1 := by omega
        have HSK := Lib.hid (skip (by rw [hok, decide_eq_false (by omega : ¬ 1 ≤ num)]; rfl))
        clear skip hok c1
        go_wp2_with fail
        go_roundw
        case rel => exact ⟨k + 1, s, pre, by omega, by go_num, HSL.out, HBS4.out, HI4.out, HR4.out, HSK.out⟩
        case measure => simp [intOf]; omega
      have z1 : ¬ (num : Int) < 1 := by omega
      by_cases c2 : 255 < num
      · have z2 : (255 : Int) < (num : Int) := by omega
        have HSK := Lib.hid (skip (by rw [hok, decide_eq_false (by omega : ¬ num ≤ 255)]; simp))
        clear skip hok c1 c2
        go_wp2_with fail
        go_roundw
        case rel => exact ⟨k + 1, s, pre, by omega, by go_num, HSL.out, HBS4.out, HI4.out, HR4.out, HSK.out⟩
        case measure => simp [intOf]; omega
      have z2 : ¬ (255 : Int) < (num : Int) := by omega
      obtain ⟨lf, hlf⟩ : ∃ x, leafG kd = x := ⟨_, rfl⟩
      have HLF := Lib.hid (leafG_any kd)
      rw [hlf] at HLF hok
      by_cases c3 : lf = 0
      · subst c3
        have HSK := Lib.hid (skip (by rw [hok]; simp))
        clear skip hok c1 c2 hlf
        go_wp2_with fail
        refine (HLF.out _).mono ?_
        rintro e X5 ⟨rfl, rfl⟩
        go_wp2_with fail
        go_roundw
        case rel => exact ⟨k + 1, s, pre, by omega, by go_num, HSL.out, HBS4.out, HI4.out, HR4.out, HSK.out⟩
        case measure => simp [intOf]; omega
      have z3 : ¬ (lf : Int) = 0 := by omega
      have j1 : (num : Int) < 256 := by omega
      have j2 : num < 256 := by omega
      obtain ⟨b, hb⟩ : ∃ x, s.getD num false = x := ⟨_, rfl⟩
      have q1 : X4.cell? ⟨S, num, none⟩ = some (.bool b) := by
        refine HBS4.out.cell ?_
        have := bcs_get (l := s) (j := num) (by rw [HSL.out]; exact j2)
        rw [hb] at this
        simpa using this
      rw [hb] at hok
      cases b
      case true =>
        have HSK := Lib.hid (skip (by rw [hok]; simp))
        clear skip hok c1 c2 c3 hlf hb
        go_wp2_with fail
        refine (HLF.out _).mono ?_
        rintro e X5 ⟨rfl, rfl⟩
        go_wp2_with fail
        go_roundw
        case rel => exact ⟨k + 1, s, pre, by omega, by go_num, HSL.out, HBS4.out, HI4.out, HR4.out, HSK.out⟩
        case measure => simp [intOf]; omega
      case false =>
        have HGO : Hid (pre ++ (o, ownT o.offs) :: eachI (s.set num true) (l.drop (k + 1)) = eachI seen0 l) := Lib.hid (by
          rw [← HEV.out, HDR.out]
          show _ = pre ++ (if okO o.ob s = true then _ else _)
          rw [if_pos (by rw [hok]; simp; omega), HNUM.out])
        clear skip hok c1 c2 c3 hlf hb
        have q2 := HBS4.out.free num
        go_wp2_with fail
        refine (HLF.out _).mono ?_
        rintro e X5 ⟨rfl, rfl⟩
        go_upto_region 6 with fail
        have hc5 := chg1 X5 S num (.bool true)
        refine (fun (k' : ∀ X, Blk X S (bcs (s.set num true)) 62 → Chg (fun k => k = S) X5 X → Code.wp _ _ _ _ X) => k' _ (by
          have := HBS4.out.set num (.bool true)
          unfold bcs
          rw [List.map_set]
          exact this) hc5) ?_
        clear hc5
        intro X6 hs6 hc6
        have HSo : Hid (¬ gO = S) := Lib.hid (HB4.out.not HBS4.out (by decide))
        have HB6 := Lib.hid (HB4.out.chg hc6 HSo.out)
        have HI6 := Lib.hid (HIB.out _ _ _ HI4.out (hc6.below (fun k e => by have := HSn.out; omega) (HZ.out _ _ HI4.out)))
        have HR6 := Lib.hid (HR.out _ _ HR4.out (KeepsFrom.cellW HBS4.out hc6))
        have HS6 := Lib.hid hs6
        have HSL6 : Hid ((s.set num true).length = 256) := Lib.hid (by rw [List.length_set]; exact HSL.out)
        obtain ⟨s2, hs2⟩ : ∃ x, s.set num true = x := ⟨_, rfl⟩
        rw [hs2] at HS6 HSL6 HGO
        clear hs6 hc6 p0 p1 p2 q1 q2 HB4 HBS4 HI4 HR4 z1 z2 z3 j1 j2 HLF HSL hs2
        have hbT : Below X6.heap.size X6 (X6.alloc (.cells (bcs zeroT).toArray 51)) := (Below.refl _ _).alloc (Nat.le_refl _) _
        have HT0 : Hid (Blk (X6.alloc (.cells (bcs zeroT).toArray 51)) X6.heap.size (bcs zeroT) 51 ∧ Blk (X6.alloc (.cells (bcs zeroT).toArray 51)) gO (ocells o) 48 ∧ Blk (X6.alloc (.cells (bcs zeroT).toArray 51)) S (bcs s2) 62 ∧ I pre (X6.alloc (.cells (bcs zeroT).toArray 51)) ∧ R (X6.alloc (.cells (bcs zeroT).toArray 51)) ∧ nS ≤ X6.heap.size) :=
          Lib.hid ⟨Blk.new' _ _ _ _ _ rfl rfl, HB6.out.below hbT HB6.out.lt, HS6.out.below hbT HS6.out.lt, HIB.out _ _ _ HI6.out (hbT.mono (HZ.out _ _ HI6.out)), HR.out _ _ HR6.out (KeepsFrom.of_below hbT), HZ.out _ _ HI6.out⟩
        clear hbT
        go_upto_region 7 with (first | (refine c_val rfl (ex_al zeroTr rfl) ?_) | fail)
        refine (fun (k' : ∀ X, Blk X X6.heap.size (bcs zeroT) 51 → Blk X gO (ocells o) 48 → Blk X S (bcs s2) 62 → I pre X → R X → Code.wp _ _ _ _ X) => k' _ HT0.out.1 HT0.out.2.1 HT0.out.2.2.1 HT0.out.2.2.2.1 HT0.out.2.2.2.2.1) ?_
        intro X7 hT7 hO7 hS7 hI7 hR7
        obtain ⟨T, hT⟩ : ∃ x, X6.heap.size = x := ⟨_, rfl⟩
        have HTn : Hid (nS ≤ T) := Lib.hid (by have := HT0.out.2.2.2.2.2; omega)
        rw [hT] at hT7 ⊢
        have HT7 := Lib.hid hT7; have HO7 := Lib.hid hO7; have HS7 := Lib.hid hS7; have HI7 := Lib.hid hI7; have HR7 := Lib.hid hR7
        have HTS : Hid (¬ S = T ∧ ¬ gO = T) := Lib.hid ⟨hS7.not hT7 (by decide), hO7.not hT7 (by decide)⟩
        have p2 := hO7.cell (j := 2) rfl
        obtain ⟨M, hM⟩ : ∃ x, o.offs.length = x := ⟨_, rfl⟩
        rw [hM] at p2
        have HM := Lib.hid hM
        have HMB : Hid (M < 1000000) := Lib.hid (by have := HOL.out o HOM.out; omega)
        clear hT7 hO7 hS7 hI7 hR7 hT HT0 HB6 HI6 HR6 HS6 hM
        go_wp2_with fail
        clear p2
        go_loopw [41] (fun t wr2 => ∃ j : Nat, j ≤ M ∧ t = .int .i64 (j : Int) ∧ Blk wr2 T (bcs (ownT (o.offs.take j))) 51 ∧ Blk wr2 gO (ocells o) 48 ∧ Blk wr2 S (bcs s2) 62 ∧ I pre wr2 ∧ R wr2) (fun t _ => M - (intOf t).toNat)
        case atStart => exact ⟨0, by omega, rfl, HT7.out, HO7.out, HS7.out, HI7.out, HR7.out⟩
        case round =>
          clear HT7 HO7 HS7 HI7 HR7
          obtain ⟨j, hj, rfl, hT, hO, hS, hI, hR⟩ := hrel
          have HT := Lib.hid hT; have HO := Lib.hid hO; have HS := Lib.hid hS; have HI := Lib.hid hI; have HRn := Lib.hid hR
          have wj := IntWalk.i64_in ((j : Int) + 1) (by have := HMB.out; omega)
          clear hT hO hS hR
          by_cases hjl : j < M
          · have hok := (HH.out _ _ hI).k o HOM.out
            obtain ⟨x, hx⟩ : ∃ x, o.offs[j]? = some x := ⟨_, List.getElem?_eq_getElem (by have := HM.out; omega)⟩
            obtain ⟨g2, o2, hsp, hg2, hr2⟩ := hok.s (by have := HM.out; omega)
            have HC2 := Lib.hid (hr2 j x hx)
            have HKC2 : Hid (j < M ∧ M ≤ o.cap) := Lib.hid ⟨hjl, by have := hok.c; have := HM.out; omega⟩
            have HMK := Lib.hid (mark_any (ownT (o.offs.take j)) (ownT_length _) x (hok.x x (List.mem_of_getElem? hx)) T _ HT.out)
            have HSN := Lib.hid (own_snoc hx)
            rw [hsp]
            clear hok hx hsp hg2 hr2 hI
            go_wp2_with (first | (refine c_val rfl (ex_iaOf rfl rfl rfl HKC2.out) ?_) | (refine c_val rfl (ex_ld32 rfl rfl HC2.out) ?_) | fail)
            refine HMK.out.mono ?_
            rintro e X8 ⟨rfl, hb8, hc8⟩
            rw [← HSN.out] at hb8
            have HT8 := Lib.hid hb8
            have HO8 := Lib.hid (HO.out.chg hc8 HTS.out.2)
            have HS8 := Lib.hid (HS.out.chg hc8 HTS.out.1)
            have HI8 := Lib.hid (HIB.out _ _ _ HI.out (hc8.below (fun k e => by have := HTn.out; omega) (HZ.out _ _ HI.out)))
            have HR8 := Lib.hid (HR.out _ _ HRn.out (KeepsFrom.cellW HT.out hc8))
            clear hb8 hc8 HT HO HS HI HRn HMK
            go_wp2_with fail
            go_roundw
            case rel => exact ⟨j + 1, by omega, by go_num, HT8.out, HO8.out, HS8.out, HI8.out, HR8.out⟩
            case measure => simp [intOf]; omega
          · obtain rfl : M = j := by omega
            have HTT : Hid (Blk wr T (bcs (ownT o.offs)) 51) := Lib.hid (by
              have := HT.out
              rw [← HM.out, List.take_length] at this
              exact this)
            clear hjl hj wj HT
            go_upto_region 12 with fail
            refine (wpIn_wide (n := n)).1 ?_
            obtain ⟨fn, tmps, assign, body, hy, hRd⟩ := HY.out pre (o, ownT o.offs) wr ⟨HI.out, _, HGO.out.symm⟩ HRn.out
            have hy : (Instr.yield lb #[.agg (ocells o).toArray, .agg (bcs (ownT o.offs)).toArray]).run Try.prog wr = _ := hy
            gi_wp2_with (first | (refine c_valIn rfl rfl (ex_ldO (c_rng HO.out) rfl rfl) ?_) | (refine c_valIn rfl rfl (c_ldTr (ownT_length _) HTT.out rfl rfl) ?_) | fail)
            refine hRd.mono ?_
            rintro e W3 (⟨rfl, hI3, hR3, hK3⟩ | ⟨rfl, hJx3⟩)
            · have HS3 := Lib.hid (hK3.blk HSn.out HS.out)
              have HI3 := Lib.hid hI3; have HR3 := Lib.hid hR3
              have HE3 : Hid (pre ++ [(o, ownT o.offs)] ++ eachI s2 (l.drop (k + 1)) = eachI seen0 l) := Lib.hid (by rw [List.append_assoc]; exact HGO.out)
              clear hI3 hR3 hK3 HS HI HRn HO HTT
              gi_wp2_with (first | (refine (wpIn_wide (n := n)).1 ?_) | fail)
              go_roundw
              case rel => exact ⟨k + 1, s2, _, by omega, by go_num, HSL6.out, HS3.out, HI3.out, HR3.out, HE3.out⟩
              case measure => simp [intOf]; omega
            · gi_wp2_with (first | (refine (wpIn_wide (n := n)).1 ?_) | fail)
              refine bodyPost_ret (results_none rfl _ _ _) rfl ?_
              exact ⟨⟨_, rfl⟩, .inr ⟨_, trivial, hJx3⟩⟩
    · obtain rfl : k = N := by omega
      have hend : pre = eachI seen0 l := by
        have h := HEV.out
        rw [List.drop_of_length_le (by rw [HN.out]; exact Nat.le_refl _)] at h
        simpa [eachI] using h
      have HEN := Lib.hid hend; have HEI := Lib.hid hI
      clear hlt hk wk1 hend hI
      go_wp2_with fail
      go_end0
      exact ⟨⟨_, rfl⟩, .inl ⟨pre, HEN.out, HEI.out, HRr.out⟩⟩
end Go.Proofs.Ytoceedfjfjobdaa
