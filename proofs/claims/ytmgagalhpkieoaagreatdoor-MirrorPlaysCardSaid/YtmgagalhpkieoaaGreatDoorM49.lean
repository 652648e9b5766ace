/- Both mirrors are the same. -/
import Derived.Test.YtmgagalhpkieoaaGreatDoorM45
import Derived.Test.YtmgagalhpkieoaaGreatDoorM35
import Derived.Test.YtmgagalhpkieoaaGreatDoorM46
namespace Go.Proofs.YtmgagalhpkieoaaGreatDoor
open Go.RowKit

section
variable {ρ : Operand → Value} {o : Oper} {x y : Operand} {w : World}
theorem w_neStr {l : d_Bs} (ho : o.op = .binOp .neq 9 x y 9) (hx : ρ x = .string (bstr l)) (hy : ρ y = .string (bstr l)) : (execOp ρ o).run Tryz.prog w = .ok (.value (.bool false)) w := by
  unfold execOp
  simp only [ho, hx, hy]
  generalize bstr l = t
  go_simp
theorem w_neP {p : Pt} (hp : p.OK) (ho : o.op = .binOp .neq 58 x y 58) (hx : ρ x = .agg (pcells p).toArray) (hy : ρ y = .agg (pcells p).toArray) : (execOp ρ o).run Tryz.prog w = .ok (.value (.bool false)) w := by
  have h := ex_neP (w := w) ho hx hy hp hp
  rw [eqP_same] at h
  exact h
theorem w_neB {b : Bool} (ho : o.op = .binOp .neq 4 x y 4) (hx : ρ x = .bool b) (hy : ρ y = .bool b) : (execOp ρ o).run Tryz.prog w = .ok (.value (.bool false)) w := by
  unfold execOp
  simp only [ho, hx, hy]
  cases b <;> go_simp
theorem w_neI {a : Int} {k : IntKind} {ty : TypeId} (hu : Tryz.prog.underlying ty = some (.int k)) (ho : o.op = .binOp .neq ty x y ty) (hx : ρ x = .int k a) (hy : ρ y = .int k a) : (execOp ρ o).run Tryz.prog w = .ok (.value (.bool false)) w := by
  have h := ex_nei (w := w) hu ho hx hy
  simpa using h
theorem w_neCn {f g : Int} (ho : o.op = .binOp .neq 96 x y 96) (hx : ρ x = .agg #[.int .i64 f, .int .i64 g]) (hy : ρ y = .agg #[.int .i64 f, .int .i64 g]) : (execOp ρ o).run Tryz.prog w = .ok (.value (.bool false)) w := by
  unfold execOp
  simp only [ho, hx, hy]
  go_simp
theorem w_bldCn {f g : Int} (ho : o.op = .build 96 #[(0, x), (1, y)]) (hx : ρ x = .int .i64 f) (hy : ρ y = .int .i64 g) : (execOp ρ o).run Tryz.prog w = .ok (.value (.agg #[.int .i64 f, .int .i64 g])) w := by
  unfold execOp
  simp only [ho]
  go_simp
end
theorem SrcU.below {w w' : World} {sp : Option Addr} {l : List Nat} (h : SrcU w sp l) (hb : Below w.heap.size w w') : SrcU w' sp l := fun h0 => by
  obtain ⟨g, e, hc⟩ := h h0
  exact ⟨g, e, fun j a hj => (hb.cell (p := ⟨g, j, none⟩) (World.block_lt_of_cell? w ⟨g, j, none⟩ (hc j a hj))).trans (hc j a hj)⟩
theorem count_any8 {k : Nat} (hk : k < 2) (w : World) (lab : Nat → Nat) (P : Pl) (x : Mi Dsk Sp) (h : MiAt w lab P x) : Calls Tryz.prog 35 #[.pointer (some ⟨P.M, 0, none⟩), .int .i64 (k : Int)] w fun e w' => e = .returned (.agg #[.int .i64 (x.f k : Nat), .int .i64 (x.g k : Nat)]) ∧ Below w.heap.size w w' := by
  obtain rfl | rfl : k = 0 ∨ k = 1 := by omega
  · exact count0_any8 w lab P x h
  · exact count1_any8 w lab P x h
theorem health_any8 {k : Nat} (hk : k < 2) (w : World) (lab : Nat → Nat) (P : Pl) (x : Mi Dsk Sp) (h : MiAt w lab P x) : Calls Tryz.prog 36 #[.pointer (some ⟨P.M, 0, none⟩), .int .i64 (k : Int)] w fun e w' => e = .returned (.int .u8 (healthN x k : Nat)) ∧ w = w' := by
  obtain rfl | rfl : k = 0 ∨ k = 1 := by omega
  · exact health0_any8 w lab P x h
  · exact health1_any8 w lab P x h
theorem told_src {w0 w : World} {v : Value} {t : Option d_Bs} (h : ToldB w0 w v t) : ∃ sp n c, v = .slice sp n c ∧ (t.getD []).length = n ∧ SrcA w sp (t.getD []) := by
  cases t with
  | none =>
    obtain rfl := h
    exact ⟨none, 0, 0, rfl, rfl, fun h0 => absurd h0 (by simp)⟩
  | some b =>
    obtain ⟨g, e, hl, hsrc⟩ := q_told_src h
    exact ⟨_, _, _, e, hl, hsrc⟩
structure SaW (w0 W : World) (lp lw : Nat → Nat) (Xp : Nat) (P : Pl) (x : Mi Dsk Sp) (V : Rl) (y : Wi) (Z : World) : Prop where
  b : Bo w0 Z lp lw Xp P x V y
  bel : Below W.heap.size W Z
section
variable {w0 W Z Z' : World} {lp lw : Nat → Nat} {Xp : Nat} {P : Pl} {x : Mi Dsk Sp} {V : Rl} {y : Wi}
theorem SaW.below (h : SaW w0 W lp lw Xp P x V y Z) (hb : Below Z.heap.size Z Z') : SaW w0 W lp lw Xp P x V y Z' := ⟨h.b.below hb, h.bel.trans (hb.mono h.bel.size)⟩
theorem SaW.drew (h : SaW w0 W lp lw Xp P x V y Z) : SaW w0 W lp lw Xp P x V y Z.drew := h.below (Below.refl _ _).drew
end
structure SaL (w0 W : World) (lp lw : Nat → Nat) (Xp : Nat) (P : Pl) (x : Mi Dsk Sp) (V : Rl) (y : Wi) (u v : Value) (l : List Pt) (Z : World) : Prop where
  s : SaW w0 W lp lw Xp P x V y Z
  c8 : Z.cell? ⟨V.M, 8, none⟩ = some v
  su : SrcM Z u l
  sv : SrcM Z v l
theorem SaL.below {w0 W Z Z' : World} {lp lw : Nat → Nat} {Xp : Nat} {P : Pl} {x : Mi Dsk Sp} {V : Rl} {y : Wi} {u v : Value} {l : List Pt} (h : SaL w0 W lp lw Xp P x V y u v l Z) (hb : Below Z.heap.size Z Z') : SaL w0 W lp lw Xp P x V y u v l Z' := ⟨h.s.below hb, (hb.cell (p := ⟨V.M, 8, none⟩) h.s.b.m.ms).trans h.c8, h.su.grown hb, h.sv.grown hb⟩
theorem SaL.drew {w0 W Z : World} {lp lw : Nat → Nat} {Xp : Nat} {P : Pl} {x : Mi Dsk Sp} {V : Rl} {y : Wi} {u v : Value} {l : List Pt} (h : SaL w0 W lp lw Xp P x V y u v l Z) : SaL w0 W lp lw Xp P x V y u v l Z.drew := h.below (Below.refl _ _).drew
theorem SrcM.at {Z : World} {sp : Option Addr} {g N cap k : Nat} {l : List Pt} {q : Pt} (h : SrcM Z (.slice (some ⟨g, 0, none⟩) N cap) l) (hq : l[k]? = some q) : Z.rangeAt g (k * 41) (pcells q) := by
  obtain ⟨sp', cap', e, _, _, _, h3⟩ := h
  obtain ⟨g', e2, _, h4⟩ := h3 (by have := (List.getElem?_eq_some_iff.1 hq).1; omega)
  injection e with e3 _ _
  rw [e2] at e3
  injection e3 with e4
  injection e4 with e5 _ _
  rw [e5]
  exact h4 k q hq
set_option maxRecDepth 100000 in
set_option maxHeartbeats 16000000 in
theorem msame_any (w0 W : World) (lp lw : Nat → Nat) (Xp : Nat) (P : Pl) (x : Mi Dsk Sp) (V : Rl) (y : Wi) (n m : Nat) (h : Bo w0 W lp lw Xp P x V y) (hs : MSim Sim SpT x y) (hl : Lim x n) (hn : n < 500000) (hb : Bw y m) (hm : m < 890) :
    Calls Tryz.prog 18 #[.pointer (some ⟨Xp, 0, none⟩), .pointer (some ⟨V.M, 0, none⟩)] W fun e w' => e = .returned (.bool true) ∧ Below W.heap.size W w' := by
  have HL := Lib.hid hl; have HN := Lib.hid hn; have HBW := Lib.hid hb; have HM := Lib.hid hm; have HSI := Lib.hid hs
  have HS : Hid (SaW w0 W lp lw Xp P x V y W) := Lib.hid ⟨h, Below.refl _ _⟩
  have HMV := Lib.hid (moves_any8 W lp P x h.s.mi (by have := hl.mv; omega))
  have HOK : Hid (∀ q ∈ y.mv, q.OK) := Lib.hid h.m.ok
  have c4 := h.s.cm
  obtain ⟨v, hbv, hmv, _⟩ := h.m.mi
  have hc8 : W.cell? ⟨V.M, 8, none⟩ = some v := hbv.cell rfl
  have hsv : SrcM W v y.mv := OwnM.src hmv h.m.ok
  obtain ⟨mv, hmq⟩ : ∃ mv, y.mv = mv := ⟨_, rfl⟩
  have hmx : x.mv = mv := by rw [hs.mv, hmq]
  rw [hmq] at hsv HOK
  rw [hmx] at HMV
  have HC8 := Lib.hid hc8; have HSV := Lib.hid hsv
  have hmvl : mv.length < 1000 := by rw [← hmq]; have := hb.mv; omega
  obtain ⟨N, hN⟩ : ∃ N, mv.length = N := ⟨_, rfl⟩
  have HNN := Lib.hid hN
  rw [hN] at hmvl
  obtain ⟨sp, cap, ev, hcap, -, -, hsp⟩ := hsv
  rw [hN] at ev hcap hsp
  subst ev
  have HSP := Lib.hid hsp; have HCP := Lib.hid hcap; have HMVL := Lib.hid hmvl
  clear h hs hl hn hb hm hbv hmv hc8 hmq hmx hmvl hN hcap hsp
  go_enter Tryz.func18, Tryz.ntmps18
  go_wp2_with (first | (refine wpL_val rfl (q_ldM rfl rfl c4) ?_) | fail)
  refine HMV.out.mono ?_
  rintro e W1 ⟨u, rfl, ho1, hb1⟩
  have hsu := OwnM.src ho1 HOK.out
  have HL1 : Hid (SaL w0 W lp lw Xp P x V y u (.slice sp N cap) mv W1) := Lib.hid ⟨HS.out.below hb1, (hb1.cell (p := ⟨V.M, 8, none⟩) HS.out.b.m.ms).trans HC8.out, hsu, HSV.out.grown hb1⟩
  obtain ⟨su, capu, eu, hcu, -, -, hspu⟩ := hsu
  rw [HNN.out] at eu hcu hspu
  subst eu
  have HSU := Lib.hid hspu; have HCU := Lib.hid hcu
  have c8 := HL1.out.c8
  clear ho1 hb1 hcu hspu HMV c4 HS HC8 HSV
  have qn : ((N : Int) != (N : Int)) = false := by simp
  go_upto_region 5 with (first | (refine wpL_val rfl (q_ldS rfl rfl c8) ?_) | fail)
  go_loopw [6] (fun i wr => ∃ k : Nat, k ≤ N ∧ i = .int .i64 (k : Int) ∧ SaL w0 W lp lw Xp P x V y (.slice su N capu) (.slice sp N cap) mv wr) (fun i _ => N - (intOf i).toNat)
  case atStart => exact ⟨0, by omega, rfl, HL1.out⟩
  case round =>
    clear HL1 qn c8
    obtain ⟨k, hk, rfl, hl1⟩ := hrel
    have HLL := Lib.hid hl1
    clear hl1
    have wk1 := IntWalk.i64_in ((k : Int) + 1) (by have := HMVL.out; omega)
    by_cases hlt : k < N
    · obtain ⟨q, hq⟩ : ∃ q, mv[k]? = some q := ⟨_, List.getElem?_eq_getElem (by have := HNN.out; omega)⟩
      obtain ⟨g, rfl⟩ : ∃ g, sp = some ⟨g, 0, none⟩ := by obtain ⟨g, e, _⟩ := HSP.out (by omega); exact ⟨g, e⟩
      obtain ⟨gu, rfl⟩ : ∃ g, su = some ⟨g, 0, none⟩ := by obtain ⟨g, e, _⟩ := HSU.out (by omega); exact ⟨g, e⟩
      have HQ : Hid q.OK := Lib.hid (HOK.out q (List.mem_of_getElem? hq))
      have HQK := Lib.hid hq
      have HLQ := Lib.hid (pcells_length HQ.out)
      have HK1 : Hid (k < N ∧ N ≤ cap) := Lib.hid ⟨hlt, HCP.out⟩
      have HK2 : Hid (k < N ∧ N ≤ capu) := Lib.hid ⟨hlt, HCU.out⟩
      clear hq
      go_upto_region 7 with fail
      refine gS (.take 0 (.take 1 (.take 2 (.take 3 (.take 4 (.take 5 (.take 6 (.take 7 (.take 8 (.take 9 (.take 10 (.take 11 (.nil))))))))))))) (SaL w0 W lp lw Xp P x V y (.slice (some ⟨gu, 0, none⟩) N capu) (.slice (some ⟨g, 0, none⟩) N cap) mv) HLL.out.drew ?_
      refine gT (.slice (some ⟨gu, 0, none⟩) N capu) ?_; try simp only [pS]
      refine gT (.int .i64 (k : Int)) ?_; try simp only [pS]
      refine wpG_take _ (.pointer (some ⟨gu, k * 41, none⟩)) rfl (by rfl) (fun X hX => q_iaP rfl rfl rfl HK2.out) ?_; try simp only [pS]
      refine wpG_take _ (.agg (pcells q).toArray) rfl (by rfl) (fun X hX => ex_ld (ty := 58) (cs := pcells q) rfl rfl (SrcM.at (sp := none) hX.su HQK.out) Tryz.underlying58 rfl (by rw [sizeP, HLQ.out])) ?_; try simp only [pS]
      refine gT (.pointer (some ⟨V.M, 0, none⟩)) ?_; try simp only [pS]
      refine gT (.pointer (some ⟨V.M, 0, none⟩)) ?_; try simp only [pS]
      refine gT (.pointer (some ⟨V.M, 8, none⟩)) ?_; try simp only [pS]
      refine wpG_take _ (.slice (some ⟨g, 0, none⟩) N cap) rfl (by rfl) (fun X hX => q_ldS rfl rfl hX.c8) ?_; try simp only [pS]
      refine gT (.int .i64 (k : Int)) ?_; try simp only [pS]
      refine wpG_take _ (.pointer (some ⟨g, k * 41, none⟩)) rfl (by rfl) (fun X hX => q_iaP rfl rfl rfl HK1.out) ?_; try simp only [pS]
      refine wpG_take _ (.agg (pcells q).toArray) rfl (by rfl) (fun X hX => ex_ld (ty := 58) (cs := pcells q) rfl rfl (SrcM.at (sp := none) hX.sv HQK.out) Tryz.underlying58 rfl (by rw [sizeP, HLQ.out])) ?_; try simp only [pS]
      refine wpG_take _ (.bool false) rfl (by rfl) (fun X hX => w_neP HQ.out rfl rfl rfl) ?_; try simp only [pS]
      refine wpG_nil ?_
      have HLD := Lib.hid HLL.out.drew
      clear HLL HK1 HK2
      go_wp2_with fail
      go_roundw
      case rel => exact ⟨k + 1, by omega, by go_num, HLD.out⟩
      case measure => simp [intOf]; omega
    · have HS2 : Hid (SaW w0 W lp lw Xp P x V y wr) := Lib.hid HLL.out.s
      obtain rfl : k = N := by omega
      clear HLL hlt hk wk1
      go_upto_region 10 with fail
      go_loopw [7] (fun i wr => ∃ z : Nat, z ≤ 2 ∧ i = .int .i64 (z : Int) ∧ SaW w0 W lp lw Xp P x V y wr) (fun i _ => 2 - (intOf i).toNat)
      case atStart => exact ⟨0, by omega, rfl, HS2.out⟩
      case round =>
        clear HS2
        obtain ⟨z, hz, rfl, hs2⟩ := hrel
        have HW := Lib.hid hs2
        clear hs2
        have wz1 := IntWalk.i64_in ((z : Int) + 1) (by omega)
        by_cases hz2 : z < 2
        · have HZ := Lib.hid hz2
          have h0z : (0 : Int) ≤ (z : Int) := by omega
          have h2z : (z : Int) < 2 := by omega
          have cdz := HW.out.b.m.cell.1 z hz2
          have cfz := HW.out.b.m.cell.2.2.1 z hz2
          obtain ⟨dd, hdd⟩ : ∃ dd, (y.d z).dead = dd := ⟨_, rfl⟩
          have cdd : wr.cell? ⟨V.D z, 6, none⟩ = some (.bool dd) := by
            obtain ⟨_, _, _, _, _, hin⟩ := HW.out.b.m.dk z hz2
            rw [← hdd]
            exact hin.c.2.2.2.2.2.2.1
          have hcf : x.f z = y.f z ∧ x.g z = y.g z := ⟨by rw [HSI.out.f], by rw [HSI.out.g]⟩
          have hhe : healthN x z = if dd then 2 else if 0 < y.f z then 1 else 0 := by
            unfold healthN
            have := (HSI.out.d z hz2).dead
            rw [← this, hdd, hcf.1]
          have HCN := Lib.hid (count_any8 hz2 wr.drew lp P x HW.out.drew.b.s.mi)
          have HHE := Lib.hid (fun X (hX : SaW w0 W lp lw Xp P x V y X) => health_any8 hz2 X lp P x hX.b.s.mi)
          rw [hcf.1, hcf.2] at HCN
          rw [hhe] at HHE
          have HFL : Hid (y.f z < 1000) := Lib.hid (by have := HBW.out.f z; have := HM.out; omega)
          obtain ⟨F, hF⟩ : ∃ F, y.f z = F := ⟨_, rfl⟩
          obtain ⟨G, hG⟩ : ∃ G, y.g z = G := ⟨_, rfl⟩
          rw [hF] at cfz HCN HHE HFL
          rw [hG] at HCN
          have HMF : Hid (∀ X, SaW w0 W lp lw Xp P x V y X → X.cell? ⟨V.M, 4 + z, none⟩ = some (.int .i64 (F : Int)) ∧ X.cell? ⟨V.M, 6 + z, none⟩ = some (.int .i64 (G : Int))) := Lib.hid (fun X hX => ⟨by rw [← hF]; exact hX.b.m.cell.2.2.1 z HZ.out, by rw [← hG]; exact hX.b.m.cell.2.2.2 z HZ.out⟩)
          clear hdd hcf hhe hF hG hz2
          cases dd with
          | true =>
            go_upto_region 17 with (first | (refine wpL_val rfl (w_ldP Tryz.underlying38 rfl rfl cdz) ?_) | (refine wpL_val rfl (w_ldB rfl rfl cdd) ?_) | fail)
            refine gS (.take 0 (.take 1 (.take 2 (.take 3 (.take 4 (.take 6 (.take 7 (.take 8 (.take 9 (.take 10 (.take 11 (.take 12 (.take 13 (.take 14 (.take 15 (.take 16 (.take 17 (.take 18 (.step 5 (.take 19 (.take 20 (.take 21 (.take 22 (.take 23 (.take 24 (.take 25 (.take 27 (.step 26 (.take 28 (.take 29 (.nil))))))))))))))))))))))))))))))) (SaW w0 W lp lw Xp P x V y) HW.out.drew ?_
            refine gT (.pointer (some ⟨Xp, 0, none⟩)) ?_; try simp only [pS]
            refine gT (.pointer (some ⟨Xp, 0, none⟩)) ?_; try simp only [pS]
            refine gT (.pointer (some ⟨Xp, 4, none⟩)) ?_; try simp only [pS]
            refine wpG_take _ (.pointer (some ⟨P.M, 0, none⟩)) rfl (by rfl) (fun X hX => q_ldM rfl rfl hX.b.s.cm) ?_; try simp only [pS]
            refine gT (.int .i64 (z : Int)) ?_; try simp only [pS]
            refine gT (.pointer (some ⟨V.M, 0, none⟩)) ?_; try simp only [pS]
            refine gT (.int .i64 (z : Int)) ?_; try simp only [pS]
            refine gT (.pointer (some ⟨V.M, 0, none⟩)) ?_; try simp only [pS]
            refine gT (.pointer (some ⟨V.M, 4, none⟩)) ?_; try simp only [pS]
            refine gT (.pointer (some ⟨V.M, 4 + z, none⟩)) ?_; try simp only [pS]
            refine wpG_take _ (.int .i64 (F : Int)) rfl (by rfl) (fun X hX => q_ldI rfl rfl (HMF.out X hX).1) ?_; try simp only [pS]
            refine gT (.pointer (some ⟨V.M, 0, none⟩)) ?_; try simp only [pS]
            refine gT (.int .i64 (z : Int)) ?_; try simp only [pS]
            refine gT (.pointer (some ⟨V.M, 0, none⟩)) ?_; try simp only [pS]
            refine gT (.pointer (some ⟨V.M, 6, none⟩)) ?_; try simp only [pS]
            refine gT (.pointer (some ⟨V.M, 6 + z, none⟩)) ?_; try simp only [pS]
            refine wpG_take _ (.int .i64 (G : Int)) rfl (by rfl) (fun X hX => q_ldI rfl rfl (HMF.out X hX).2) ?_; try simp only [pS]
            refine wpG_take _ (.agg #[.int .i64 (F : Int), .int .i64 (G : Int)]) rfl (by rfl) (fun X hX => w_bldCn rfl rfl rfl) ?_; try simp only [pS]
            refine wpG_call _ rfl (by rfl) 35 #[.pointer (some ⟨P.M, 0, none⟩), .int .i64 (z : Int)] (fun _ => by go_simp) (fun u w' => u = .agg #[.int .i64 (F : Int), .int .i64 (G : Int)] ∧ SaW w0 W lp lw Xp P x V y w') (HCN.out.mono fun e w' ⟨e1, e2⟩ => ⟨_, e1, HW.out.drew.below e2, rfl, HW.out.drew.below e2⟩) ?_
            rintro u W5 hs5 ⟨rfl, hw5⟩
            refine ⟨_, fun _ h => h, hs5, ?_⟩; try simp only [pS]
            refine wpG_take _ (.bool false) rfl (by rfl) (fun X hX => w_neCn rfl rfl rfl) ?_; try simp only [pS]
            refine gT (.bool false) ?_; try simp only [pS]
            refine gT (.pointer (some ⟨Xp, 0, none⟩)) ?_; try simp only [pS]
            refine gT (.pointer (some ⟨Xp, 0, none⟩)) ?_; try simp only [pS]
            refine gT (.pointer (some ⟨Xp, 4, none⟩)) ?_; try simp only [pS]
            refine wpG_take _ (.pointer (some ⟨P.M, 0, none⟩)) rfl (by rfl) (fun X hX => q_ldM rfl rfl hX.b.s.cm) ?_; try simp only [pS]
            refine gT (.int .i64 (z : Int)) ?_; try simp only [pS]
            refine gT (.int .u8 (2)) ?_; try simp only [pS]
            refine wpG_call _ rfl (by rfl) 36 #[.pointer (some ⟨P.M, 0, none⟩), .int .i64 (z : Int)] (fun _ => by go_simp) (fun u w' => u = .int .u8 (2) ∧ SaW w0 W lp lw Xp P x V y w') ((HHE.out W5 hw5).mono fun e w' ⟨e1, e2⟩ => by subst e2; exact ⟨_, e1, hw5, rfl, hw5⟩) ?_
            rintro u W6 hs6 ⟨rfl, hw6⟩
            refine ⟨_, fun _ h => h, hs6, ?_⟩; try simp only [pS]
            refine wpG_take _ (.bool false) rfl (by rfl) (fun X hX => w_neI Tryz.underlying5 rfl rfl rfl) ?_; try simp only [pS]
            refine gT (.bool false) ?_; try simp only [pS]
            refine wpG_nil ?_
            have HS6 := Lib.hid hw6
            clear hs5 hs6 hw5 hw6 HCN HHE HMF HW cdz cfz cdd HFL
            go_upto_region 20 with fail
            go_loopw [9] (fun i wr => ∃ a : Nat, a ≤ (y.d z).n ∧ i = .int .i64 (a : Int) ∧ SaW w0 W lp lw Xp P x V y wr) (fun i _ => (y.d z).n - (intOf i).toNat)
            case atStart => exact ⟨0, by omega, rfl, HS6.out⟩
            case round =>
              clear HS6
              obtain ⟨a, ha, rfl, hs7⟩ := hrel
              have HW := Lib.hid hs7
              clear hs7
              have cdz := HW.out.b.m.cell.1 z HZ.out
              have hnl : (y.d z).n ≤ 65536 := by obtain ⟨_, _, _, _, _, hin⟩ := HW.out.b.m.dk z HZ.out; exact hin.nlt
              obtain ⟨nn, hnn⟩ : ∃ nn, (y.d z).n = nn := ⟨_, rfl⟩
              have cnn : wr.cell? ⟨V.D z, 0, none⟩ = some (.int .i64 (nn : Int)) := by
                obtain ⟨_, _, _, _, _, hin⟩ := HW.out.b.m.dk z HZ.out
                rw [← hnn]
                exact hin.c.1
              rw [hnn] at ha hnl ⊢
              have wa1 := IntWalk.i64_in ((a : Int) + 1) (by omega)
              by_cases hlt : a < nn
              · have hal : a < 65536 := by omega
                have wau := IntWalk.u16_in (a : Int) (by omega)
                have HAL := Lib.hid hal
                have cpd := HW.out.b.s.cd HZ.out
                have HLK := Lib.hid (look_any (P.D z) P.Q (fun b => lp b = z + 1) (x.d z) a hal wr (HW.out.b.s.mi.dk _ HZ.out) (by have := HL.out.c _ HZ.out; have := HN.out; omega))
                clear hnn
                go_wp2_with (first | (refine wpL_val rfl (w_ldP Tryz.underlying38 rfl rfl cdz) ?_) | (refine wpL_val rfl (q_ldD rfl rfl cpd) ?_) | fail)
                refine HLK.out.mono ?_
                rintro e W7 ⟨vt, rfl, ht7, hb7⟩
                have HW7 := Lib.hid (HW.out.below hb7)
                obtain ⟨t, htq⟩ : ∃ t, look (x.d z) a = t := ⟨_, rfl⟩
                have hrl : rlook (y.d z) a = t := by rw [(HSI.out.d z HZ.out).looks a, htq]
                rw [htq] at ht7 ⊢
                obtain ⟨spt, nt, ct, rfl, hnt, hst⟩ := told_src ht7
                have HST := Lib.hid hst; have HNT := Lib.hid hnt
                have cdz7 := HW7.out.b.m.cell.1 z HZ.out
                have HRL := Lib.hid (rlook_any (V.D z) V.q (fun b => lw b = z + 1) (y.d z) a hal W7 (HW7.out.b.m.dk z HZ.out) ((HBW.out.d z HZ.out).room (by have := HM.out; omega)).small)
                rw [hrl] at HRL
                obtain ⟨it, hit⟩ : ∃ it, t.isSome = it := ⟨_, rfl⟩
                rw [hit] at HRL ⊢
                clear ht7 hb7 htq hrl hnt hst hit HLK HW cdz cnn cpd
                go_wp2_with (first | (refine wpL_val rfl (w_ldP Tryz.underlying38 rfl rfl cdz7) ?_) | fail)
                refine HRL.out.mono ?_
                rintro e W8 ⟨rfl, hb8⟩
                have HW8 := Lib.hid (HW7.out.below hb8).drew
                have HT8 := Lib.hid (HST.out.grown hb8.drew)
                have hsm : isS x.s z a = hasB ((y.s z).l 2) a := by rw [(HSI.out.s z HZ.out).s.has]; rfl
                obtain ⟨sk, hsk⟩ : ∃ sk, isS x.s z a = sk := ⟨_, rfl⟩
                have HIS := Lib.hid (is_any z P.K a P.B x.s W8.drew HW8.out.b.s.mi.sp HZ.out HAL.out)
                rw [hsk] at HIS hsm
                obtain ⟨lo, labr, br, vr, hri, -⟩ := HW8.out.b.m.sp z HZ.out
                obtain ⟨s0, s1, s2, k0, k1, k2, -, -, -, hlk⟩ := hri.look
                have hl2 : ((y.s z).l 2).length ≤ 1000 := by have := HBW.out.s z HZ.out 2 (by omega); have := HM.out; omega
                have HHS := Lib.hid (fun X (hX : SrcU X s2 ((y.s z).l 2)) => has_any s2 k2 ((y.s z).l 2) a X hl2 hX)
                rw [← hsm] at HHS
                obtain ⟨ln, hln⟩ : ∃ ln, ((y.s z).l 2).length = ln := ⟨_, rfl⟩
                have hcs := hlk.s
                rw [hln] at HHS hcs
                have HSS : Hid (SaW w0 W lp lw Xp P x V y W8.drew ∧ SrcA W8.drew spt (t.getD []) ∧ W8.drew.cell? ⟨V.R z, 3, none⟩ = some (.slice s2 ln k2) ∧ SrcU W8.drew s2 ((y.s z).l 2)) := Lib.hid ⟨HW8.out, HT8.out, hcs, hlk.ss⟩
                have hrs : V.R z < W8.drew.heap.size := hri.blk.lt
                have HSB : Hid (∀ X, Below W8.drew.heap.size W8.drew X → SaW w0 W lp lw Xp P x V y X ∧ SrcA X spt (t.getD []) ∧ X.cell? ⟨V.R z, 3, none⟩ = some (.slice s2 ln k2) ∧ SrcU X s2 ((y.s z).l 2)) := Lib.hid (fun X hX => ⟨HW8.out.below hX, HT8.out.grown hX, (hX.cell (p := ⟨V.R z, 3, none⟩) hrs).trans hcs, hlk.ss.below hX⟩)
                clear hb8 hsm hsk hri hlk hl2 hln hcs hrs HST HRL HW7 HW8 HT8 cdz7
                go_upto_region 24 with fail
                refine gS (.take 0 (.take 1 (.take 2 (.take 3 (.take 4 (.take 5 (.take 6 (.take 7 (.take 8 (.take 9 (.take 10 (.take 11 (.take 12 (.take 13 (.take 14 (.take 15 (.take 16 (.take 18 (.take 19 (.take 20 (.take 21 (.take 22 (.take 23 (.take 24 (.take 25 (.take 26 (.take 27 (.take 28 (.step 17 (.step 29 (.take 30 (.take 31 (.nil))))))))))))))))))))))))))))))))) (fun X => SaW w0 W lp lw Xp P x V y X ∧ SrcA X spt (t.getD []) ∧ X.cell? ⟨V.R z, 3, none⟩ = some (.slice s2 ln k2) ∧ SrcU X s2 ((y.s z).l 2)) HSS.out ?_
                refine gT (.slice spt nt ct) ?_; try simp only [pS]
                refine wpG_take _ (.string (bstr (t.getD []))) rfl (by rfl) (fun X hX => q_cvs rfl HNT.out rfl hX.2.1) ?_; try simp only [pS]
                refine gT (.string (bstr (t.getD []))) ?_; try simp only [pS]
                refine wpG_take _ (.bool false) rfl (by rfl) (fun X hX => w_neStr rfl rfl rfl) ?_; try simp only [pS]
                refine gT (.bool false) ?_; try simp only [pS]
                refine gT (.bool it) ?_; try simp only [pS]
                refine gT (.bool it) ?_; try simp only [pS]
                refine wpG_take _ (.bool false) rfl (by rfl) (fun X hX => w_neB rfl rfl rfl) ?_; try simp only [pS]
                refine gT (.bool false) ?_; try simp only [pS]
                refine gT (.bool false) ?_; try simp only [pS]
                refine gT (.pointer (some ⟨Xp, 0, none⟩)) ?_; try simp only [pS]
                refine gT (.pointer (some ⟨Xp, 0, none⟩)) ?_; try simp only [pS]
                refine gT (.pointer (some ⟨Xp, 3, none⟩)) ?_; try simp only [pS]
                refine wpG_take _ (.pointer (some ⟨P.K, 0, none⟩)) rfl (by rfl) (fun X hX => q_ldK rfl rfl hX.1.b.s.cs) ?_; try simp only [pS]
                refine gT (.int .i64 (z : Int)) ?_; try simp only [pS]
                refine gT (.int .i64 (a : Int)) ?_; try simp only [pS]
                refine gT (.int .u16 (a : Int)) ?_; try simp only [pS]
                refine gT (.pointer (some ⟨V.M, 0, none⟩)) ?_; try simp only [pS]
                refine gT (.int .i64 (z : Int)) ?_; try simp only [pS]
                refine gT (.pointer (some ⟨V.M, 0, none⟩)) ?_; try simp only [pS]
                refine gT (.pointer (some ⟨V.M, 2, none⟩)) ?_; try simp only [pS]
                refine gT (.pointer (some ⟨V.M, 2 + z, none⟩)) ?_; try simp only [pS]
                refine wpG_take _ (.pointer (some ⟨V.R z, 0, none⟩)) rfl (by rfl) (fun X hX => w_ldP Tryz.underlying40 rfl rfl (hX.1.b.m.cell.2.1 z HZ.out)) ?_; try simp only [pS]
                refine gT (.pointer (some ⟨V.R z, 0, none⟩)) ?_; try simp only [pS]
                refine gT (.pointer (some ⟨V.R z, 3, none⟩)) ?_; try simp only [pS]
                refine wpG_take _ (.slice s2 ln k2) rfl (by rfl) (fun X hX => q_ldZ Tryz.underlying47 rfl rfl hX.2.2.1) ?_; try simp only [pS]
                refine gT (.int .i64 (a : Int)) ?_; try simp only [pS]
                refine gT (.int .u16 (a : Int)) ?_; try simp only [pS]
                refine wpG_call _ rfl (by rfl) 29 #[.pointer (some ⟨P.K, 0, none⟩), .int .i64 (z : Int), .int .u16 (a : Int)] (fun _ => by go_simp) (fun u w' => u = .bool sk ∧ (fun X => SaW w0 W lp lw Xp P x V y X ∧ SrcA X spt (t.getD []) ∧ X.cell? ⟨V.R z, 3, none⟩ = some (.slice s2 ln k2) ∧ SrcU X s2 ((y.s z).l 2)) w') (HIS.out.mono fun e w' ⟨e1, e2⟩ => ⟨_, e1, HSB.out _ e2, rfl, HSB.out _ e2⟩) ?_
                rintro u W9 hs9 ⟨rfl, hw9⟩
                refine ⟨_, fun _ h => h, hs9, ?_⟩; try simp only [pS]
                refine wpG_call _ rfl (by rfl) 61 #[.slice s2 ln k2, .int .u16 (a : Int)] (fun _ => by go_simp) (fun u w' => u = .bool sk ∧ SaW w0 W lp lw Xp P x V y w') ((HHS.out W9 hw9.2.2.2).mono fun e w' ⟨e1, e2⟩ => by subst e2; exact ⟨_, e1, hw9, rfl, hw9.1⟩) ?_
                rintro u W10 hs10 ⟨rfl, hw10⟩
                refine ⟨_, fun _ h => h, hs10, ?_⟩; try simp only [pS]
                refine wpG_take _ (.bool false) rfl (by rfl) (fun X hX => w_neB rfl rfl rfl) ?_; try simp only [pS]
                refine gT (.bool false) ?_; try simp only [pS]
                refine wpG_nil ?_
                have HWE := Lib.hid hw10
                clear hs9 hw9 hs10 hw10 HIS HHS HSS HSB HNT
                go_wp2_with fail
                go_roundw
                case rel => exact ⟨a + 1, by omega, by go_num, HWE.out⟩
                case measure => simp [intOf]; omega
              · have HWE := Lib.hid HW.out
                obtain rfl : a = nn := by omega
                clear HW hlt hnn hnl wa1
                go_wp2_with (first | (refine wpL_val rfl (w_ldP Tryz.underlying38 rfl rfl cdz) ?_) | fail)
                go_roundw
                case rel => exact ⟨z + 1, by have := HZ.out; omega, by go_num, HWE.out⟩
                case measure => have := HZ.out; simp [intOf]; omega
          | false =>
            by_cases hF0 : 0 < F
            · have qf : decide ((0 : Int) < (F : Int)) = true := by simpa using hF0
              have qf2 : decide (0 < F) = true := by simpa using hF0
              rw [if_neg (by decide), if_pos hF0] at HHE
              clear hF0
              go_upto_region 17 with (first | (refine wpL_val rfl (w_ldP Tryz.underlying38 rfl rfl cdz) ?_) | (refine wpL_val rfl (w_ldB rfl rfl cdd) ?_) | fail)
              refine gS (.take 0 (.take 1 (.take 2 (.take 3 (.take 4 (.take 6 (.take 7 (.take 8 (.take 9 (.take 10 (.take 11 (.take 12 (.take 13 (.take 14 (.take 15 (.take 16 (.take 17 (.take 18 (.step 5 (.take 19 (.take 20 (.take 21 (.take 22 (.take 23 (.take 24 (.take 25 (.take 27 (.step 26 (.take 28 (.take 29 (.nil))))))))))))))))))))))))))))))) (SaW w0 W lp lw Xp P x V y) HW.out.drew ?_
              refine gT (.pointer (some ⟨Xp, 0, none⟩)) ?_; try simp only [pS]
              refine gT (.pointer (some ⟨Xp, 0, none⟩)) ?_; try simp only [pS]
              refine gT (.pointer (some ⟨Xp, 4, none⟩)) ?_; try simp only [pS]
              refine wpG_take _ (.pointer (some ⟨P.M, 0, none⟩)) rfl (by rfl) (fun X hX => q_ldM rfl rfl hX.b.s.cm) ?_; try simp only [pS]
              refine gT (.int .i64 (z : Int)) ?_; try simp only [pS]
              refine gT (.pointer (some ⟨V.M, 0, none⟩)) ?_; try simp only [pS]
              refine gT (.int .i64 (z : Int)) ?_; try simp only [pS]
              refine gT (.pointer (some ⟨V.M, 0, none⟩)) ?_; try simp only [pS]
              refine gT (.pointer (some ⟨V.M, 4, none⟩)) ?_; try simp only [pS]
              refine gT (.pointer (some ⟨V.M, 4 + z, none⟩)) ?_; try simp only [pS]
              refine wpG_take _ (.int .i64 (F : Int)) rfl (by rfl) (fun X hX => q_ldI rfl rfl (HMF.out X hX).1) ?_; try simp only [pS]
              refine gT (.pointer (some ⟨V.M, 0, none⟩)) ?_; try simp only [pS]
              refine gT (.int .i64 (z : Int)) ?_; try simp only [pS]
              refine gT (.pointer (some ⟨V.M, 0, none⟩)) ?_; try simp only [pS]
              refine gT (.pointer (some ⟨V.M, 6, none⟩)) ?_; try simp only [pS]
              refine gT (.pointer (some ⟨V.M, 6 + z, none⟩)) ?_; try simp only [pS]
              refine wpG_take _ (.int .i64 (G : Int)) rfl (by rfl) (fun X hX => q_ldI rfl rfl (HMF.out X hX).2) ?_; try simp only [pS]
              refine wpG_take _ (.agg #[.int .i64 (F : Int), .int .i64 (G : Int)]) rfl (by rfl) (fun X hX => w_bldCn rfl rfl rfl) ?_; try simp only [pS]
              refine wpG_call _ rfl (by rfl) 35 #[.pointer (some ⟨P.M, 0, none⟩), .int .i64 (z : Int)] (fun _ => by go_simp) (fun u w' => u = .agg #[.int .i64 (F : Int), .int .i64 (G : Int)] ∧ SaW w0 W lp lw Xp P x V y w') (HCN.out.mono fun e w' ⟨e1, e2⟩ => ⟨_, e1, HW.out.drew.below e2, rfl, HW.out.drew.below e2⟩) ?_
              rintro u W5 hs5 ⟨rfl, hw5⟩
              refine ⟨_, fun _ h => h, hs5, ?_⟩; try simp only [pS]
              refine wpG_take _ (.bool false) rfl (by rfl) (fun X hX => w_neCn rfl rfl rfl) ?_; try simp only [pS]
              refine gT (.bool false) ?_; try simp only [pS]
              refine gT (.pointer (some ⟨Xp, 0, none⟩)) ?_; try simp only [pS]
              refine gT (.pointer (some ⟨Xp, 0, none⟩)) ?_; try simp only [pS]
              refine gT (.pointer (some ⟨Xp, 4, none⟩)) ?_; try simp only [pS]
              refine wpG_take _ (.pointer (some ⟨P.M, 0, none⟩)) rfl (by rfl) (fun X hX => q_ldM rfl rfl hX.b.s.cm) ?_; try simp only [pS]
              refine gT (.int .i64 (z : Int)) ?_; try simp only [pS]
              refine gT (.int .u8 (1)) ?_; try simp only [pS]
              refine wpG_call _ rfl (by rfl) 36 #[.pointer (some ⟨P.M, 0, none⟩), .int .i64 (z : Int)] (fun _ => by go_simp) (fun u w' => u = .int .u8 (1) ∧ SaW w0 W lp lw Xp P x V y w') ((HHE.out W5 hw5).mono fun e w' ⟨e1, e2⟩ => by subst e2; exact ⟨_, e1, hw5, rfl, hw5⟩) ?_
              rintro u W6 hs6 ⟨rfl, hw6⟩
              refine ⟨_, fun _ h => h, hs6, ?_⟩; try simp only [pS]
              refine wpG_take _ (.bool false) rfl (by rfl) (fun X hX => w_neI Tryz.underlying5 rfl rfl rfl) ?_; try simp only [pS]
              refine gT (.bool false) ?_; try simp only [pS]
              refine wpG_nil ?_
              have HS6 := Lib.hid hw6
              clear hs5 hs6 hw5 hw6 HCN HHE HMF HW cdz cfz cdd HFL
              go_upto_region 20 with fail
              go_loopw [9] (fun i wr => ∃ a : Nat, a ≤ (y.d z).n ∧ i = .int .i64 (a : Int) ∧ SaW w0 W lp lw Xp P x V y wr) (fun i _ => (y.d z).n - (intOf i).toNat)
              case atStart => exact ⟨0, by omega, rfl, HS6.out⟩
              case round =>
                clear HS6
                obtain ⟨a, ha, rfl, hs7⟩ := hrel
                have HW := Lib.hid hs7
                clear hs7
                have cdz := HW.out.b.m.cell.1 z HZ.out
                have hnl : (y.d z).n ≤ 65536 := by obtain ⟨_, _, _, _, _, hin⟩ := HW.out.b.m.dk z HZ.out; exact hin.nlt
                obtain ⟨nn, hnn⟩ : ∃ nn, (y.d z).n = nn := ⟨_, rfl⟩
                have cnn : wr.cell? ⟨V.D z, 0, none⟩ = some (.int .i64 (nn : Int)) := by
                  obtain ⟨_, _, _, _, _, hin⟩ := HW.out.b.m.dk z HZ.out
                  rw [← hnn]
                  exact hin.c.1
                rw [hnn] at ha hnl ⊢
                have wa1 := IntWalk.i64_in ((a : Int) + 1) (by omega)
                by_cases hlt : a < nn
                · have hal : a < 65536 := by omega
                  have wau := IntWalk.u16_in (a : Int) (by omega)
                  have HAL := Lib.hid hal
                  have cpd := HW.out.b.s.cd HZ.out
                  have HLK := Lib.hid (look_any (P.D z) P.Q (fun b => lp b = z + 1) (x.d z) a hal wr (HW.out.b.s.mi.dk _ HZ.out) (by have := HL.out.c _ HZ.out; have := HN.out; omega))
                  clear hnn
                  go_wp2_with (first | (refine wpL_val rfl (w_ldP Tryz.underlying38 rfl rfl cdz) ?_) | (refine wpL_val rfl (q_ldD rfl rfl cpd) ?_) | fail)
                  refine HLK.out.mono ?_
                  rintro e W7 ⟨vt, rfl, ht7, hb7⟩
                  have HW7 := Lib.hid (HW.out.below hb7)
                  obtain ⟨t, htq⟩ : ∃ t, look (x.d z) a = t := ⟨_, rfl⟩
                  have hrl : rlook (y.d z) a = t := by rw [(HSI.out.d z HZ.out).looks a, htq]
                  rw [htq] at ht7 ⊢
                  obtain ⟨spt, nt, ct, rfl, hnt, hst⟩ := told_src ht7
                  have HST := Lib.hid hst; have HNT := Lib.hid hnt
                  have cdz7 := HW7.out.b.m.cell.1 z HZ.out
                  have HRL := Lib.hid (rlook_any (V.D z) V.q (fun b => lw b = z + 1) (y.d z) a hal W7 (HW7.out.b.m.dk z HZ.out) ((HBW.out.d z HZ.out).room (by have := HM.out; omega)).small)
                  rw [hrl] at HRL
                  obtain ⟨it, hit⟩ : ∃ it, t.isSome = it := ⟨_, rfl⟩
                  rw [hit] at HRL ⊢
                  clear ht7 hb7 htq hrl hnt hst hit HLK HW cdz cnn cpd
                  go_wp2_with (first | (refine wpL_val rfl (w_ldP Tryz.underlying38 rfl rfl cdz7) ?_) | fail)
                  refine HRL.out.mono ?_
                  rintro e W8 ⟨rfl, hb8⟩
                  have HW8 := Lib.hid (HW7.out.below hb8).drew
                  have HT8 := Lib.hid (HST.out.grown hb8.drew)
                  have hsm : isS x.s z a = hasB ((y.s z).l 2) a := by rw [(HSI.out.s z HZ.out).s.has]; rfl
                  obtain ⟨sk, hsk⟩ : ∃ sk, isS x.s z a = sk := ⟨_, rfl⟩
                  have HIS := Lib.hid (is_any z P.K a P.B x.s W8.drew HW8.out.b.s.mi.sp HZ.out HAL.out)
                  rw [hsk] at HIS hsm
                  obtain ⟨lo, labr, br, vr, hri, -⟩ := HW8.out.b.m.sp z HZ.out
                  obtain ⟨s0, s1, s2, k0, k1, k2, -, -, -, hlk⟩ := hri.look
                  have hl2 : ((y.s z).l 2).length ≤ 1000 := by have := HBW.out.s z HZ.out 2 (by omega); have := HM.out; omega
                  have HHS := Lib.hid (fun X (hX : SrcU X s2 ((y.s z).l 2)) => has_any s2 k2 ((y.s z).l 2) a X hl2 hX)
                  rw [← hsm] at HHS
                  obtain ⟨ln, hln⟩ : ∃ ln, ((y.s z).l 2).length = ln := ⟨_, rfl⟩
                  have hcs := hlk.s
                  rw [hln] at HHS hcs
                  have HSS : Hid (SaW w0 W lp lw Xp P x V y W8.drew ∧ SrcA W8.drew spt (t.getD []) ∧ W8.drew.cell? ⟨V.R z, 3, none⟩ = some (.slice s2 ln k2) ∧ SrcU W8.drew s2 ((y.s z).l 2)) := Lib.hid ⟨HW8.out, HT8.out, hcs, hlk.ss⟩
                  have hrs : V.R z < W8.drew.heap.size := hri.blk.lt
                  have HSB : Hid (∀ X, Below W8.drew.heap.size W8.drew X → SaW w0 W lp lw Xp P x V y X ∧ SrcA X spt (t.getD []) ∧ X.cell? ⟨V.R z, 3, none⟩ = some (.slice s2 ln k2) ∧ SrcU X s2 ((y.s z).l 2)) := Lib.hid (fun X hX => ⟨HW8.out.below hX, HT8.out.grown hX, (hX.cell (p := ⟨V.R z, 3, none⟩) hrs).trans hcs, hlk.ss.below hX⟩)
                  clear hb8 hsm hsk hri hlk hl2 hln hcs hrs HST HRL HW7 HW8 HT8 cdz7
                  go_upto_region 24 with fail
                  refine gS (.take 0 (.take 1 (.take 2 (.take 3 (.take 4 (.take 5 (.take 6 (.take 7 (.take 8 (.take 9 (.take 10 (.take 11 (.take 12 (.take 13 (.take 14 (.take 15 (.take 16 (.take 18 (.take 19 (.take 20 (.take 21 (.take 22 (.take 23 (.take 24 (.take 25 (.take 26 (.take 27 (.take 28 (.step 17 (.step 29 (.take 30 (.take 31 (.nil))))))))))))))))))))))))))))))))) (fun X => SaW w0 W lp lw Xp P x V y X ∧ SrcA X spt (t.getD []) ∧ X.cell? ⟨V.R z, 3, none⟩ = some (.slice s2 ln k2) ∧ SrcU X s2 ((y.s z).l 2)) HSS.out ?_
                  refine gT (.slice spt nt ct) ?_; try simp only [pS]
                  refine wpG_take _ (.string (bstr (t.getD []))) rfl (by rfl) (fun X hX => q_cvs rfl HNT.out rfl hX.2.1) ?_; try simp only [pS]
                  refine gT (.string (bstr (t.getD []))) ?_; try simp only [pS]
                  refine wpG_take _ (.bool false) rfl (by rfl) (fun X hX => w_neStr rfl rfl rfl) ?_; try simp only [pS]
                  refine gT (.bool false) ?_; try simp only [pS]
                  refine gT (.bool it) ?_; try simp only [pS]
                  refine gT (.bool it) ?_; try simp only [pS]
                  refine wpG_take _ (.bool false) rfl (by rfl) (fun X hX => w_neB rfl rfl rfl) ?_; try simp only [pS]
                  refine gT (.bool false) ?_; try simp only [pS]
                  refine gT (.bool false) ?_; try simp only [pS]
                  refine gT (.pointer (some ⟨Xp, 0, none⟩)) ?_; try simp only [pS]
                  refine gT (.pointer (some ⟨Xp, 0, none⟩)) ?_; try simp only [pS]
                  refine gT (.pointer (some ⟨Xp, 3, none⟩)) ?_; try simp only [pS]
                  refine wpG_take _ (.pointer (some ⟨P.K, 0, none⟩)) rfl (by rfl) (fun X hX => q_ldK rfl rfl hX.1.b.s.cs) ?_; try simp only [pS]
                  refine gT (.int .i64 (z : Int)) ?_; try simp only [pS]
                  refine gT (.int .i64 (a : Int)) ?_; try simp only [pS]
                  refine gT (.int .u16 (a : Int)) ?_; try simp only [pS]
                  refine gT (.pointer (some ⟨V.M, 0, none⟩)) ?_; try simp only [pS]
                  refine gT (.int .i64 (z : Int)) ?_; try simp only [pS]
                  refine gT (.pointer (some ⟨V.M, 0, none⟩)) ?_; try simp only [pS]
                  refine gT (.pointer (some ⟨V.M, 2, none⟩)) ?_; try simp only [pS]
                  refine gT (.pointer (some ⟨V.M, 2 + z, none⟩)) ?_; try simp only [pS]
                  refine wpG_take _ (.pointer (some ⟨V.R z, 0, none⟩)) rfl (by rfl) (fun X hX => w_ldP Tryz.underlying40 rfl rfl (hX.1.b.m.cell.2.1 z HZ.out)) ?_; try simp only [pS]
                  refine gT (.pointer (some ⟨V.R z, 0, none⟩)) ?_; try simp only [pS]
                  refine gT (.pointer (some ⟨V.R z, 3, none⟩)) ?_; try simp only [pS]
                  refine wpG_take _ (.slice s2 ln k2) rfl (by rfl) (fun X hX => q_ldZ Tryz.underlying47 rfl rfl hX.2.2.1) ?_; try simp only [pS]
                  refine gT (.int .i64 (a : Int)) ?_; try simp only [pS]
                  refine gT (.int .u16 (a : Int)) ?_; try simp only [pS]
                  refine wpG_call _ rfl (by rfl) 29 #[.pointer (some ⟨P.K, 0, none⟩), .int .i64 (z : Int), .int .u16 (a : Int)] (fun _ => by go_simp) (fun u w' => u = .bool sk ∧ (fun X => SaW w0 W lp lw Xp P x V y X ∧ SrcA X spt (t.getD []) ∧ X.cell? ⟨V.R z, 3, none⟩ = some (.slice s2 ln k2) ∧ SrcU X s2 ((y.s z).l 2)) w') (HIS.out.mono fun e w' ⟨e1, e2⟩ => ⟨_, e1, HSB.out _ e2, rfl, HSB.out _ e2⟩) ?_
                  rintro u W9 hs9 ⟨rfl, hw9⟩
                  refine ⟨_, fun _ h => h, hs9, ?_⟩; try simp only [pS]
                  refine wpG_call _ rfl (by rfl) 61 #[.slice s2 ln k2, .int .u16 (a : Int)] (fun _ => by go_simp) (fun u w' => u = .bool sk ∧ SaW w0 W lp lw Xp P x V y w') ((HHS.out W9 hw9.2.2.2).mono fun e w' ⟨e1, e2⟩ => by subst e2; exact ⟨_, e1, hw9, rfl, hw9.1⟩) ?_
                  rintro u W10 hs10 ⟨rfl, hw10⟩
                  refine ⟨_, fun _ h => h, hs10, ?_⟩; try simp only [pS]
                  refine wpG_take _ (.bool false) rfl (by rfl) (fun X hX => w_neB rfl rfl rfl) ?_; try simp only [pS]
                  refine gT (.bool false) ?_; try simp only [pS]
                  refine wpG_nil ?_
                  have HWE := Lib.hid hw10
                  clear hs9 hw9 hs10 hw10 HIS HHS HSS HSB HNT
                  go_wp2_with fail
                  go_roundw
                  case rel => exact ⟨a + 1, by omega, by go_num, HWE.out⟩
                  case measure => simp [intOf]; omega
                · have HWE := Lib.hid HW.out
                  obtain rfl : a = nn := by omega
                  clear HW hlt hnn hnl wa1
                  go_wp2_with (first | (refine wpL_val rfl (w_ldP Tryz.underlying38 rfl rfl cdz) ?_) | fail)
                  go_roundw
                  case rel => exact ⟨z + 1, by have := HZ.out; omega, by go_num, HWE.out⟩
                  case measure => have := HZ.out; simp [intOf]; omega
            · have qf : decide ((0 : Int) < (F : Int)) = false := by simp; omega
              have qf2 : decide (0 < F) = false := by simpa using hF0
              rw [if_neg (by decide), if_neg hF0] at HHE
              clear hF0
              go_upto_region 17 with (first | (refine wpL_val rfl (w_ldP Tryz.underlying38 rfl rfl cdz) ?_) | (refine wpL_val rfl (w_ldB rfl rfl cdd) ?_) | fail)
              refine gS (.take 0 (.take 1 (.take 2 (.take 3 (.take 4 (.take 6 (.take 7 (.take 8 (.take 9 (.take 10 (.take 11 (.take 12 (.take 13 (.take 14 (.take 15 (.take 16 (.take 17 (.take 18 (.step 5 (.take 19 (.take 20 (.take 21 (.take 22 (.take 23 (.take 24 (.take 25 (.take 27 (.step 26 (.take 28 (.take 29 (.nil))))))))))))))))))))))))))))))) (SaW w0 W lp lw Xp P x V y) HW.out.drew ?_
              refine gT (.pointer (some ⟨Xp, 0, none⟩)) ?_; try simp only [pS]
              refine gT (.pointer (some ⟨Xp, 0, none⟩)) ?_; try simp only [pS]
              refine gT (.pointer (some ⟨Xp, 4, none⟩)) ?_; try simp only [pS]
              refine wpG_take _ (.pointer (some ⟨P.M, 0, none⟩)) rfl (by rfl) (fun X hX => q_ldM rfl rfl hX.b.s.cm) ?_; try simp only [pS]
              refine gT (.int .i64 (z : Int)) ?_; try simp only [pS]
              refine gT (.pointer (some ⟨V.M, 0, none⟩)) ?_; try simp only [pS]
              refine gT (.int .i64 (z : Int)) ?_; try simp only [pS]
              refine gT (.pointer (some ⟨V.M, 0, none⟩)) ?_; try simp only [pS]
              refine gT (.pointer (some ⟨V.M, 4, none⟩)) ?_; try simp only [pS]
              refine gT (.pointer (some ⟨V.M, 4 + z, none⟩)) ?_; try simp only [pS]
              refine wpG_take _ (.int .i64 (F : Int)) rfl (by rfl) (fun X hX => q_ldI rfl rfl (HMF.out X hX).1) ?_; try simp only [pS]
              refine gT (.pointer (some ⟨V.M, 0, none⟩)) ?_; try simp only [pS]
              refine gT (.int .i64 (z : Int)) ?_; try simp only [pS]
              refine gT (.pointer (some ⟨V.M, 0, none⟩)) ?_; try simp only [pS]
              refine gT (.pointer (some ⟨V.M, 6, none⟩)) ?_; try simp only [pS]
              refine gT (.pointer (some ⟨V.M, 6 + z, none⟩)) ?_; try simp only [pS]
              refine wpG_take _ (.int .i64 (G : Int)) rfl (by rfl) (fun X hX => q_ldI rfl rfl (HMF.out X hX).2) ?_; try simp only [pS]
              refine wpG_take _ (.agg #[.int .i64 (F : Int), .int .i64 (G : Int)]) rfl (by rfl) (fun X hX => w_bldCn rfl rfl rfl) ?_; try simp only [pS]
              refine wpG_call _ rfl (by rfl) 35 #[.pointer (some ⟨P.M, 0, none⟩), .int .i64 (z : Int)] (fun _ => by go_simp) (fun u w' => u = .agg #[.int .i64 (F : Int), .int .i64 (G : Int)] ∧ SaW w0 W lp lw Xp P x V y w') (HCN.out.mono fun e w' ⟨e1, e2⟩ => ⟨_, e1, HW.out.drew.below e2, rfl, HW.out.drew.below e2⟩) ?_
              rintro u W5 hs5 ⟨rfl, hw5⟩
              refine ⟨_, fun _ h => h, hs5, ?_⟩; try simp only [pS]
              refine wpG_take _ (.bool false) rfl (by rfl) (fun X hX => w_neCn rfl rfl rfl) ?_; try simp only [pS]
              refine gT (.bool false) ?_; try simp only [pS]
              refine gT (.pointer (some ⟨Xp, 0, none⟩)) ?_; try simp only [pS]
              refine gT (.pointer (some ⟨Xp, 0, none⟩)) ?_; try simp only [pS]
              refine gT (.pointer (some ⟨Xp, 4, none⟩)) ?_; try simp only [pS]
              refine wpG_take _ (.pointer (some ⟨P.M, 0, none⟩)) rfl (by rfl) (fun X hX => q_ldM rfl rfl hX.b.s.cm) ?_; try simp only [pS]
              refine gT (.int .i64 (z : Int)) ?_; try simp only [pS]
              refine gT (.int .u8 (0)) ?_; try simp only [pS]
              refine wpG_call _ rfl (by rfl) 36 #[.pointer (some ⟨P.M, 0, none⟩), .int .i64 (z : Int)] (fun _ => by go_simp) (fun u w' => u = .int .u8 (0) ∧ SaW w0 W lp lw Xp P x V y w') ((HHE.out W5 hw5).mono fun e w' ⟨e1, e2⟩ => by subst e2; exact ⟨_, e1, hw5, rfl, hw5⟩) ?_
              rintro u W6 hs6 ⟨rfl, hw6⟩
              refine ⟨_, fun _ h => h, hs6, ?_⟩; try simp only [pS]
              refine wpG_take _ (.bool false) rfl (by rfl) (fun X hX => w_neI Tryz.underlying5 rfl rfl rfl) ?_; try simp only [pS]
              refine gT (.bool false) ?_; try simp only [pS]
              refine wpG_nil ?_
              have HS6 := Lib.hid hw6
              clear hs5 hs6 hw5 hw6 HCN HHE HMF HW cdz cfz cdd HFL
              go_upto_region 20 with fail
              go_loopw [9] (fun i wr => ∃ a : Nat, a ≤ (y.d z).n ∧ i = .int .i64 (a : Int) ∧ SaW w0 W lp lw Xp P x V y wr) (fun i _ => (y.d z).n - (intOf i).toNat)
              case atStart => exact ⟨0, by omega, rfl, HS6.out⟩
              case round =>
                clear HS6
                obtain ⟨a, ha, rfl, hs7⟩ := hrel
                have HW := Lib.hid hs7
                clear hs7
                have cdz := HW.out.b.m.cell.1 z HZ.out
                have hnl : (y.d z).n ≤ 65536 := by obtain ⟨_, _, _, _, _, hin⟩ := HW.out.b.m.dk z HZ.out; exact hin.nlt
                obtain ⟨nn, hnn⟩ : ∃ nn, (y.d z).n = nn := ⟨_, rfl⟩
                have cnn : wr.cell? ⟨V.D z, 0, none⟩ = some (.int .i64 (nn : Int)) := by
                  obtain ⟨_, _, _, _, _, hin⟩ := HW.out.b.m.dk z HZ.out
                  rw [← hnn]
                  exact hin.c.1
                rw [hnn] at ha hnl ⊢
                have wa1 := IntWalk.i64_in ((a : Int) + 1) (by omega)
                by_cases hlt : a < nn
                · have hal : a < 65536 := by omega
                  have wau := IntWalk.u16_in (a : Int) (by omega)
                  have HAL := Lib.hid hal
                  have cpd := HW.out.b.s.cd HZ.out
                  have HLK := Lib.hid (look_any (P.D z) P.Q (fun b => lp b = z + 1) (x.d z) a hal wr (HW.out.b.s.mi.dk _ HZ.out) (by have := HL.out.c _ HZ.out; have := HN.out; omega))
                  clear hnn
                  go_wp2_with (first | (refine wpL_val rfl (w_ldP Tryz.underlying38 rfl rfl cdz) ?_) | (refine wpL_val rfl (q_ldD rfl rfl cpd) ?_) | fail)
                  refine HLK.out.mono ?_
                  rintro e W7 ⟨vt, rfl, ht7, hb7⟩
                  have HW7 := Lib.hid (HW.out.below hb7)
                  obtain ⟨t, htq⟩ : ∃ t, look (x.d z) a = t := ⟨_, rfl⟩
                  have hrl : rlook (y.d z) a = t := by rw [(HSI.out.d z HZ.out).looks a, htq]
                  rw [htq] at ht7 ⊢
                  obtain ⟨spt, nt, ct, rfl, hnt, hst⟩ := told_src ht7
                  have HST := Lib.hid hst; have HNT := Lib.hid hnt
                  have cdz7 := HW7.out.b.m.cell.1 z HZ.out
                  have HRL := Lib.hid (rlook_any (V.D z) V.q (fun b => lw b = z + 1) (y.d z) a hal W7 (HW7.out.b.m.dk z HZ.out) ((HBW.out.d z HZ.out).room (by have := HM.out; omega)).small)
                  rw [hrl] at HRL
                  obtain ⟨it, hit⟩ : ∃ it, t.isSome = it := ⟨_, rfl⟩
                  rw [hit] at HRL ⊢
                  clear ht7 hb7 htq hrl hnt hst hit HLK HW cdz cnn cpd
                  go_wp2_with (first | (refine wpL_val rfl (w_ldP Tryz.underlying38 rfl rfl cdz7) ?_) | fail)
                  refine HRL.out.mono ?_
                  rintro e W8 ⟨rfl, hb8⟩
                  have HW8 := Lib.hid (HW7.out.below hb8).drew
                  have HT8 := Lib.hid (HST.out.grown hb8.drew)
                  have hsm : isS x.s z a = hasB ((y.s z).l 2) a := by rw [(HSI.out.s z HZ.out).s.has]; rfl
                  obtain ⟨sk, hsk⟩ : ∃ sk, isS x.s z a = sk := ⟨_, rfl⟩
                  have HIS := Lib.hid (is_any z P.K a P.B x.s W8.drew HW8.out.b.s.mi.sp HZ.out HAL.out)
                  rw [hsk] at HIS hsm
                  obtain ⟨lo, labr, br, vr, hri, -⟩ := HW8.out.b.m.sp z HZ.out
                  obtain ⟨s0, s1, s2, k0, k1, k2, -, -, -, hlk⟩ := hri.look
                  have hl2 : ((y.s z).l 2).length ≤ 1000 := by have := HBW.out.s z HZ.out 2 (by omega); have := HM.out; omega
                  have HHS := Lib.hid (fun X (hX : SrcU X s2 ((y.s z).l 2)) => has_any s2 k2 ((y.s z).l 2) a X hl2 hX)
                  rw [← hsm] at HHS
                  obtain ⟨ln, hln⟩ : ∃ ln, ((y.s z).l 2).length = ln := ⟨_, rfl⟩
                  have hcs := hlk.s
                  rw [hln] at HHS hcs
                  have HSS : Hid (SaW w0 W lp lw Xp P x V y W8.drew ∧ SrcA W8.drew spt (t.getD []) ∧ W8.drew.cell? ⟨V.R z, 3, none⟩ = some (.slice s2 ln k2) ∧ SrcU W8.drew s2 ((y.s z).l 2)) := Lib.hid ⟨HW8.out, HT8.out, hcs, hlk.ss⟩
                  have hrs : V.R z < W8.drew.heap.size := hri.blk.lt
                  have HSB : Hid (∀ X, Below W8.drew.heap.size W8.drew X → SaW w0 W lp lw Xp P x V y X ∧ SrcA X spt (t.getD []) ∧ X.cell? ⟨V.R z, 3, none⟩ = some (.slice s2 ln k2) ∧ SrcU X s2 ((y.s z).l 2)) := Lib.hid (fun X hX => ⟨HW8.out.below hX, HT8.out.grown hX, (hX.cell (p := ⟨V.R z, 3, none⟩) hrs).trans hcs, hlk.ss.below hX⟩)
                  clear hb8 hsm hsk hri hlk hl2 hln hcs hrs HST HRL HW7 HW8 HT8 cdz7
                  go_upto_region 24 with fail
                  refine gS (.take 0 (.take 1 (.take 2 (.take 3 (.take 4 (.take 5 (.take 6 (.take 7 (.take 8 (.take 9 (.take 10 (.take 11 (.take 12 (.take 13 (.take 14 (.take 15 (.take 16 (.take 18 (.take 19 (.take 20 (.take 21 (.take 22 (.take 23 (.take 24 (.take 25 (.take 26 (.take 27 (.take 28 (.step 17 (.step 29 (.take 30 (.take 31 (.nil))))))))))))))))))))))))))))))))) (fun X => SaW w0 W lp lw Xp P x V y X ∧ SrcA X spt (t.getD []) ∧ X.cell? ⟨V.R z, 3, none⟩ = some (.slice s2 ln k2) ∧ SrcU X s2 ((y.s z).l 2)) HSS.out ?_
                  refine gT (.slice spt nt ct) ?_; try simp only [pS]
                  refine wpG_take _ (.string (bstr (t.getD []))) rfl (by rfl) (fun X hX => q_cvs rfl HNT.out rfl hX.2.1) ?_; try simp only [pS]
                  refine gT (.string (bstr (t.getD []))) ?_; try simp only [pS]
                  refine wpG_take _ (.bool false) rfl (by rfl) (fun X hX => w_neStr rfl rfl rfl) ?_; try simp only [pS]
                  refine gT (.bool false) ?_; try simp only [pS]
                  refine gT (.bool it) ?_; try simp only [pS]
                  refine gT (.bool it) ?_; try simp only [pS]
                  refine wpG_take _ (.bool false) rfl (by rfl) (fun X hX => w_neB rfl rfl rfl) ?_; try simp only [pS]
                  refine gT (.bool false) ?_; try simp only [pS]
                  refine gT (.bool false) ?_; try simp only [pS]
                  refine gT (.pointer (some ⟨Xp, 0, none⟩)) ?_; try simp only [pS]
                  refine gT (.pointer (some ⟨Xp, 0, none⟩)) ?_; try simp only [pS]
                  refine gT (.pointer (some ⟨Xp, 3, none⟩)) ?_; try simp only [pS]
                  refine wpG_take _ (.pointer (some ⟨P.K, 0, none⟩)) rfl (by rfl) (fun X hX => q_ldK rfl rfl hX.1.b.s.cs) ?_; try simp only [pS]
                  refine gT (.int .i64 (z : Int)) ?_; try simp only [pS]
                  refine gT (.int .i64 (a : Int)) ?_; try simp only [pS]
                  refine gT (.int .u16 (a : Int)) ?_; try simp only [pS]
                  refine gT (.pointer (some ⟨V.M, 0, none⟩)) ?_; try simp only [pS]
                  refine gT (.int .i64 (z : Int)) ?_; try simp only [pS]
                  refine gT (.pointer (some ⟨V.M, 0, none⟩)) ?_; try simp only [pS]
                  refine gT (.pointer (some ⟨V.M, 2, none⟩)) ?_; try simp only [pS]
                  refine gT (.pointer (some ⟨V.M, 2 + z, none⟩)) ?_; try simp only [pS]
                  refine wpG_take _ (.pointer (some ⟨V.R z, 0, none⟩)) rfl (by rfl) (fun X hX => w_ldP Tryz.underlying40 rfl rfl (hX.1.b.m.cell.2.1 z HZ.out)) ?_; try simp only [pS]
                  refine gT (.pointer (some ⟨V.R z, 0, none⟩)) ?_; try simp only [pS]
                  refine gT (.pointer (some ⟨V.R z, 3, none⟩)) ?_; try simp only [pS]
                  refine wpG_take _ (.slice s2 ln k2) rfl (by rfl) (fun X hX => q_ldZ Tryz.underlying47 rfl rfl hX.2.2.1) ?_; try simp only [pS]
                  refine gT (.int .i64 (a : Int)) ?_; try simp only [pS]
                  refine gT (.int .u16 (a : Int)) ?_; try simp only [pS]
                  refine wpG_call _ rfl (by rfl) 29 #[.pointer (some ⟨P.K, 0, none⟩), .int .i64 (z : Int), .int .u16 (a : Int)] (fun _ => by go_simp) (fun u w' => u = .bool sk ∧ (fun X => SaW w0 W lp lw Xp P x V y X ∧ SrcA X spt (t.getD []) ∧ X.cell? ⟨V.R z, 3, none⟩ = some (.slice s2 ln k2) ∧ SrcU X s2 ((y.s z).l 2)) w') (HIS.out.mono fun e w' ⟨e1, e2⟩ => ⟨_, e1, HSB.out _ e2, rfl, HSB.out _ e2⟩) ?_
                  rintro u W9 hs9 ⟨rfl, hw9⟩
                  refine ⟨_, fun _ h => h, hs9, ?_⟩; try simp only [pS]
                  refine wpG_call _ rfl (by rfl) 61 #[.slice s2 ln k2, .int .u16 (a : Int)] (fun _ => by go_simp) (fun u w' => u = .bool sk ∧ SaW w0 W lp lw Xp P x V y w') ((HHS.out W9 hw9.2.2.2).mono fun e w' ⟨e1, e2⟩ => by subst e2; exact ⟨_, e1, hw9, rfl, hw9.1⟩) ?_
                  rintro u W10 hs10 ⟨rfl, hw10⟩
                  refine ⟨_, fun _ h => h, hs10, ?_⟩; try simp only [pS]
                  refine wpG_take _ (.bool false) rfl (by rfl) (fun X hX => w_neB rfl rfl rfl) ?_; try simp only [pS]
                  refine gT (.bool false) ?_; try simp only [pS]
                  refine wpG_nil ?_
                  have HWE := Lib.hid hw10
                  clear hs9 hw9 hs10 hw10 HIS HHS HSS HSB HNT
                  go_wp2_with fail
                  go_roundw
                  case rel => exact ⟨a + 1, by omega, by go_num, HWE.out⟩
                  case measure => simp [intOf]; omega
                · have HWE := Lib.hid HW.out
                  obtain rfl : a = nn := by omega
                  clear HW hlt hnn hnl wa1
                  go_wp2_with (first | (refine wpL_val rfl (w_ldP Tryz.underlying38 rfl rfl cdz) ?_) | fail)
                  go_roundw
                  case rel => exact ⟨z + 1, by have := HZ.out; omega, by go_num, HWE.out⟩
                  case measure => have := HZ.out; simp [intOf]; omega
        · have HWE := Lib.hid HW.out
          obtain rfl : z = 2 := by omega
          clear HW hz2 wz1
          rw [show ((2 : Nat) : Int) = (2 : Int) from rfl]
          go_wp2_with fail
          go_ret
          exact ⟨rfl, HWE.out.bel⟩
end Go.Proofs.YtmgagalhpkieoaaGreatDoor
