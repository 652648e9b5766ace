/- A copy is mended. -/
import Derived.Test.YtmgagalhpkieoaaGreatDoorM28
namespace Go.Proofs.YtmgagalhpkieoaaGreatDoor
open Go.RowKit

attribute [local go_sem] Oper.semAt_some

section
variable {ρ : Operand → Value} {o : Oper} {x y : Operand} {w : World}
theorem q_appM {v u v' : Value} {w w' : World} (ho : o.op = .call { callee := .builtin .append, args := #[x, y], argTypes := #[43, 43] }) (hx : ρ x = v) (hy : ρ y = u)
    (hr : (Builtin.append_ #[43, 43] o.type #[v, u]).run Tryz.prog w = .ok v' w') : (execOp ρ o).run Tryz.prog w = .ok (.value v') w' := by
  unfold execOp
  simp only [ho, resolve, invoke, builtin, Sem.run_bind, Sem.run_pure, Result.andThen_ok, List.map_toArray, List.map_cons, List.map_nil, hx, hy, hr]
theorem q_stS {b k : Nat} {u : Value} {sp : Option Addr} {n c : Nat} (ho : o.op = .store 43 x y) (hx : ρ x = .pointer (some ⟨b, k, none⟩)) (hy : ρ y = .slice sp n c) (hc : w.cell? ⟨b, k, none⟩ = some u) (hf : w.frozen? ⟨b, k, none⟩ = false) :
    (execOp ρ o).run Tryz.prog w = .ok .skip (w.setCell ⟨b, k, none⟩ (.slice sp n c)) := by
  unfold execOp
  simp only [ho]
  go_simp
theorem q_stI {b k : Nat} {u : Value} {z : Int} (ho : o.op = .store 3 x y) (hx : ρ x = .pointer (some ⟨b, k, none⟩)) (hy : ρ y = .int .i64 z) (hc : w.cell? ⟨b, k, none⟩ = some u) (hf : w.frozen? ⟨b, k, none⟩ = false) :
    (execOp ρ o).run Tryz.prog w = .ok .skip (w.setCell ⟨b, k, none⟩ (.int .i64 z)) := by
  unfold execOp
  simp only [ho]
  go_simp
theorem q_inc {m : Nat} (ho : o.op = .binOp .add 3 x y 3) (hx : ρ x = .int .i64 (m : Int)) (hy : ρ y = .int .i64 1) (hm : m < 1000000) : (execOp ρ o).run Tryz.prog w = .ok (.value (.int .i64 ((m + 1 : Nat) : Int))) w := by
  have h1 : IntKind.i64.wrap ((m : Int) + 1) = ((m + 1 : Nat) : Int) := by rw [IntWalk.i64_in _ (by omega)]; omega
  unfold execOp
  simp only [ho]
  go_simp
end
section
variable {w w' X Y : World} {lab : Nat → Nat} {P : Pl} {x : Mi Dsk Sp} {p : Pt} {c : Cpy}
theorem MiAt.free (h : MiAt w lab P x) (j : Nat) : w.frozen? ⟨P.M, j, none⟩ = false := by
  obtain ⟨v, hb, _⟩ := h.mi
  exact hb.free j
theorem MiAt.push (h : MiAt w lab P x) (hp : p.OK) (hl : x.mv.length < 1000000) (ty : TypeId) : ∃ v v' w2, (∃ sp n c, v = .slice sp n c) ∧ w.cell? ⟨P.M, 7, none⟩ = some v ∧ (w.alloc (.cells (pcells p).toArray 58)).cell? ⟨P.M, 7, none⟩ = some v ∧
    (Builtin.append_ #[43, 43] ty #[v, .slice (some ⟨w.heap.size, 0, none⟩) 1 1]).run Tryz.prog (w.alloc (.cells (pcells p).toArray 58)) = .ok v' w2 ∧ (∃ sp n c, v' = .slice sp n c) ∧ w2.cell? ⟨P.M, 7, none⟩ = some v ∧ w2.frozen? ⟨P.M, 7, none⟩ = false ∧
    Chg (fun b => lab b = 7) w w2 ∧ MiPost w lab P { x with mv := x.mv ++ [p] } (w2.setCell ⟨P.M, 7, none⟩ v') := by
  obtain ⟨v, hb, hm, h7⟩ := h.mi
  have ha : Below w.heap.size w (w.alloc (.cells (pcells p).toArray 58)) := (Below.refl _ _).alloc (Nat.le_refl _) _
  have hbk : Blk (w.alloc (.cells (pcells p).toArray 58)) w.heap.size (pcells p) 58 := Blk.new _ _ _
  have hm1 : OwnM (w.alloc (.cells (pcells p).toArray 58)) 0 v x.mv := hm.chg (Chg.of_below (F := fun _ => False) ha) (fun _ _ h => h)
  obtain ⟨v', w2, hr, ho, hg, hob⟩ := ownM_app hm1 (Nat.zero_le _) hl hp (adr := ⟨w.heap.size, 0, none⟩) (c := 1) (fun j u hj => by rw [Addr.add_mid, Nat.zero_add]; exact hbk.cell hj) ty
  have hc : Chg (fun b => lab b = 7) w w2 := ((Chg.refl _ w).alloc _).grown hg (fun k hk => .inl (h7 k hk))
  have hb2 : Blk w2 P.M (mcells P v x) 125 := hb.chg hc (by rw [h.lm]; omega)
  refine ⟨v, v', w2, own_slice3 hm, hb.cell rfl, (hb.alloc _).cell rfl, hr, own_slice3 ho, hb2.cell rfl, hb2.free 7, hc, h.moves hc (fun _ hb => hb) ho (fun q hq => ?_) (fun g hg2 => ?_)⟩
  · rcases List.mem_append.1 hq with hq | hq
    · exact h.ok q hq
    · simp at hq; subst hq; exact hp
  · rcases hob with e | e
    · left; rw [e] at hg2; exact h7 g hg2
    · right
      rw [e] at hg2
      simp only [Option.some.injEq, World.size_alloc] at hg2
      rcases ho.2 with ⟨e2, _⟩ | ⟨g', cap, cur, e2, _, hh, _⟩
      · rw [e2] at e; cases e
      · have hgg : g = g' := by rw [e2] at e; simp [Value.ownBlock] at e; omega
        exact ⟨by omega, by rw [hgg]; exact (Array.getElem?_eq_some_iff.1 hh).1⟩
structure MdS (g0 : Nat) (P : Pl) (p : Pt) (c : Cpy) (X : World) : Prop where
  bp : Blk X g0 (pcells p) 58
  bc : Blk X (g0 + 1) (plc c) 115
  m0 : X.cell? ⟨P.M, 0, none⟩ = some (.pointer (some ⟨P.D 0, 0, none⟩))
  m1 : X.cell? ⟨P.M, 1, none⟩ = some (.pointer (some ⟨P.D 1, 0, none⟩))
  m6 : X.cell? ⟨P.M, 6, none⟩ = some (.pointer (some ⟨P.K, 0, none⟩))
theorem MdS.of (h : MiAt X lab P x) {g0 : Nat} (hp : Blk X g0 (pcells p) 58) (hc : Blk X (g0 + 1) (plc c) 115) : MdS g0 P p c X := ⟨hp, hc, h.cells.1, h.cells.2.1, h.cells.2.2.2.2.2.2⟩
theorem Stp.blk {l' : Nat → Nat} (h : Stp w lab w' l') {g : Nat} {cs : List Value} {t : TypeId} (hb : Blk w g cs t) (hg : lab g = 0) : Blk w' g cs t := hb.chg h.chg (fun hf => hf.1 hg)
theorem Stp.lab0 {l' : Nat → Nat} (h : Stp w lab w' l') {g : Nat} (hs : g < w.heap.size) (hg : lab g = 0) : l' g = 0 := by
  rcases h.eq g hs with e | e
  · rw [e]; exact hg
  · exact e
theorem MiAt.lab0 (h : MiAt w lab P x) {g : Nat} (hg : w.heap.size ≤ g) : lab g = 0 := by
  by_cases e : lab g = 0
  · exact e
  · have := h.lt g e; omega
end
structure MvS (g0 : Nat) (P : Pl) (p : Pt) (v : Value) (X : World) : Prop where
  bp : Blk X g0 (pcells p) 58
  m7 : X.cell? ⟨P.M, 7, none⟩ = some v
theorem MvS.drew {g0 : Nat} {P : Pl} {p : Pt} {v : Value} {X : World} (h : MvS g0 P p v X) : MvS g0 P p v X.drew := ⟨h.bp.drew, h.m7⟩
set_option maxRecDepth 100000 in
set_option maxHeartbeats 4000000 in
theorem mendAt0_any (p : Pt) (hp : p.OK) (a : Nat) (ha : a < 65536) (b : Bs) (hb : b.length = 512) (g : Nat) (w : World) (hg : Blk w g (b.map V8) 5) (lab : Nat → Nat) (P : Pl) (x : Mi Dsk Sp) (n : Nat) (h : MiAt w lab P x) (hl : Lim x n) (hn : n < 800000) :
    Calls Tryz.prog 85 #[.pointer (some ⟨P.M, 0, none⟩), .agg (pcells p).toArray, .agg (plc (0, a)).toArray, .slice (some ⟨g, 0, none⟩) 512 512] w fun e w' => e = .returned (.tuple #[]) ∧ MiPost w lab P (mend1 kinD p b x (0, a)) w' := by
  have HP := Lib.hid hp; have HA := Lib.hid ha; have HL := Lib.hid hl; have HN := Lib.hid hn; have HBL := Lib.hid hb
  have hgs := gdS_start h p (0, a)
  have HZ : Hid ((Tryz.prog.info? 58).map (·.size) = some (pcells p).length) := Lib.hid (by rw [sizeP, pcells_length hp])
  have HM0 := Lib.hid hgs.mi
  have HL0 : Hid (lab w.heap.size = 0 ∧ lab (w.heap.size + 1) = 0 ∧ w.heap.size + 1 < ((w.alloc (.cells (pcells p).toArray 58)).alloc (.cells (plc (0, a)).toArray 115)).drew.heap.size) := Lib.hid ⟨h.lab0 (Nat.le_refl _), h.lab0 (by omega), hgs.drew.bc.lt⟩
  have HS : Hid (MdS w.heap.size P p (0, a) ((w.alloc (.cells (pcells p).toArray 58)).alloc (.cells (plc (0, a)).toArray 115)).drew) := Lib.hid (MdS.of hgs.drew.mi hgs.drew.bp hgs.drew.bc)
  have HBK := Lib.hid (hg.below hgs.drew.bel hg.lt)
  have HBE := Lib.hid hgs.drew.bel
  have HE0 : Hid (mend1 kinD p b x (0, a) = if (gd kinD (wrote1 kinD x b (0, a)).2 p (0, a)).isSome then { (wrote1 kinD x b (0, a)).2 with g := upk x.g 0 (x.g 0 + 1) } else { (wrote1 kinD x b (0, a)).2 with s := oneS x.s 0 a (fun y => { y with sick := true }), mv := addMv x.mv p }) := Lib.hid rfl
  obtain ⟨xe, hxe⟩ : ∃ y, mend1 kinD p b x (0, a) = y := ⟨_, rfl⟩
  rw [hxe]
  rw [hxe] at HE0
  clear hp ha hl hn hb hgs h hg hxe
  go_enter Tryz.func85, Tryz.ntmps85
  go_upto_region 1 with fail
  generalize ((w.alloc (.cells (pcells p).toArray 58)).alloc (.cells (plc (0, a)).toArray 115)) = W0 at HS HM0 HL0 HBK HBE ⊢
  refine gS (.take 0 (.take 1 (.take 2 (.take 3 (.take 4 (.take 5 (.take 6 (.take 7 (.take 8 (.take 9 (.step 10 (.nil)))))))))))) (MdS w.heap.size P p (0, a)) HS.out ?_
  refine gT (.pointer (some ⟨P.M, 0, none⟩)) ?_; try simp only [pS]
  refine gT (.pointer (some ⟨w.heap.size + 1, 0, none⟩)) ?_; try simp only [pS]
  refine wpG_take _ (.int .i64 0) rfl (by rfl) (fun X hX => q_ldI rfl rfl (hX.bc.cell rfl)) ?_; try simp only [pS]
  refine wpG_take _ (.pointer (some ⟨P.M, 0, none⟩)) rfl (by rfl) (fun X hX => ex_nc rfl rfl) ?_; try simp only [pS]
  refine gT (.pointer (some ⟨P.M, 0, none⟩)) ?_; try simp only [pS]
  refine gT (.pointer (some ⟨P.M, 0, none⟩)) ?_; try simp only [pS]
  refine wpG_take _ (.pointer (some ⟨P.D 0, 0, none⟩)) rfl (by rfl) (fun X hX => q_ldD rfl rfl (hX.m0)) ?_; try simp only [pS]
  refine gT (.pointer (some ⟨w.heap.size + 1, 1, none⟩)) ?_; try simp only [pS]
  refine wpG_take _ (.int .u16 (a : Int)) rfl (by rfl) (fun X hX => q_ldU rfl rfl (hX.bc.cell rfl)) ?_; try simp only [pS]
  refine gT (.slice (some ⟨g, 0, none⟩) 512 512) ?_; try simp only [pS]
  refine wpG_call _ rfl (by rfl) 49 #[.pointer (some ⟨P.D 0, 0, none⟩), .int .u16 (a : Int), .slice (some ⟨g, 0, none⟩) 512 512] (fun _ => by go_simp) (fun u w' => (∃ z, u = .int .i64 z) ∧ MiPost W0.drew lab P (wrote1 kinD x b (0, a)).2 w') ((d_write_any (P.D 0) P.Q _ (x.d 0) x.p a b (some ⟨g, 0, none⟩) 512 512 HA.out HBL.out W0.drew (Blk.srcB HBK.out) (HM0.out.drew.dk 0 (by omega)) HM0.out.drew.pw (by have := HL.out.c 0 (by omega); have := HN.out; omega)).mono fun e w' hh => by
    obtain ⟨e1, e2, e3, e4⟩ := hh
    have hm := HM0.out.drew.stepD (k := 0) (by omega) e2 e3 e4
    obtain ⟨l', h1, h2⟩ := id hm
    exact ⟨_, e1, MdS.of h1 (h2.blk HS.out.bp HL0.out.1) (h2.blk HS.out.bc HL0.out.2.1), ⟨_, rfl⟩, hm⟩) ?_
  rintro u W1 hs1 ⟨⟨z, rfl⟩, hm1⟩
  refine ⟨_, fun _ h => h, hs1, ?_⟩; try simp only [pS]
  refine wpG_nil ?_
  obtain ⟨x1, hx1⟩ : ∃ y, (wrote1 kinD x b (0, a)).2 = y := ⟨_, rfl⟩
  have HX1 : Hid (x1.g = x.g ∧ x1.s = x.s ∧ x1.mv = x.mv) := Lib.hid (by rw [← hx1]; exact ⟨rfl, rfl, rfl⟩)
  have HL1 : Hid (Lim x1 (n + 1)) := Lib.hid (by rw [← hx1]; exact HL.out.wrote1 b)
  rw [hx1] at hm1 HE0
  obtain ⟨l1, hmi1, hst1⟩ := hm1
  have HM1 := Lib.hid hmi1; have HT1 := Lib.hid hst1; have HS1 := Lib.hid hs1
  clear hx1 hmi1 hst1 hs1 HS HM0
  obtain ⟨t2, ht2⟩ : ∃ t, gd kinD x1 p (0, a) = t := ⟨_, rfl⟩
  have hgd := good_any p HP.out (0, a) (by simp) HA.out W1 l1 P x1 (n + 1) HM1.out HL1.out (by have := HN.out; omega)
  rw [ht2] at hgd HE0
  have HGD := Lib.hid hgd
  clear hgd ht2
  go_wp2_with (first | (refine q_valG (by rfl) (ex_ld (ty := 58) (cs := pcells p) rfl rfl (rng_all HS1.out.bp) Tryz.underlying58 rfl HZ.out) ?_) | (refine q_valG (by rfl) (ex_ld (ty := 115) (cs := plc (0, a)) rfl rfl (rng_all HS1.out.bc) Tryz.underlying115 rfl q_szPl) ?_) | fail)
  refine HGD.out.mono ?_
  rintro e W2 ⟨v2, rfl, -, hb2⟩
  have HM4 : Hid (MiAt W2 l1 P x1) := Lib.hid (HM1.out.below hb2)
  have HS4 : Hid (MdS w.heap.size P p (0, a) W2.drew) := Lib.hid (MdS.of (HM4.out.drew) ((HS1.out.bp.below hb2 HS1.out.bp.lt).drew) ((HS1.out.bc.below hb2 HS1.out.bc.lt).drew))
  have HL1a : Hid (l1 w.heap.size = 0 ∧ l1 (w.heap.size + 1) = 0 ∧ w.heap.size + 1 < W2.drew.heap.size) := Lib.hid (by
    have h1 := HL0.out
    exact ⟨HT1.out.lab0 (by omega) h1.1, HT1.out.lab0 (by omega) h1.2.1, HS4.out.bc.lt⟩)
  have HTT : Hid (Stp w lab W2.drew l1) := Lib.hid (((Stp.below HBE.out).trans HT1.out).trans ((Stp.below hb2).trans (Stp.below (Below.refl _ _).drew)))
  clear hb2 HGD HT1 HS1 HM1
  cases t2 with
  | some b2 =>
    have HE1 : Hid (xe = { x1 with g := upk x1.g 0 (x1.g 0 + 1) }) := Lib.hid (by rw [HX1.out.1]; exact HE0.out)
    clear HE0
    have HMe := Lib.hid (HM4.out.drew.mended (k := 0) (by omega))
    have HS5 : Hid (MdS w.heap.size P p (0, a) (W2.drew.setCell ⟨P.M, 3, none⟩ (.int .i64 ((x1.g 0 + 1 : Nat) : Int)))) := Lib.hid (by
      obtain ⟨l', h1, h2⟩ := HMe.out
      exact MdS.of h1 (h2.blk HS4.out.bp HL1a.out.1) (h2.blk HS4.out.bc HL1a.out.2.1))
    simp only [Option.isSome_some]
    go_upto_region 4 with fail
    refine gS (.take 0 (.take 1 (.take 2 (.take 3 (.take 4 (.take 5 (.take 6 (.take 9 (.take 10 (.step 7 (.take 8 (.take 11 (.take 12 (.step 13 (.nil))))))))))))))) (MdS w.heap.size P p (0, a)) HS4.out ?_
    refine gT (.pointer (some ⟨P.M, 0, none⟩)) ?_; try simp only [pS]
    refine gT (.pointer (some ⟨w.heap.size + 1, 0, none⟩)) ?_; try simp only [pS]
    refine wpG_take _ (.int .i64 0) rfl (by rfl) (fun X hX => q_ldI rfl rfl (hX.bc.cell rfl)) ?_; try simp only [pS]
    refine wpG_take _ (.pointer (some ⟨P.M, 0, none⟩)) rfl (by rfl) (fun X hX => ex_nc rfl rfl) ?_; try simp only [pS]
    refine gT (.pointer (some ⟨P.M, 2, none⟩)) ?_; try simp only [pS]
    refine gT (.pointer (some ⟨P.M, 2, none⟩)) ?_; try simp only [pS]
    refine gT (.pointer (some ⟨P.M, 3, none⟩)) ?_; try simp only [pS]
    refine wpG_take _ (.pointer (some ⟨P.M, 0, none⟩)) rfl (by rfl) (fun X hX => ex_nc rfl rfl) ?_; try simp only [pS]
    refine gT (.pointer (some ⟨P.M, 2, none⟩)) ?_; try simp only [pS]
    refine d_wpG_mk _ rfl (by rfl) (.int .i64 ((x1.g 0 : Nat) : Int)) _ (q_ldI rfl rfl (HM4.out.drew.cells.2.2.2.1)) _ HS4.out (fun _ h => h) ?_; try simp only [pS]
    refine wpG_take _ (.int .i64 ((x1.g 0 + 1 : Nat) : Int)) rfl (by rfl) (fun X hX => q_inc rfl rfl rfl (by have := HL1.out.g 0; have := HN.out; omega)) ?_; try simp only [pS]
    refine gT (.pointer (some ⟨P.M, 2, none⟩)) ?_; try simp only [pS]
    refine gT (.pointer (some ⟨P.M, 3, none⟩)) ?_; try simp only [pS]
    refine wpG_st _ rfl (by rfl) _ (q_stI rfl rfl rfl (HM4.out.drew.cells.2.2.2.1) (HM4.out.drew.free 3)) (MdS w.heap.size P p (0, a)) (HS5.out) (HS5.out) (fun _ h => h) ?_
    refine wpG_nil ?_
    go_wp2_with fail
    refine bodyPost_ret (results_none rfl _ _ _) rfl ?_
    refine ⟨rfl, ?_⟩
    rw [HE1.out]
    exact HTT.out.post HMe.out
  | none =>
    have HE1 : Hid (xe = { x1 with s := oneS x1.s 0 a (fun y => { y with sick := true }), mv := addMv x1.mv p }) := Lib.hid (by rw [HX1.out.2.1, HX1.out.2.2]; exact HE0.out)
    clear HE0
    simp only [Option.isSome_none]
    go_upto_region 5 with fail
    refine gS (.take 0 (.take 1 (.take 2 (.take 3 (.take 4 (.take 5 (.take 6 (.take 7 (.step 8 (.nil)))))))))) (MdS w.heap.size P p (0, a)) HS4.out ?_
    refine gT (.pointer (some ⟨P.M, 0, none⟩)) ?_; try simp only [pS]
    refine wpG_take _ (.pointer (some ⟨P.M, 0, none⟩)) rfl (by rfl) (fun X hX => ex_nc rfl rfl) ?_; try simp only [pS]
    refine gT (.pointer (some ⟨P.M, 6, none⟩)) ?_; try simp only [pS]
    refine wpG_take _ (.pointer (some ⟨P.K, 0, none⟩)) rfl (by rfl) (fun X hX => q_ldK rfl rfl (hX.m6)) ?_; try simp only [pS]
    refine gT (.pointer (some ⟨w.heap.size + 1, 0, none⟩)) ?_; try simp only [pS]
    refine wpG_take _ (.int .i64 0) rfl (by rfl) (fun X hX => q_ldI rfl rfl (hX.bc.cell rfl)) ?_; try simp only [pS]
    refine gT (.pointer (some ⟨w.heap.size + 1, 1, none⟩)) ?_; try simp only [pS]
    refine wpG_take _ (.int .u16 (a : Int)) rfl (by rfl) (fun X hX => q_ldU rfl rfl (hX.bc.cell rfl)) ?_; try simp only [pS]
    refine wpG_call _ rfl (by rfl) 110 #[.pointer (some ⟨P.K, 0, none⟩), .int .i64 0, .int .u16 (a : Int)] (fun _ => by go_simp) (fun u w' => (∃ z, u = .int .i64 z) ∧ MiPost W2.drew l1 P { x1 with s := oneS x1.s 0 a (fun y => { y with sick := true }) } w') ((sick_any 0 P.K a P.B x1.s W2.drew HM4.out.drew.sp (by omega) HA.out).mono fun e w' ⟨e1, e2, e3⟩ => by
      have hm := HM4.out.drew.space e2 e3
      obtain ⟨l', h1, h2⟩ := id hm
      exact ⟨_, e1, MdS.of h1 (h2.blk HS4.out.bp HL1a.out.1) (h2.blk HS4.out.bc HL1a.out.2.1), ⟨_, rfl⟩, hm⟩) ?_
    rintro u W3 hs3 ⟨⟨z3, rfl⟩, hm3⟩
    refine ⟨_, fun _ h => h, hs3, ?_⟩; try simp only [pS]
    refine wpG_nil ?_
    obtain ⟨l3, hm3, ht3⟩ := hm3
    have HM5 := Lib.hid hm3
    have HTT3 := Lib.hid (HTT.out.trans ht3)
    have HL3 : Hid (l3 w.heap.size = 0 ∧ l3 (w.heap.size + 1) = 0) := Lib.hid ⟨ht3.lab0 (by have := HL1a.out; omega) HL1a.out.1, ht3.lab0 (HL1a.out.2.2) HL1a.out.2.1⟩
    obtain ⟨v3, hb3, hown3, -⟩ := id hm3.mi
    have HMV : Hid (SrcM W3 v3 x1.mv) := Lib.hid (OwnM.src hown3 hm3.ok)
    have HS3 : Hid (MvS w.heap.size P p v3 W3) := Lib.hid ⟨hs3.bp, hb3.cell rfl⟩
    obtain ⟨sp3, n3, c3, rfl⟩ := own_slice3 hown3
    clear hm3 ht3 hs3 hb3 hown3 HTT HM4 HS4
    go_upto_region 6 with fail
    refine gS (.take 0 (.take 1 (.take 2 (.take 3 (.take 4 (.step 5 (.take 6 (.nil)))))))) (MvS w.heap.size P p (.slice sp3 n3 c3)) HS3.out.drew ?_
    refine gT (.pointer (some ⟨P.M, 0, none⟩)) ?_; try simp only [pS]
    refine wpG_take _ (.pointer (some ⟨P.M, 0, none⟩)) rfl (by rfl) (fun X hX => ex_nc rfl rfl) ?_; try simp only [pS]
    refine gT (.pointer (some ⟨P.M, 7, none⟩)) ?_; try simp only [pS]
    refine wpG_take _ ((.slice sp3 n3 c3)) rfl (by rfl) (fun X hX => q_ldS rfl rfl (hX.2)) ?_; try simp only [pS]
    refine wpG_take _ (.agg (pcells p).toArray) rfl (by rfl) (fun X hX => ex_ld (ty := 58) (cs := pcells p) rfl rfl (rng_all hX.1) Tryz.underlying58 rfl HZ.out) ?_; try simp only [pS]
    refine wpG_call _ rfl (by rfl) 111 #[(.slice sp3 n3 c3), .agg (pcells p).toArray] (fun _ => by go_simp) (fun u w' => u = .bool (x1.mv.any (fun q => eqP p q)) ∧ Below W3.drew.heap.size W3.drew w') ((contains_any x1.mv (.slice sp3 n3 c3) p HP.out HM5.out.ok (by have := HL1.out.mv; have := HN.out; omega) W3.drew (HMV.out.grown (Below.refl _ _).drew)).mono fun e w' ⟨e1, e2⟩ => ⟨_, e1, ⟨HS3.out.drew.1.below e2 HS3.out.drew.1.lt, (e2.cell (p := ⟨P.M, 7, none⟩) (HM5.out.lt _ (by rw [HM5.out.lm]; omega))).trans HS3.out.drew.2⟩, rfl, e2⟩) ?_
    rintro u W4 hs4 ⟨rfl, hb4⟩
    refine ⟨_, fun _ h => h, hs4, ?_⟩; try simp only [pS]
    refine gT (.bool (!(x1.mv.any (fun q => eqP p q)))) ?_; try simp only [pS]
    refine wpG_nil ?_
    have HM6 : Hid (MiAt W4 l3 P { x1 with s := oneS x1.s 0 a (fun y => { y with sick := true }) }) := Lib.hid (HM5.out.drew.below hb4)
    have HTT4 : Hid (Stp w lab W4.drew l3) := Lib.hid (HTT3.out.trans ((Stp.below (Below.refl _ _).drew).trans ((Stp.below hb4).trans (Stp.below (Below.refl _ _).drew))))
    have HS7 : Hid (Blk W4.drew w.heap.size (pcells p) 58) := Lib.hid hs4.1.drew
    have HTT5 : Hid (Stp w lab W4 l3) := Lib.hid (HTT3.out.trans ((Stp.below (Below.refl _ _).drew).trans (Stp.below hb4)))
    clear hs4 hb4 HS3 HMV HM5 HTT3
    cases hany : x1.mv.any (fun q => eqP p q) with
    | true =>
      have HE2 : Hid (xe = { x1 with s := oneS x1.s 0 a (fun y => { y with sick := true }) }) := Lib.hid (by rw [HE1.out]; unfold addMv; rw [if_pos hany])
      go_wp2_with fail
      go_end0
      refine ⟨rfl, ?_⟩
      rw [HE2.out]
      exact ⟨l3, HM6.out, HTT5.out⟩
    | false =>
      have HE2 : Hid (xe = { x1 with s := oneS x1.s 0 a (fun y => { y with sick := true }), mv := x1.mv ++ [p] }) := Lib.hid (by rw [HE1.out]; unfold addMv; rw [if_neg (by rw [hany]; simp)])
      obtain ⟨v7, v8, W8, ⟨sp7, n7, c7, rfl⟩, hc7, hc7a, hr8, ⟨sp8, n8, c8, rfl⟩, hc8, hf8, hch8, hpost8⟩ := HM6.out.drew.push HP.out (by show x1.mv.length < 1000000; have := HL1.out.mv; have := HN.out; omega) 43
      have HV7 := Lib.hid (And.intro hc7 hc7a)
      have HR8 := Lib.hid hr8
      have HF8 := Lib.hid (And.intro hc8 hf8)
      have HS7a : Hid (Blk (W4.drew.alloc (.cells (pcells p).toArray 58)) w.heap.size (pcells p) 58) := Lib.hid (HS7.out.alloc _)
      have HS8 : Hid (Blk W8 w.heap.size (pcells p) 58) := Lib.hid (HS7.out.chg hch8 (by rw [HL3.out.1]; omega))
      have HE8 : Hid (MiPost w lab P xe (W8.setCell ⟨P.M, 7, none⟩ (.slice sp8 n8 c8))) := Lib.hid (by rw [HE2.out]; exact HTT4.out.post hpost8)
      have HS9 : Hid (Blk (W8.setCell ⟨P.M, 7, none⟩ (.slice sp8 n8 c8)) w.heap.size (pcells p) 58) := Lib.hid (HS8.out.other (by show w.heap.size ≠ P.M; intro e; have := HM6.out.lm; rw [← e, HL3.out.1] at this; omega) _)
      clear hc7 hc7a hr8 hc8 hf8 hch8 hpost8 hany
      go_upto_region 7 with fail
      refine gS (.take 0 (.take 1 (.take 2 (.take 3 (.take 5 (.fork 4 (.step 6 (.step 7 (.take 8 (.take 9 (.step 10 (.nil)))))) 6 (.step 4 (.step 7 (.take 8 (.take 9 (.step 10 (.nil)))))))))))) (fun X => Blk X w.heap.size (pcells p) 58) HS7.out ?_
      refine gT (.pointer (some ⟨P.M, 0, none⟩)) ?_; try simp only [pS]
      refine gT (.pointer (some ⟨P.M, 0, none⟩)) ?_; try simp only [pS]
      refine wpG_take _ (.pointer (some ⟨P.M, 0, none⟩)) rfl (by rfl) (fun X hX => ex_nc rfl rfl) ?_; try simp only [pS]
      refine gT (.pointer (some ⟨P.M, 7, none⟩)) ?_; try simp only [pS]
      refine wpG_take _ (.agg (pcells p).toArray) rfl (by rfl) (fun X hX => ex_ld (ty := 58) (cs := pcells p) rfl rfl (rng_all hX) Tryz.underlying58 rfl HZ.out) ?_; try simp only [pS]
      refine wpG_fork (d_wpG_mk _ rfl (by rfl) (.slice sp7 n7 c7) _ (q_ldS rfl rfl HV7.out.1) _ HS7.out (fun _ h => h) ?_) (d_wpG_mk _ rfl (by rfl) _ _ (q_one p rfl rfl HP.out) _ HS7a.out (fun _ h => h) ?_)
      · (try simp only [pS])
        refine d_wpG_mk _ rfl (by rfl) _ _ (q_one p rfl rfl HP.out) _ HS7a.out (fun _ h => h) ?_; try simp only [pS]
        refine d_wpG_mk _ rfl (by rfl) (.slice sp8 n8 c8) W8 (q_appM rfl rfl rfl HR8.out) _ HS8.out (fun _ h => h) ?_; try simp only [pS]
        refine wpG_take _ (.pointer (some ⟨P.M, 0, none⟩)) rfl (by rfl) (fun X hX => ex_nc rfl rfl) ?_; try simp only [pS]
        refine gT (.pointer (some ⟨P.M, 7, none⟩)) ?_; try simp only [pS]
        refine wpG_st _ rfl (by rfl) _ (q_stS rfl rfl rfl HF8.out.1 HF8.out.2) _ HS9.out HS9.out (fun _ h => h) ?_
        refine wpG_nil ?_
        go_wp2_with fail
        go_end0
        exact ⟨rfl, HE8.out⟩
      · (try simp only [pS])
        refine d_wpG_mk _ rfl (by rfl) (.slice sp7 n7 c7) _ (q_ldS rfl rfl HV7.out.2) _ HS7a.out (fun _ h => h) ?_; try simp only [pS]
        refine d_wpG_mk _ rfl (by rfl) (.slice sp8 n8 c8) W8 (q_appM rfl rfl rfl HR8.out) _ HS8.out (fun _ h => h) ?_; try simp only [pS]
        refine wpG_take _ (.pointer (some ⟨P.M, 0, none⟩)) rfl (by rfl) (fun X hX => ex_nc rfl rfl) ?_; try simp only [pS]
        refine gT (.pointer (some ⟨P.M, 7, none⟩)) ?_; try simp only [pS]
        refine wpG_st _ rfl (by rfl) _ (q_stS rfl rfl rfl HF8.out.1 HF8.out.2) _ HS9.out HS9.out (fun _ h => h) ?_
        refine wpG_nil ?_
        go_wp2_with fail
        go_end0
        exact ⟨rfl, HE8.out⟩
set_option maxRecDepth 100000 in
set_option maxHeartbeats 4000000 in
theorem mendAt1_any (p : Pt) (hp : p.OK) (a : Nat) (ha : a < 65536) (b : Bs) (hb : b.length = 512) (g : Nat) (w : World) (hg : Blk w g (b.map V8) 5) (lab : Nat → Nat) (P : Pl) (x : Mi Dsk Sp) (n : Nat) (h : MiAt w lab P x) (hl : Lim x n) (hn : n < 800000) :
    Calls Tryz.prog 85 #[.pointer (some ⟨P.M, 0, none⟩), .agg (pcells p).toArray, .agg (plc (1, a)).toArray, .slice (some ⟨g, 0, none⟩) 512 512] w fun e w' => e = .returned (.tuple #[]) ∧ MiPost w lab P (mend1 kinD p b x (1, a)) w' := by
  have HP := Lib.hid hp; have HA := Lib.hid ha; have HL := Lib.hid hl; have HN := Lib.hid hn; have HBL := Lib.hid hb
  have hgs := gdS_start h p (1, a)
  have HZ : Hid ((Tryz.prog.info? 58).map (·.size) = some (pcells p).length) := Lib.hid (by rw [sizeP, pcells_length hp])
  have HM0 := Lib.hid hgs.mi
  have HL0 : Hid (lab w.heap.size = 0 ∧ lab (w.heap.size + 1) = 0 ∧ w.heap.size + 1 < ((w.alloc (.cells (pcells p).toArray 58)).alloc (.cells (plc (1, a)).toArray 115)).drew.heap.size) := Lib.hid ⟨h.lab0 (Nat.le_refl _), h.lab0 (by omega), hgs.drew.bc.lt⟩
  have HS : Hid (MdS w.heap.size P p (1, a) ((w.alloc (.cells (pcells p).toArray 58)).alloc (.cells (plc (1, a)).toArray 115)).drew) := Lib.hid (MdS.of hgs.drew.mi hgs.drew.bp hgs.drew.bc)
  have HBK := Lib.hid (hg.below hgs.drew.bel hg.lt)
  have HBE := Lib.hid hgs.drew.bel
  have HE0 : Hid (mend1 kinD p b x (1, a) = if (gd kinD (wrote1 kinD x b (1, a)).2 p (1, a)).isSome then { (wrote1 kinD x b (1, a)).2 with g := upk x.g 1 (x.g 1 + 1) } else { (wrote1 kinD x b (1, a)).2 with s := oneS x.s 1 a (fun y => { y with sick := true }), mv := addMv x.mv p }) := Lib.hid rfl
  obtain ⟨xe, hxe⟩ : ∃ y, mend1 kinD p b x (1, a) = y := ⟨_, rfl⟩
  rw [hxe]
  rw [hxe] at HE0
  clear hp ha hl hn hb hgs h hg hxe
  go_enter Tryz.func85, Tryz.ntmps85
  go_upto_region 1 with fail
  generalize ((w.alloc (.cells (pcells p).toArray 58)).alloc (.cells (plc (1, a)).toArray 115)) = W0 at HS HM0 HL0 HBK HBE ⊢
  refine gS (.take 0 (.take 1 (.take 2 (.take 3 (.take 4 (.take 5 (.take 6 (.take 7 (.take 8 (.take 9 (.step 10 (.nil)))))))))))) (MdS w.heap.size P p (1, a)) HS.out ?_
  refine gT (.pointer (some ⟨P.M, 0, none⟩)) ?_; try simp only [pS]
  refine gT (.pointer (some ⟨w.heap.size + 1, 0, none⟩)) ?_; try simp only [pS]
  refine wpG_take _ (.int .i64 1) rfl (by rfl) (fun X hX => q_ldI rfl rfl (hX.bc.cell rfl)) ?_; try simp only [pS]
  refine wpG_take _ (.pointer (some ⟨P.M, 0, none⟩)) rfl (by rfl) (fun X hX => ex_nc rfl rfl) ?_; try simp only [pS]
  refine gT (.pointer (some ⟨P.M, 0, none⟩)) ?_; try simp only [pS]
  refine gT (.pointer (some ⟨P.M, 1, none⟩)) ?_; try simp only [pS]
  refine wpG_take _ (.pointer (some ⟨P.D 1, 0, none⟩)) rfl (by rfl) (fun X hX => q_ldD rfl rfl (hX.m1)) ?_; try simp only [pS]
  refine gT (.pointer (some ⟨w.heap.size + 1, 1, none⟩)) ?_; try simp only [pS]
  refine wpG_take _ (.int .u16 (a : Int)) rfl (by rfl) (fun X hX => q_ldU rfl rfl (hX.bc.cell rfl)) ?_; try simp only [pS]
  refine gT (.slice (some ⟨g, 0, none⟩) 512 512) ?_; try simp only [pS]
  refine wpG_call _ rfl (by rfl) 49 #[.pointer (some ⟨P.D 1, 0, none⟩), .int .u16 (a : Int), .slice (some ⟨g, 0, none⟩) 512 512] (fun _ => by go_simp) (fun u w' => (∃ z, u = .int .i64 z) ∧ MiPost W0.drew lab P (wrote1 kinD x b (1, a)).2 w') ((d_write_any (P.D 1) P.Q _ (x.d 1) x.p a b (some ⟨g, 0, none⟩) 512 512 HA.out HBL.out W0.drew (Blk.srcB HBK.out) (HM0.out.drew.dk 1 (by omega)) HM0.out.drew.pw (by have := HL.out.c 1 (by omega); have := HN.out; omega)).mono fun e w' hh => by
    obtain ⟨e1, e2, e3, e4⟩ := hh
    have hm := HM0.out.drew.stepD (k := 1) (by omega) e2 e3 e4
    obtain ⟨l', h1, h2⟩ := id hm
    exact ⟨_, e1, MdS.of h1 (h2.blk HS.out.bp HL0.out.1) (h2.blk HS.out.bc HL0.out.2.1), ⟨_, rfl⟩, hm⟩) ?_
  rintro u W1 hs1 ⟨⟨z, rfl⟩, hm1⟩
  refine ⟨_, fun _ h => h, hs1, ?_⟩; try simp only [pS]
  refine wpG_nil ?_
  obtain ⟨x1, hx1⟩ : ∃ y, (wrote1 kinD x b (1, a)).2 = y := ⟨_, rfl⟩
  have HX1 : Hid (x1.g = x.g ∧ x1.s = x.s ∧ x1.mv = x.mv) := Lib.hid (by rw [← hx1]; exact ⟨rfl, rfl, rfl⟩)
  have HL1 : Hid (Lim x1 (n + 1)) := Lib.hid (by rw [← hx1]; exact HL.out.wrote1 b)
  rw [hx1] at hm1 HE0
  obtain ⟨l1, hmi1, hst1⟩ := hm1
  have HM1 := Lib.hid hmi1; have HT1 := Lib.hid hst1; have HS1 := Lib.hid hs1
  clear hx1 hmi1 hst1 hs1 HS HM0
  obtain ⟨t2, ht2⟩ : ∃ t, gd kinD x1 p (1, a) = t := ⟨_, rfl⟩
  have hgd := good_any p HP.out (1, a) (by simp) HA.out W1 l1 P x1 (n + 1) HM1.out HL1.out (by have := HN.out; omega)
  rw [ht2] at hgd HE0
  have HGD := Lib.hid hgd
  clear hgd ht2
  go_wp2_with (first | (refine q_valG (by rfl) (ex_ld (ty := 58) (cs := pcells p) rfl rfl (rng_all HS1.out.bp) Tryz.underlying58 rfl HZ.out) ?_) | (refine q_valG (by rfl) (ex_ld (ty := 115) (cs := plc (1, a)) rfl rfl (rng_all HS1.out.bc) Tryz.underlying115 rfl q_szPl) ?_) | fail)
  refine HGD.out.mono ?_
  rintro e W2 ⟨v2, rfl, -, hb2⟩
  have HM4 : Hid (MiAt W2 l1 P x1) := Lib.hid (HM1.out.below hb2)
  have HS4 : Hid (MdS w.heap.size P p (1, a) W2.drew) := Lib.hid (MdS.of (HM4.out.drew) ((HS1.out.bp.below hb2 HS1.out.bp.lt).drew) ((HS1.out.bc.below hb2 HS1.out.bc.lt).drew))
  have HL1a : Hid (l1 w.heap.size = 0 ∧ l1 (w.heap.size + 1) = 0 ∧ w.heap.size + 1 < W2.drew.heap.size) := Lib.hid (by
    have h1 := HL0.out
    exact ⟨HT1.out.lab0 (by omega) h1.1, HT1.out.lab0 (by omega) h1.2.1, HS4.out.bc.lt⟩)
  have HTT : Hid (Stp w lab W2.drew l1) := Lib.hid (((Stp.below HBE.out).trans HT1.out).trans ((Stp.below hb2).trans (Stp.below (Below.refl _ _).drew)))
  clear hb2 HGD HT1 HS1 HM1
  cases t2 with
  | some b2 =>
    have HE1 : Hid (xe = { x1 with g := upk x1.g 1 (x1.g 1 + 1) }) := Lib.hid (by rw [HX1.out.1]; exact HE0.out)
    clear HE0
    have HMe := Lib.hid (HM4.out.drew.mended (k := 1) (by omega))
    have HS5 : Hid (MdS w.heap.size P p (1, a) (W2.drew.setCell ⟨P.M, 5, none⟩ (.int .i64 ((x1.g 1 + 1 : Nat) : Int)))) := Lib.hid (by
      obtain ⟨l', h1, h2⟩ := HMe.out
      exact MdS.of h1 (h2.blk HS4.out.bp HL1a.out.1) (h2.blk HS4.out.bc HL1a.out.2.1))
    simp only [Option.isSome_some]
    go_upto_region 4 with fail
    refine gS (.take 0 (.take 1 (.take 2 (.take 3 (.take 4 (.take 5 (.take 6 (.take 9 (.take 10 (.step 7 (.take 8 (.take 11 (.take 12 (.step 13 (.nil))))))))))))))) (MdS w.heap.size P p (1, a)) HS4.out ?_
    refine gT (.pointer (some ⟨P.M, 0, none⟩)) ?_; try simp only [pS]
    refine gT (.pointer (some ⟨w.heap.size + 1, 0, none⟩)) ?_; try simp only [pS]
    refine wpG_take _ (.int .i64 1) rfl (by rfl) (fun X hX => q_ldI rfl rfl (hX.bc.cell rfl)) ?_; try simp only [pS]
    refine wpG_take _ (.pointer (some ⟨P.M, 0, none⟩)) rfl (by rfl) (fun X hX => ex_nc rfl rfl) ?_; try simp only [pS]
    refine gT (.pointer (some ⟨P.M, 2, none⟩)) ?_; try simp only [pS]
    refine gT (.pointer (some ⟨P.M, 4, none⟩)) ?_; try simp only [pS]
    refine gT (.pointer (some ⟨P.M, 5, none⟩)) ?_; try simp only [pS]
    refine wpG_take _ (.pointer (some ⟨P.M, 0, none⟩)) rfl (by rfl) (fun X hX => ex_nc rfl rfl) ?_; try simp only [pS]
    refine gT (.pointer (some ⟨P.M, 2, none⟩)) ?_; try simp only [pS]
    refine d_wpG_mk _ rfl (by rfl) (.int .i64 ((x1.g 1 : Nat) : Int)) _ (q_ldI rfl rfl (HM4.out.drew.cells.2.2.2.2.2.1)) _ HS4.out (fun _ h => h) ?_; try simp only [pS]
    refine wpG_take _ (.int .i64 ((x1.g 1 + 1 : Nat) : Int)) rfl (by rfl) (fun X hX => q_inc rfl rfl rfl (by have := HL1.out.g 1; have := HN.out; omega)) ?_; try simp only [pS]
    refine gT (.pointer (some ⟨P.M, 4, none⟩)) ?_; try simp only [pS]
    refine gT (.pointer (some ⟨P.M, 5, none⟩)) ?_; try simp only [pS]
    refine wpG_st _ rfl (by rfl) _ (q_stI rfl rfl rfl (HM4.out.drew.cells.2.2.2.2.2.1) (HM4.out.drew.free 5)) (MdS w.heap.size P p (1, a)) (HS5.out) (HS5.out) (fun _ h => h) ?_
    refine wpG_nil ?_
    go_wp2_with fail
    refine bodyPost_ret (results_none rfl _ _ _) rfl ?_
    refine ⟨rfl, ?_⟩
    rw [HE1.out]
    exact HTT.out.post HMe.out
  | none =>
    have HE1 : Hid (xe = { x1 with s := oneS x1.s 1 a (fun y => { y with sick := true }), mv := addMv x1.mv p }) := Lib.hid (by rw [HX1.out.2.1, HX1.out.2.2]; exact HE0.out)
    clear HE0
    simp only [Option.isSome_none]
    go_upto_region 5 with fail
    refine gS (.take 0 (.take 1 (.take 2 (.take 3 (.take 4 (.take 5 (.take 6 (.take 7 (.step 8 (.nil)))))))))) (MdS w.heap.size P p (1, a)) HS4.out ?_
    refine gT (.pointer (some ⟨P.M, 0, none⟩)) ?_; try simp only [pS]
    refine wpG_take _ (.pointer (some ⟨P.M, 0, none⟩)) rfl (by rfl) (fun X hX => ex_nc rfl rfl) ?_; try simp only [pS]
    refine gT (.pointer (some ⟨P.M, 6, none⟩)) ?_; try simp only [pS]
    refine wpG_take _ (.pointer (some ⟨P.K, 0, none⟩)) rfl (by rfl) (fun X hX => q_ldK rfl rfl (hX.m6)) ?_; try simp only [pS]
    refine gT (.pointer (some ⟨w.heap.size + 1, 0, none⟩)) ?_; try simp only [pS]
    refine wpG_take _ (.int .i64 1) rfl (by rfl) (fun X hX => q_ldI rfl rfl (hX.bc.cell rfl)) ?_; try simp only [pS]
    refine gT (.pointer (some ⟨w.heap.size + 1, 1, none⟩)) ?_; try simp only [pS]
    refine wpG_take _ (.int .u16 (a : Int)) rfl (by rfl) (fun X hX => q_ldU rfl rfl (hX.bc.cell rfl)) ?_; try simp only [pS]
    refine wpG_call _ rfl (by rfl) 110 #[.pointer (some ⟨P.K, 0, none⟩), .int .i64 1, .int .u16 (a : Int)] (fun _ => by go_simp) (fun u w' => (∃ z, u = .int .i64 z) ∧ MiPost W2.drew l1 P { x1 with s := oneS x1.s 1 a (fun y => { y with sick := true }) } w') ((sick_any 1 P.K a P.B x1.s W2.drew HM4.out.drew.sp (by omega) HA.out).mono fun e w' ⟨e1, e2, e3⟩ => by
      have hm := HM4.out.drew.space e2 e3
      obtain ⟨l', h1, h2⟩ := id hm
      exact ⟨_, e1, MdS.of h1 (h2.blk HS4.out.bp HL1a.out.1) (h2.blk HS4.out.bc HL1a.out.2.1), ⟨_, rfl⟩, hm⟩) ?_
    rintro u W3 hs3 ⟨⟨z3, rfl⟩, hm3⟩
    refine ⟨_, fun _ h => h, hs3, ?_⟩; try simp only [pS]
    refine wpG_nil ?_
    obtain ⟨l3, hm3, ht3⟩ := hm3
    have HM5 := Lib.hid hm3
    have HTT3 := Lib.hid (HTT.out.trans ht3)
    have HL3 : Hid (l3 w.heap.size = 0 ∧ l3 (w.heap.size + 1) = 0) := Lib.hid ⟨ht3.lab0 (by have := HL1a.out; omega) HL1a.out.1, ht3.lab0 (HL1a.out.2.2) HL1a.out.2.1⟩
    obtain ⟨v3, hb3, hown3, -⟩ := id hm3.mi
    have HMV : Hid (SrcM W3 v3 x1.mv) := Lib.hid (OwnM.src hown3 hm3.ok)
    have HS3 : Hid (MvS w.heap.size P p v3 W3) := Lib.hid ⟨hs3.bp, hb3.cell rfl⟩
    obtain ⟨sp3, n3, c3, rfl⟩ := own_slice3 hown3
    clear hm3 ht3 hs3 hb3 hown3 HTT HM4 HS4
    go_upto_region 6 with fail
    refine gS (.take 0 (.take 1 (.take 2 (.take 3 (.take 4 (.step 5 (.take 6 (.nil)))))))) (MvS w.heap.size P p (.slice sp3 n3 c3)) HS3.out.drew ?_
    refine gT (.pointer (some ⟨P.M, 0, none⟩)) ?_; try simp only [pS]
    refine wpG_take _ (.pointer (some ⟨P.M, 0, none⟩)) rfl (by rfl) (fun X hX => ex_nc rfl rfl) ?_; try simp only [pS]
    refine gT (.pointer (some ⟨P.M, 7, none⟩)) ?_; try simp only [pS]
    refine wpG_take _ ((.slice sp3 n3 c3)) rfl (by rfl) (fun X hX => q_ldS rfl rfl (hX.2)) ?_; try simp only [pS]
    refine wpG_take _ (.agg (pcells p).toArray) rfl (by rfl) (fun X hX => ex_ld (ty := 58) (cs := pcells p) rfl rfl (rng_all hX.1) Tryz.underlying58 rfl HZ.out) ?_; try simp only [pS]
    refine wpG_call _ rfl (by rfl) 111 #[(.slice sp3 n3 c3), .agg (pcells p).toArray] (fun _ => by go_simp) (fun u w' => u = .bool (x1.mv.any (fun q => eqP p q)) ∧ Below W3.drew.heap.size W3.drew w') ((contains_any x1.mv (.slice sp3 n3 c3) p HP.out HM5.out.ok (by have := HL1.out.mv; have := HN.out; omega) W3.drew (HMV.out.grown (Below.refl _ _).drew)).mono fun e w' ⟨e1, e2⟩ => ⟨_, e1, ⟨HS3.out.drew.1.below e2 HS3.out.drew.1.lt, (e2.cell (p := ⟨P.M, 7, none⟩) (HM5.out.lt _ (by rw [HM5.out.lm]; omega))).trans HS3.out.drew.2⟩, rfl, e2⟩) ?_
    rintro u W4 hs4 ⟨rfl, hb4⟩
    refine ⟨_, fun _ h => h, hs4, ?_⟩; try simp only [pS]
    refine gT (.bool (!(x1.mv.any (fun q => eqP p q)))) ?_; try simp only [pS]
    refine wpG_nil ?_
    have HM6 : Hid (MiAt W4 l3 P { x1 with s := oneS x1.s 1 a (fun y => { y with sick := true }) }) := Lib.hid (HM5.out.drew.below hb4)
    have HTT4 : Hid (Stp w lab W4.drew l3) := Lib.hid (HTT3.out.trans ((Stp.below (Below.refl _ _).drew).trans ((Stp.below hb4).trans (Stp.below (Below.refl _ _).drew))))
    have HS7 : Hid (Blk W4.drew w.heap.size (pcells p) 58) := Lib.hid hs4.1.drew
    have HTT5 : Hid (Stp w lab W4 l3) := Lib.hid (HTT3.out.trans ((Stp.below (Below.refl _ _).drew).trans (Stp.below hb4)))
    clear hs4 hb4 HS3 HMV HM5 HTT3
    cases hany : x1.mv.any (fun q => eqP p q) with
    | true =>
      have HE2 : Hid (xe = { x1 with s := oneS x1.s 1 a (fun y => { y with sick := true }) }) := Lib.hid (by rw [HE1.out]; unfold addMv; rw [if_pos hany])
      go_wp2_with fail
      go_end0
      refine ⟨rfl, ?_⟩
      rw [HE2.out]
      exact ⟨l3, HM6.out, HTT5.out⟩
    | false =>
      have HE2 : Hid (xe = { x1 with s := oneS x1.s 1 a (fun y => { y with sick := true }), mv := x1.mv ++ [p] }) := Lib.hid (by rw [HE1.out]; unfold addMv; rw [if_neg (by rw [hany]; simp)])
      obtain ⟨v7, v8, W8, ⟨sp7, n7, c7, rfl⟩, hc7, hc7a, hr8, ⟨sp8, n8, c8, rfl⟩, hc8, hf8, hch8, hpost8⟩ := HM6.out.drew.push HP.out (by show x1.mv.length < 1000000; have := HL1.out.mv; have := HN.out; omega) 43
      have HV7 := Lib.hid (And.intro hc7 hc7a)
      have HR8 := Lib.hid hr8
      have HF8 := Lib.hid (And.intro hc8 hf8)
      have HS7a : Hid (Blk (W4.drew.alloc (.cells (pcells p).toArray 58)) w.heap.size (pcells p) 58) := Lib.hid (HS7.out.alloc _)
      have HS8 : Hid (Blk W8 w.heap.size (pcells p) 58) := Lib.hid (HS7.out.chg hch8 (by rw [HL3.out.1]; omega))
      have HE8 : Hid (MiPost w lab P xe (W8.setCell ⟨P.M, 7, none⟩ (.slice sp8 n8 c8))) := Lib.hid (by rw [HE2.out]; exact HTT4.out.post hpost8)
      have HS9 : Hid (Blk (W8.setCell ⟨P.M, 7, none⟩ (.slice sp8 n8 c8)) w.heap.size (pcells p) 58) := Lib.hid (HS8.out.other (by show w.heap.size ≠ P.M; intro e; have := HM6.out.lm; rw [← e, HL3.out.1] at this; omega) _)
      clear hc7 hc7a hr8 hc8 hf8 hch8 hpost8 hany
      go_upto_region 7 with fail
      refine gS (.take 0 (.take 1 (.take 2 (.take 3 (.take 5 (.fork 4 (.step 6 (.step 7 (.take 8 (.take 9 (.step 10 (.nil)))))) 6 (.step 4 (.step 7 (.take 8 (.take 9 (.step 10 (.nil)))))))))))) (fun X => Blk X w.heap.size (pcells p) 58) HS7.out ?_
      refine gT (.pointer (some ⟨P.M, 0, none⟩)) ?_; try simp only [pS]
      refine gT (.pointer (some ⟨P.M, 0, none⟩)) ?_; try simp only [pS]
      refine wpG_take _ (.pointer (some ⟨P.M, 0, none⟩)) rfl (by rfl) (fun X hX => ex_nc rfl rfl) ?_; try simp only [pS]
      refine gT (.pointer (some ⟨P.M, 7, none⟩)) ?_; try simp only [pS]
      refine wpG_take _ (.agg (pcells p).toArray) rfl (by rfl) (fun X hX => ex_ld (ty := 58) (cs := pcells p) rfl rfl (rng_all hX) Tryz.underlying58 rfl HZ.out) ?_; try simp only [pS]
      refine wpG_fork (d_wpG_mk _ rfl (by rfl) (.slice sp7 n7 c7) _ (q_ldS rfl rfl HV7.out.1) _ HS7.out (fun _ h => h) ?_) (d_wpG_mk _ rfl (by rfl) _ _ (q_one p rfl rfl HP.out) _ HS7a.out (fun _ h => h) ?_)
      · (try simp only [pS])
        refine d_wpG_mk _ rfl (by rfl) _ _ (q_one p rfl rfl HP.out) _ HS7a.out (fun _ h => h) ?_; try simp only [pS]
        refine d_wpG_mk _ rfl (by rfl) (.slice sp8 n8 c8) W8 (q_appM rfl rfl rfl HR8.out) _ HS8.out (fun _ h => h) ?_; try simp only [pS]
        refine wpG_take _ (.pointer (some ⟨P.M, 0, none⟩)) rfl (by rfl) (fun X hX => ex_nc rfl rfl) ?_; try simp only [pS]
        refine gT (.pointer (some ⟨P.M, 7, none⟩)) ?_; try simp only [pS]
        refine wpG_st _ rfl (by rfl) _ (q_stS rfl rfl rfl HF8.out.1 HF8.out.2) _ HS9.out HS9.out (fun _ h => h) ?_
        refine wpG_nil ?_
        go_wp2_with fail
        go_end0
        exact ⟨rfl, HE8.out⟩
      · (try simp only [pS])
        refine d_wpG_mk _ rfl (by rfl) (.slice sp7 n7 c7) _ (q_ldS rfl rfl HV7.out.2) _ HS7a.out (fun _ h => h) ?_; try simp only [pS]
        refine d_wpG_mk _ rfl (by rfl) (.slice sp8 n8 c8) W8 (q_appM rfl rfl rfl HR8.out) _ HS8.out (fun _ h => h) ?_; try simp only [pS]
        refine wpG_take _ (.pointer (some ⟨P.M, 0, none⟩)) rfl (by rfl) (fun X hX => ex_nc rfl rfl) ?_; try simp only [pS]
        refine gT (.pointer (some ⟨P.M, 7, none⟩)) ?_; try simp only [pS]
        refine wpG_st _ rfl (by rfl) _ (q_stS rfl rfl rfl HF8.out.1 HF8.out.2) _ HS9.out HS9.out (fun _ h => h) ?_
        refine wpG_nil ?_
        go_wp2_with fail
        go_end0
        exact ⟨rfl, HE8.out⟩
theorem mend_any (p : Pt) (hp : p.OK) (c : Cpy) (hc : c.1 < 2) (ha : c.2 < 65536) (b : Bs) (hb : b.length = 512) (g : Nat) (w : World) (hg : Blk w g (b.map V8) 5) (lab : Nat → Nat) (P : Pl) (x : Mi Dsk Sp) (n : Nat) (h : MiAt w lab P x) (hl : Lim x n) (hn : n < 800000) :
    Calls Tryz.prog 85 #[.pointer (some ⟨P.M, 0, none⟩), .agg (pcells p).toArray, .agg (plc c).toArray, .slice (some ⟨g, 0, none⟩) 512 512] w fun e w' => e = .returned (.tuple #[]) ∧ MiPost w lab P (mend1 kinD p b x c) w' := by
  obtain ⟨d, a⟩ := c
  obtain rfl | rfl : d = 0 ∨ d = 1 := by simp only at hc; omega
  · exact mendAt0_any p hp a ha b hb g w hg lab P x n h hl hn
  · exact mendAt1_any p hp a ha b hb g w hg lab P x n h hl hn
end Go.Proofs.YtmgagalhpkieoaaGreatDoor
