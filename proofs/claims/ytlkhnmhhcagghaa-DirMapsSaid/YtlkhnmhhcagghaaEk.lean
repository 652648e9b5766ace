/- Entries: the document's May, Find, Drop, Add; same. -/
import Derived.Test.YtlkhnmhhcagghaaEe
import Derived.Test.YtlkhnmhhcagghaaEf
import Derived.ChangeKeysEq
namespace Go.Proofs.Ytlkhnmhhcagghaa
open Go.RowKit

attribute [local go_sem] Oper.semAt_some

theorem eqFieldsE_same (d : Nat) (xs : Array Value) (W : World) : ∀ fs : List Field, (∀ f ∈ fs, ∃ x, (Go.part f.type xs f.offset).run Try.prog W = .ok x W ∧ (Op.equalIn d f.type x x).run Try.prog W = .ok true W) → (Op.eqFields d xs xs fs).run Try.prog W = .ok true W
  | [], _ => by simp [Op.eqFields]
  | f :: fs, h => by
    obtain ⟨x, h1, h2⟩ := h f (by simp)
    have ih := eqFieldsE_same d xs W fs (fun g hg => h g (by simp [hg]))
    unfold Op.eqFields
    split
    · simp only [Sem.run_bind, h1, h2, Result.andThen_ok]
      simpa using ih
    · exact ih
theorem isAggE_int {t : TypeId} {k : IntKind} (h : Try.prog.underlying t = some (.int k)) (W : World) : (isAgg t).run Try.prog W = .ok false W := by
  unfold isAgg
  rw [Sem.run_bind, run_underlying h W]; rfl
theorem isAggE_str {t : TypeId} (h : Try.prog.underlying t = some .string) (W : World) : (isAgg t).run Try.prog W = .ok false W := by
  unfold isAgg
  rw [Sem.run_bind, run_underlying h W]; rfl
theorem partE {t : TypeId} (h : ∀ W, (isAgg t).run Try.prog W = .ok false W) {xs : Array Value} {off : Nat} {v : Value} (hv : xs[off]? = some v) (W : World) : (Go.part t xs off).run Try.prog W = .ok v W := by
  unfold Go.part
  simp only [Sem.run_bind, h W, Result.andThen_ok, hv]
  rfl
theorem fieldsE : (Try.prog.fieldsOf 46).toList.map (fun f => (f.type, f.offset)) = [(9, 0), (39, 1), (5, 2)] := by kernel_rfl
theorem run_eqE (e : Ent) (W : World) : (Op.equalIn 10000 46 (.agg (ecells e).toArray) (.agg (ecells e).toArray)).run Try.prog W = .ok true W := by
  rw [run_equalIn_struct W 9999 46 _ _ (by kernel_rfl) (by kernel_rfl)]
  refine eqFieldsE_same _ _ W _ (fun f hm => ?_)
  have h1 : (f.type, f.offset) ∈ (Try.prog.fieldsOf 46).toList.map (fun f => (f.type, f.offset)) := List.mem_map.2 ⟨f, hm, rfl⟩
  rw [fieldsE] at h1
  simp only [List.mem_cons, Prod.mk.injEq, List.not_mem_nil, or_false] at h1
  rcases h1 with ⟨e1, e2⟩ | ⟨e1, e2⟩ | ⟨e1, e2⟩ <;> rw [e1, e2]
  · refine ⟨_, partE (fun W => isAggE_str Try.underlying9 W) (v := .string (str e.n)) rfl W, ?_⟩
    rw [run_equalIn_string W 9998 9 _ _ Try.underlying9]
    simp
  · refine ⟨_, partE (fun W => isAggE_int Try.underlying39 W) (v := .int .u16 (e.u : Int)) rfl W, ?_⟩
    rw [run_equalIn_int W 9998 39 .u16 .u16 _ _ Try.underlying39]
    simp
  · refine ⟨_, partE (fun W => isAggE_int Try.underlying5 W) (v := .int .u8 (e.k : Int)) rfl W, ?_⟩
    rw [run_equalIn_int W 9998 5 .u8 .u8 _ _ Try.underlying5]
    simp
section
variable {ρ : Operand → Value} {o : Oper} {x y z : Operand} {w : World}
theorem ex_neE {e : Ent} (ho : o.op = .binOp .neq 46 x y 46) (hx : ρ x = .agg (ecells e).toArray) (hy : ρ y = .agg (ecells e).toArray) : (execOp ρ o).run Try.prog w = .ok (.value (.bool false)) w := by
  have hq := run_eqE e w
  unfold execOp
  have hg := run_eqGuard_agg (P := Try.prog) w .neq 46 x y (ecells e).toArray (ecells e).toArray (by kernel_rfl)
  simp only [ho, hx, hy, Sem.run_bind, hg, run_neq_struct, hq, Result.andThen_ok, Sem.run_pure]
  rfl
theorem ex_ltS {a b : List UInt8} {k : TypeId} {r : Bool} (ho : o.op = .binOp .lss 9 x y k) (hx : ρ x = .string (str a)) (hy : ρ y = .string (str b)) (hr : ltN a b = r) : (execOp ρ o).run Try.prog w = .ok (.value (.bool r)) w := by
  subst hr
  have h1 := str_toList a
  have h2 := str_toList b
  unfold execOp
  simp only [ho]
  go_simp
theorem ex_bldE {e : Ent} (ho : o.op = .build 46 #[(0, x), (1, y), (2, z)]) (hx : ρ x = .string (str e.n)) (hy : ρ y = .int .u16 (e.u : Int)) (hz : ρ z = .int .u8 (e.k : Int)) : (execOp ρ o).run Try.prog w = .ok (.value (.agg (ecells e).toArray)) w := by
  have hr : (Instr.build 46 #[(0, .string (str e.n)), (1, .int .u16 (e.u : Int)), (2, .int .u8 (e.k : Int))]).run Try.prog w = .ok (.agg (ecells e).toArray) w := run_build w 46 _ _ (by kernel_rfl)
  unfold execOp
  simp only [ho]
  rw [show (Array.map (fun x : Nat × Operand => (x.1, ρ x.2)) #[(0, x), (1, y), (2, z)]) = #[(0, .string (str e.n)), (1, .int .u16 (e.u : Int)), (2, .int .u8 (e.k : Int))] by simp [hx, hy, hz]]
  simp only [Sem.run_bind, hr, Result.andThen_ok, Sem.run_pure]
end
def mayE (e : Ent) : Nat := if errC e.n ≠ 0 then errC e.n else if whoB e = true then 0 else 26
set_option maxRecDepth 100000 in
set_option maxHeartbeats 4000000 in
theorem renMay_any (e : Ent) (hn : e.n.length < 1000000) (w : World) : Calls Try.prog 35 #[.agg (ecells e).toArray] w fun x w' => x = .returned (.int .i64 (mayE e : Int)) ∧ Below w.heap.size w w' := by
  obtain ⟨n, u, k⟩ := e
  have hb : Below w.heap.size w (w.alloc (.cells (ecells ⟨n, u, k⟩).toArray 41)) := (Below.refl _ _).alloc (Nat.le_refl _) _
  generalize hPost : (fun (x : Ending) (w' : World) => x = Ending.returned (.int .i64 (mayE ⟨n, u, k⟩ : Int)) ∧ Below w.heap.size w w') = Post
  have HP : Hid (∀ (b : Nat) w', mayE ⟨n, u, k⟩ = b → Below w.heap.size w w' → Post (.returned (.int .i64 (b : Int))) w') := Lib.hid fun z w' e h => by rw [← hPost, ← e]; exact ⟨rfl, h⟩
  have HB := Lib.hid hb; have HNM := Lib.hid hn
  clear hPost hb hn
  go_enter Try.func35, Try.ntmps35
  go_wp2_with fail
  refine (rCheck_any n HNM.out _).mono ?_
  rintro x w1 ⟨rfl, rfl⟩
  by_cases h1 : errC n = 0
  · have z1 : ((errC n : Int) != 0) = false := by rw [h1]; rfl
    have HE1 := Lib.hid h1
    clear h1
    have hmay : ∀ b, whoB ⟨n, u, k⟩ = b → mayE ⟨n, u, k⟩ = if b = true then 0 else 26 := fun b hb => by unfold mayE; rw [if_neg (by simpa using HE1.out), hb]
    have HM := Lib.hid hmay
    clear hmay
    by_cases h2 : u < 1
    · have y1 : (u : Int) < 1 := by omega
      have HQ := Lib.hid (HP.out 26 _ (HM.out false (by unfold whoB; simp; omega)) HB.out)
      clear h2
      go_wp2_with fail
      first | exact HQ.out | (go_ret; exact HQ.out)
    · have y1 : ¬ (u : Int) < 1 := by omega
      by_cases h3 : 255 < u
      · have y2 : (255 : Int) < (u : Int) := by omega
        have HQ := Lib.hid (HP.out 26 _ (HM.out false (by unfold whoB; simp; omega)) HB.out)
        clear h2 h3
        go_wp2_with fail
        first | exact HQ.out | (go_ret; exact HQ.out)
      · have y2 : ¬ (255 : Int) < (u : Int) := by omega
        by_cases h4 : k < 1
        · have y3 : (k : Int) < 1 := by omega
          have HQ := Lib.hid (HP.out 26 _ (HM.out false (by unfold whoB; simp; omega)) HB.out)
          clear h2 h3 h4
          go_wp2_with fail
          first | exact HQ.out | (go_ret; exact HQ.out)
        · have y3 : ¬ (k : Int) < 1 := by omega
          by_cases h5 : 3 < k
          · have y4 : (3 : Int) < (k : Int) := by omega
            have HQ := Lib.hid (HP.out 26 _ (HM.out false (by unfold whoB; simp; omega)) HB.out)
            clear h2 h3 h4 h5
            go_wp2_with fail
            first | exact HQ.out | (go_ret; exact HQ.out)
          · have y4 : ¬ (3 : Int) < (k : Int) := by omega
            have HQ := Lib.hid (HP.out 0 _ (HM.out true (by unfold whoB; simp; omega)) HB.out)
            clear h2 h3 h4 h5
            go_wp2_with fail
            first | exact HQ.out | (go_ret; exact HQ.out)
  · have z1 : ((errC n : Int) != 0) = true := by simp; omega
    have HQ := Lib.hid (HP.out (errC n) _ (by unfold mayE; rw [if_pos h1]) HB.out)
    clear h1
    go_wp2_with fail
    first | exact HQ.out | (go_ret; exact HQ.out)
theorem built_R : Try.prog.built 41 [] = some (ecells zeroEnt).toArray := by kernel_rfl
theorem sizeRc (e : Ent) : (Try.prog.info? 41).map (·.size) = some (ecells e).toArray.size := sizeR
theorem findP_no {n : List UInt8} {l : List Ent} {k : Nat} (h : ∀ j, j < k → eqB n (l.getD j default) = false) (hk : k = l.length) : findP n l = none := by
  unfold findP
  rw [List.find?_eq_none]
  intro x hx
  obtain ⟨i, hi, rfl⟩ := List.getElem_of_mem hx
  have := h i (by omega)
  rw [List.getD_eq_getElem?_getD, List.getElem?_eq_getElem hi] at this
  simpa using this
theorem findP_at {n : List UInt8} {l : List Ent} {k : Nat} {e : Ent} (h : ∀ j, j < k → eqB n (l.getD j default) = false) (he : l[k]? = some e) (hp : eqB n e = true) : findP n l = some e := by
  obtain ⟨hk, rfl⟩ := List.getElem?_eq_some_iff.1 he
  unfold findP
  rw [List.find?_eq_some_iff_getElem]
  refine ⟨hp, k, hk, rfl, fun j hj => ?_⟩
  have := h j hj
  rw [List.getD_eq_getElem?_getD, List.getElem?_eq_getElem (by omega)] at this
  simpa using this
set_option maxRecDepth 100000 in
set_option maxHeartbeats 8000000 in
theorem renFind_any (l : List Ent) (n : List UInt8) (sp : Option Addr) (cap : Nat) (hc : l.length ≤ cap) (hl : l.length < 1000000) (w : World) (hs : SrcE w sp l) :
    Calls Try.prog 17 #[.slice sp l.length cap, .string (str n)] w fun e w' => e = .returned (.tuple #[.agg (ecells ((findP n l).getD zeroEnt)).toArray, .bool (findP n l).isSome]) ∧ Below w.heap.size w w' := by
  obtain ⟨E0, hE0⟩ : ∃ E, zeroEnt = E := ⟨_, rfl⟩
  have hb1 : Below w.heap.size w (w.alloc (.cells (ecells E0).toArray 41)) := (Below.refl _ _).alloc (Nat.le_refl _) _
  have hk1 : Blk (w.alloc (.cells (ecells E0).toArray 41)) w.heap.size (ecells E0) 41 := Blk.new' _ _ _ _ _ rfl rfl
  obtain ⟨W1, hW1⟩ : ∃ W, w.alloc (.cells (ecells E0).toArray 41) = W := ⟨_, rfl⟩
  obtain ⟨G, hG⟩ : ∃ G, w.heap.size = G := ⟨_, rfl⟩
  rw [hW1] at hb1 hk1
  rw [hG] at hk1
  have HB1 := Lib.hid hb1; have HK1 := Lib.hid hk1; have HS := Lib.hid hs; have HE0 := Lib.hid hE0; have HW1 := Lib.hid hW1; have HG := Lib.hid hG; have HL := Lib.hid hl
  obtain ⟨N, hN⟩ : ∃ N, l.length = N := ⟨_, rfl⟩
  rw [hN] at hc HL ⊢
  have HN := Lib.hid hN; have HC := Lib.hid hc
  rw [hE0]
  generalize hPost : (fun (e : Ending) (w' : World) => e = .returned (.tuple #[.agg (ecells ((findP n l).getD E0)).toArray, .bool (findP n l).isSome]) ∧ Below w.heap.size w w') = Post
  have HP : Hid (∀ x b w', (findP n l).getD E0 = x → (findP n l).isSome = b → Below w.heap.size w w' → Post (.returned (.tuple #[.agg (ecells x).toArray, .bool b])) w') := Lib.hid fun x b w' h1 h2 h3 => by rw [← hPost, ← h1, ← h2]; exact ⟨rfl, h3⟩
  clear hb1 hk1 hs hc hl hN hPost hE0 hW1 hG
  go_enter Try.func17, Try.ntmps17
  go_upto_region 3 with fail
  rw [show w.alloc (.cells #[.string ⟨#[]⟩, .int .u16 0, .int .u8 0] 41) = W1 from by rw [← HW1.out, ← HE0.out]; rfl, HG.out]
  go_loopg [6] N (fun r i wr => ∃ k : Nat, i = .int .i64 (k : Int) ∧ r + k = N ∧ (∀ j, j < k → eqB n (l.getD j default) = false) ∧ wr = W1)
  case atStart => exact ⟨0, rfl, by omega, fun j hj => by omega, rfl⟩
  case round =>
    obtain ⟨k, rfl, hgk, hno, rfl⟩ := hrel
    have HNO := Lib.hid hno
    clear hno
    have hsn := str_toList n
    have wk1 := IntWalk.i64_in ((k : Int) + 1) (by have := HL.out; omega)
    have hfin : ∀ x, Below w.heap.size w (wr.setRow G (ecells x).toArray) ∧ Blk (wr.setRow G (ecells x).toArray) G (ecells x) 41 := fun x => ⟨below_row HB1.out (by have := HG.out; omega) _, blk_row HK1.out⟩
    have HF := Lib.hid hfin
    clear hfin
    by_cases hlt : k < N
    · have hlt' : (k : Int) < (N : Int) := by omega
      obtain ⟨e, he⟩ : ∃ e, l[k]? = some e := ⟨_, List.getElem?_eq_getElem (by have := HN.out; omega)⟩
      obtain ⟨g, o, rfl, hg, hr⟩ := (HS.out.grown HB1.out) (by have := HN.out; omega)
      have HR := Lib.hid (hr k e he)
      have f0 : wr.cell? ⟨g, o + k * 3, none⟩ = some (.string (str e.n)) := hr k e he 0 _ rfl
      have hse := str_toList e.n
      have HKC : Hid (k < N ∧ N ≤ cap) := Lib.hid ⟨hlt, HC.out⟩
      have HGD : Hid (l.getD k default = e) := Lib.hid (by rw [List.getD_eq_getElem?_getD, he]; rfl)
      have HFA := Lib.hid (fun h => findP_at HNO.out he h)
      clear he hg hr
      cases hp : eqB n e
      · have z1 : (e.n == n) = false := hp
        have HNO2 : Hid (∀ j, j < k + 1 → eqB n (l.getD j default) = false) := Lib.hid (fun j hj => by
          rcases Nat.lt_succ_iff_lt_or_eq.1 hj with h | rfl
          · exact HNO.out j h
          · rw [HGD.out]; exact hp)
        clear hp
        go_wp2_with (first | (refine e_val rfl (ex_iaR rfl rfl rfl HKC.out) ?_) | fail)
        go_roundg (N - (k + 1))
        case measure => omega
        case rel => exact ⟨k + 1, by go_num, by omega, HNO2.out, rfl⟩
      · have z1 : (e.n == n) = true := hp
        have HPN := Lib.hid (HFA.out hp)
        clear hp
        go_wp2_with (first | (refine e_val rfl (ex_iaR rfl rfl rfl HKC.out) ?_) | (refine e_val rfl (ex_ldR HR.out rfl rfl) ?_) | (refine wpList_store_row rfl 41 (.tmp 4) (.tmp 23) rfl G (ecells e).toArray rfl rfl 41 _ HK1.out (sizeRc e) rfl (all_ec e) ?_) | fail)
        obtain ⟨hb3, hk3⟩ := HF.out e
        generalize wr.setRow G (ecells e).toArray = W3 at hb3 hk3 ⊢
        have C0 := hk3.cell (j := 0) rfl
        have C1 := hk3.cell (j := 1) rfl
        have C2 := hk3.cell (j := 2) rfl
        have HQ := Lib.hid (HP.out e true W3 (by rw [HPN.out]; rfl) (by rw [HPN.out]; rfl) hb3)
        clear hb3 hk3
        go_wp2_with fail
        exact bodyPost_ret (v := .tuple #[.agg (ecells e).toArray, .bool true]) (by simp [results, Try.f17, go_sem, C0, C1, C2]) rfl HQ.out
    · obtain rfl : N = k := by omega
      have hlt' : ¬ (N : Int) < (N : Int) := by omega
      have HPN : Hid (findP n l = none) := Lib.hid (findP_no HNO.out HN.out.symm)
      go_upto_region 6 with fail
      refine wp_region_list ?_
      refine wpList_build' rfl 41 #[] rfl (ecells E0).toArray (by simp only [List.map_toArray, List.map_nil]; rw [← HE0.out]; exact built_R) ?_
      refine wpList_store_row rfl 41 (.tmp 4) (.tmp 24) rfl G (ecells E0).toArray rfl rfl 41 _ HK1.out (sizeRc E0) rfl (all_ec E0) ?_
      obtain ⟨hb3, hk3⟩ := HF.out E0
      generalize wr.setRow G (ecells E0).toArray = W3 at hb3 hk3 ⊢
      have C0 := hk3.cell (j := 0) rfl
      have C1 := hk3.cell (j := 1) rfl
      have C2 := hk3.cell (j := 2) rfl
      have HQ := Lib.hid (HP.out E0 false W3 (by rw [HPN.out]; rfl) (by rw [HPN.out]; rfl) hb3)
      clear hb3 hk3
      go_wp2_with fail
      exact bodyPost_ret (v := .tuple #[.agg (ecells E0).toArray, .bool false]) (by simp [results, Try.f17, go_sem, C0, C1, C2]) rfl HQ.out
set_option maxRecDepth 100000 in
set_option maxHeartbeats 8000000 in
theorem enSame_any (l : List Ent) (sa sr : Option Addr) (capa capr : Nat) (ha : l.length ≤ capa) (hr : l.length ≤ capr) (hl : l.length < 1000000) (w : World) (hsa : SrcE w sa l) (hsr : SrcE w sr l) :
    Calls Try.prog 13 #[.slice sa l.length capa, .slice sr l.length capr] w fun e w' => e = .returned (.bool true) ∧ Below w.heap.size w w' := by
  obtain ⟨N, hN⟩ : ∃ N, l.length = N := ⟨_, rfl⟩
  rw [hN] at ha hr hl ⊢
  have HN := Lib.hid hN; have HCA := Lib.hid ha; have HCR := Lib.hid hr; have HSA := Lib.hid hsa; have HSR := Lib.hid hsr; have HL := Lib.hid hl
  generalize hPost : (fun (e : Ending) (w' : World) => e = .returned (.bool true) ∧ Below w.heap.size w w') = Post
  have HP : Hid (∀ w', Below w.heap.size w w' → Post (.returned (.bool true)) w') := Lib.hid fun w' h1 => by rw [← hPost]; exact ⟨rfl, h1⟩
  clear hN ha hr hl hsa hsr hPost
  go_enter Try.func13, Try.ntmps13
  go_upto_region 5 with fail
  go_loopg [5] N (fun r i wr => ∃ k : Nat, i = .int .i64 (k : Int) ∧ r + k = N ∧ Below w.heap.size w wr)
  case atStart => exact ⟨0, rfl, by omega, Below.refl _ _⟩
  case round =>
    obtain ⟨k, rfl, hgk, hbw⟩ := hrel
    have HBW := Lib.hid hbw
    clear hbw
    have wk1 := IntWalk.i64_in ((k : Int) + 1) (by have := HL.out; omega)
    by_cases hlt : k < N
    · have hlt' : (k : Int) < (N : Int) := by omega
      obtain ⟨x, he⟩ : ∃ e, l[k]? = some e := ⟨_, List.getElem?_eq_getElem (by have := HN.out; omega)⟩
      obtain ⟨ga, oa, rfl, hga, hra⟩ := (HSA.out.grown HBW.out).drew (by have := HN.out; omega)
      obtain ⟨gr, or_, rfl, hgr, hrr⟩ := (HSR.out.grown HBW.out).drew (by have := HN.out; omega)
      have HSX : Hid (wr.drew.rangeAt ga (oa + k * 3) (ecells x) ∧ wr.drew.rangeAt gr (or_ + k * 3) (ecells x)) := Lib.hid ⟨hra k x he, hrr k x he⟩
      have HKA : Hid (k < N ∧ N ≤ capa) := Lib.hid ⟨hlt, HCA.out⟩
      have HKR : Hid (k < N ∧ N ≤ capr) := Lib.hid ⟨hlt, HCR.out⟩
      clear he hga hra hgr hrr
      go_upto_region 6 with fail
      refine wp_region_sched ((.take 0 (.take 1 (.take 2 (.take 3 (.take 4 (.take 5 (.take 6 (.take 7 (.take 8 (.take 9 (.take 10 (.take 11 (.take 12 (.take 13 (.take 14 (.take 15 (.take 16 (.take 17 (.take 18 (.take 19 (.take 20 (.nil))))))))))))))))))))))) (by kernel_rfl) (by kernel_rfl) (fun d _ _ _ _ h => by cases d <;> exact h) (fun X => X.rangeAt ga (oa + k * 3) (ecells x) ∧ X.rangeAt gr (or_ + k * 3) (ecells x)) (HSX.out) ?_
      refine wpG_take _ (.slice (some ⟨ga, oa, none⟩) N capa) rfl (by rfl) (fun X hX => by first | rfl | go_simp) ?_
      (try simp only [Act.put, List.setIfInBounds_toArray, List.set_cons_zero, List.set_cons_succ])
      refine wpG_take _ (.int .i64 (k : Int)) rfl (by rfl) (fun X hX => by first | rfl | go_simp) ?_
      (try simp only [Act.put, List.setIfInBounds_toArray, List.set_cons_zero, List.set_cons_succ])
      refine wpG_take _ (.pointer (some ⟨ga, oa + k * 3, none⟩)) rfl (by rfl) (fun X hX => ex_iaE rfl rfl rfl HKA.out) ?_
      (try simp only [Act.put, List.setIfInBounds_toArray, List.set_cons_zero, List.set_cons_succ])
      refine wpG_take _ (.agg (ecells x).toArray) rfl (by rfl) (fun X hX => ex_ldE hX.1 rfl rfl) ?_
      (try simp only [Act.put, List.setIfInBounds_toArray, List.set_cons_zero, List.set_cons_succ])
      refine wpG_take _ (.slice (some ⟨gr, or_, none⟩) N capr) rfl (by rfl) (fun X hX => by first | rfl | go_simp) ?_
      (try simp only [Act.put, List.setIfInBounds_toArray, List.set_cons_zero, List.set_cons_succ])
      refine wpG_take _ (.int .i64 (k : Int)) rfl (by rfl) (fun X hX => by first | rfl | go_simp) ?_
      (try simp only [Act.put, List.setIfInBounds_toArray, List.set_cons_zero, List.set_cons_succ])
      refine wpG_take _ (.pointer (some ⟨gr, or_ + k * 3, none⟩)) rfl (by rfl) (fun X hX => ex_iaR rfl rfl rfl HKR.out) ?_
      (try simp only [Act.put, List.setIfInBounds_toArray, List.set_cons_zero, List.set_cons_succ])
      refine wpG_take _ (.pointer (some ⟨gr, or_ + k * 3 + 0, none⟩)) rfl (by rfl) (fun X hX => ex_faR (by decide) rfl rfl) ?_
      (try simp only [Act.put, List.setIfInBounds_toArray, List.set_cons_zero, List.set_cons_succ])
      refine wpG_take _ (.string (str x.n)) rfl (by rfl) (fun X hX => ex_ldS rfl rfl (hX.2 0 _ rfl)) ?_
      (try simp only [Act.put, List.setIfInBounds_toArray, List.set_cons_zero, List.set_cons_succ])
      refine wpG_take _ (.slice (some ⟨gr, or_, none⟩) N capr) rfl (by rfl) (fun X hX => by first | rfl | go_simp) ?_
      (try simp only [Act.put, List.setIfInBounds_toArray, List.set_cons_zero, List.set_cons_succ])
      refine wpG_take _ (.int .i64 (k : Int)) rfl (by rfl) (fun X hX => by first | rfl | go_simp) ?_
      (try simp only [Act.put, List.setIfInBounds_toArray, List.set_cons_zero, List.set_cons_succ])
      refine wpG_take _ (.pointer (some ⟨gr, or_ + k * 3, none⟩)) rfl (by rfl) (fun X hX => ex_iaR rfl rfl rfl HKR.out) ?_
      (try simp only [Act.put, List.setIfInBounds_toArray, List.set_cons_zero, List.set_cons_succ])
      refine wpG_take _ (.pointer (some ⟨gr, or_ + k * 3 + 1, none⟩)) rfl (by rfl) (fun X hX => ex_faR (by decide) rfl rfl) ?_
      (try simp only [Act.put, List.setIfInBounds_toArray, List.set_cons_zero, List.set_cons_succ])
      refine wpG_take _ (.int .u16 (x.u : Int)) rfl (by rfl) (fun X hX => ex_ldU16 rfl rfl (hX.2 1 _ rfl)) ?_
      (try simp only [Act.put, List.setIfInBounds_toArray, List.set_cons_zero, List.set_cons_succ])
      refine wpG_take _ (.slice (some ⟨gr, or_, none⟩) N capr) rfl (by rfl) (fun X hX => by first | rfl | go_simp) ?_
      (try simp only [Act.put, List.setIfInBounds_toArray, List.set_cons_zero, List.set_cons_succ])
      refine wpG_take _ (.int .i64 (k : Int)) rfl (by rfl) (fun X hX => by first | rfl | go_simp) ?_
      (try simp only [Act.put, List.setIfInBounds_toArray, List.set_cons_zero, List.set_cons_succ])
      refine wpG_take _ (.pointer (some ⟨gr, or_ + k * 3, none⟩)) rfl (by rfl) (fun X hX => ex_iaR rfl rfl rfl HKR.out) ?_
      (try simp only [Act.put, List.setIfInBounds_toArray, List.set_cons_zero, List.set_cons_succ])
      refine wpG_take _ (.pointer (some ⟨gr, or_ + k * 3 + 2, none⟩)) rfl (by rfl) (fun X hX => ex_faR (by decide) rfl rfl) ?_
      (try simp only [Act.put, List.setIfInBounds_toArray, List.set_cons_zero, List.set_cons_succ])
      refine wpG_take _ (.int .u8 (x.k : Int)) rfl (by rfl) (fun X hX => ex_ldB8 rfl rfl (hX.2 2 _ rfl)) ?_
      (try simp only [Act.put, List.setIfInBounds_toArray, List.set_cons_zero, List.set_cons_succ])
      refine wpG_take _ (.agg (ecells x).toArray) rfl (by rfl) (fun X hX => ex_bldE rfl rfl rfl rfl) ?_
      (try simp only [Act.put, List.setIfInBounds_toArray, List.set_cons_zero, List.set_cons_succ])
      refine wpG_take _ (.bool false) rfl (by rfl) (fun X hX => ex_neE rfl rfl rfl) ?_
      (try simp only [Act.put, List.setIfInBounds_toArray, List.set_cons_zero, List.set_cons_succ])
      refine wpG_nil ?_
      go_wp2_with fail
      go_roundg (N - (k + 1))
      case measure => omega
      case rel => exact ⟨k + 1, by go_num, by omega, HBW.out.drew⟩
    · obtain rfl : N = k := by omega
      have hlt' : ¬ (N : Int) < (N : Int) := by omega
      have HQ := Lib.hid (HP.out wr HBW.out)
      go_wp2_with fail
      first | exact HQ.out | (go_ret; exact HQ.out)
end Go.Proofs.Ytlkhnmhhcagghaa
