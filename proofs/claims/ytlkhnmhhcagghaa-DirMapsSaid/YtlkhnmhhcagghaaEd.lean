/- Entries: together, Find, Drop, Add. -/
import Derived.Test.YtlkhnmhhcagghaaEc
namespace Go.Proofs.Ytlkhnmhhcagghaa
open Go.RowKit

attribute [local go_sem] Oper.semAt_some

theorem wpG_mkE {ops : Array Oper} {Q : Exit → Act → World → Prop} {S : World → Prop} {i : Nat} {r : Tr} {a : Act} {w : World} (o : Oper) (hi : ops.toList[i]? = some o) (hw : Region.wanted o (yielded ops a.tmps) = true) (v : Value) (w1 : World) (hrun : (execOp a.eval o).run Try.prog w = .ok (.value v) w1)
    (S' : World → Prop) (hS : S' w1) (hSS : ∀ w, S' w → S w) (h : wpG Try.prog ops Q r S' (a.put o.dst v) w1) : wpG Try.prog ops Q (.step i r) S a w := by
  show wpOp Try.prog ops Q i _ a w
  unfold wpOp
  simp only [of_list hi]
  rw [if_pos hw]
  refine .inl ?_
  unfold Oper.wp
  rw [hrun]
  exact ⟨hSS _ hS, S', hSS, hS, h⟩
/-- A row of entries as it is handed on. -/
structure ERow where
  sp : Option Addr
  l : List Ent
  cap : Nat
abbrev erV (r : ERow) : Value := .slice r.sp r.l.length r.cap
structure ERow.OK (w : World) (r : ERow) : Prop where
  s : SrcE w r.sp r.l
  c : r.l.length ≤ r.cap
  z : r.sp = none → r.cap = 0
theorem ERow.OK.grown {w w' : World} {r : ERow} (h : r.OK w) (hb : Below w.heap.size w w') : r.OK w' := ⟨h.s.grown hb, h.c, h.z⟩
def flatR (rs : List ERow) : List Ent := rs.flatMap (·.l)
theorem infoEs : (Try.prog.info? 29).map (fun i => (i.zero.map (·.cells.size), i.size)) = some (some 1, 1) := by kernel_rfl
theorem info_partsEs : ∃ i z, Try.prog.info? 29 = some i ∧ i.zero = some z ∧ z.cells.size = 1 ∧ i.size = 1 := by
  obtain ⟨i, h1, h2⟩ := Option.map_eq_some_iff.1 infoEs
  simp only [Prod.mk.injEq] at h2
  obtain ⟨z, hz, hz2⟩ := Option.map_eq_some_iff.1 h2.1
  exact ⟨i, z, h1, hz, hz2, h2.2⟩
theorem set2 (A : Array Value) (h : A.size = 2) (a b : Value) : (A.setIfInBounds 0 a).setIfInBounds 1 b = #[a, b] := by
  obtain ⟨l⟩ := A
  match l, h with
  | [x, y], _ => rfl
theorem set3 (A : Array Value) (h : A.size = 3) (a b c : Value) : ((A.setIfInBounds 0 a).setIfInBounds 1 b).setIfInBounds 2 c = #[a, b, c] := by
  obtain ⟨l⟩ := A
  match l, h with
  | [x, y, z], _ => rfl
section
variable {ρ : Operand → Value} {o : Oper} {x y z : Operand} {w : World}
theorem ex_rows2 {a b : ERow} (ho : o.op = .buildSlice 81 2 #[(0, x), (1, y)]) (hx : ρ x = erV a) (hy : ρ y = erV b) :
    (execOp ρ o).run Try.prog w = .ok (.value (.slice (some ⟨w.heap.size, 0, none⟩) 2 2)) (w.alloc (.cells #[erV a, erV b] 29)) := by
  obtain ⟨i, z0, hi, hz, hzs, his⟩ := info_partsEs
  have hr := run_buildSlice (P := Try.prog) w 81 29 2 #[(0, erV a), (1, erV b)] #[erV a, erV b] i z0 Try.underlying81 hi hz (by rw [his]; omega) (by rw [his]; omega)
    (by rw [his]; simp [Instr.fill, Value.cells]; exact set2 _ (by simp) _ _)
  unfold execOp
  simp only [ho]
  rw [show (Array.map (fun x : Nat × Operand => (x.1, ρ x.2)) #[(0, x), (1, y)]) = #[(0, erV a), (1, erV b)] by simp [hx, hy]]
  simp only [Sem.run_bind, hr, Result.andThen_ok]
  rfl
theorem ex_rows3 {a b c : ERow} (ho : o.op = .buildSlice 81 3 #[(0, x), (1, y), (2, z)]) (hx : ρ x = erV a) (hy : ρ y = erV b) (hz' : ρ z = erV c) :
    (execOp ρ o).run Try.prog w = .ok (.value (.slice (some ⟨w.heap.size, 0, none⟩) 3 3)) (w.alloc (.cells #[erV a, erV b, erV c] 29)) := by
  obtain ⟨i, z0, hi, hz, hzs, his⟩ := info_partsEs
  have hr := run_buildSlice (P := Try.prog) w 81 29 3 #[(0, erV a), (1, erV b), (2, erV c)] #[erV a, erV b, erV c] i z0 Try.underlying81 hi hz (by rw [his]; omega) (by rw [his]; omega)
    (by rw [his]; simp [Instr.fill, Value.cells]; exact set3 _ (by simp) _ _ _)
  unfold execOp
  simp only [ho]
  rw [show (Array.map (fun x : Nat × Operand => (x.1, ρ x.2)) #[(0, x), (1, y), (2, z)]) = #[(0, erV a), (1, erV b), (2, erV c)] by simp [hx, hy, hz']]
  simp only [Sem.run_bind, hr, Result.andThen_ok]
  rfl
theorem ex_iaEs {g n cap k : Nat} (ho : o.op = .indexAddr 81 x y) (hx : ρ x = .slice (some ⟨g, 0, none⟩) n cap) (hy : ρ y = .int .i64 (k : Int)) (hk : k < n ∧ n ≤ cap) :
    (execOp ρ o).run Try.prog w = .ok (.value (.pointer (some ⟨g, k, none⟩))) w := by
  have h1 : ¬ n ≤ k := by omega
  unfold execOp
  simp only [ho]
  go_simp
theorem ex_ldEs {ad : Addr} {v : Value} (ho : o.op = .load 29 x) (hx : ρ x = .pointer (some ad)) (hc : w.cell? ad = some v) : (execOp ρ o).run Try.prog w = .ok (.value v) w := by
  unfold execOp
  simp only [ho]
  go_simp
theorem ex_ldS {ad : Addr} {v : Value} (ho : o.op = .load 9 x) (hx : ρ x = .pointer (some ad)) (hc : w.cell? ad = some v) : (execOp ρ o).run Try.prog w = .ok (.value v) w := by
  unfold execOp
  simp only [ho]
  go_simp
theorem ex_addI {a b : Nat} {k : TypeId} (ho : o.op = .binOp .add 3 x y k) (hx : ρ x = .int .i64 (a : Int)) (hy : ρ y = .int .i64 (b : Int)) (h : a + b < 1000000) : (execOp ρ o).run Try.prog w = .ok (.value (.int .i64 ((a + b : Nat) : Int))) w := by
  have e : IntKind.i64.wrap ((a : Int) + (b : Int)) = ((a + b : Nat) : Int) := by rw [IntKind.wrap_i64]; omega
  unfold execOp
  simp only [ho]
  simp only [hx, hy, binOp]
  simp [e, go_sem]
theorem ex_subI {a b : Nat} {k : TypeId} (ho : o.op = .binOp .sub 3 x y k) (hx : ρ x = .int .i64 (a : Int)) (hy : ρ y = .int .i64 (b : Int)) (h : b ≤ a ∧ a < 1000000) : (execOp ρ o).run Try.prog w = .ok (.value (.int .i64 ((a - b : Nat) : Int))) w := by
  have e : IntKind.i64.wrap ((a : Int) - (b : Int)) = ((a - b : Nat) : Int) := by rw [IntKind.wrap_i64]; omega
  unfold execOp
  simp only [ho]
  simp only [hx, hy, binOp]
  simp [e, go_sem]
end
theorem ownE_bel {w wr w' : World} {v : Value} {l : List Ent} (ho : OwnE wr w.heap.size v l) (hb : Below w.heap.size w wr) (hg : wr.grownBy w' v.ownBlock) : Below w.heap.size w w' :=
  hb.trans (((Chg.refl (fun g => v.ownBlock = some g) wr).grown hg (fun k e => .inl e)).below (fun k hk => (ho.lt k hk).1) hb.size)
set_option maxRecDepth 100000 in
set_option maxHeartbeats 4000000 in
theorem enTog_any (rs : List ERow) (g : Nat) (w : World) (hn : rs.length ≤ 3) (hl : (flatR rs).length < 100000) (hr : ∀ r ∈ rs, r.OK w) {cs : List Value} {t : TypeId} (hb : Blk w g cs t) (hc : ∀ (i : Nat) (r : ERow), rs[i]? = some r → cs[i]? = some (erV r)) :
    Calls Try.prog 30 #[.slice (some ⟨g, 0, none⟩) rs.length rs.length] w fun e w' => ∃ v, e = .returned v ∧ OwnE w' w.heap.size v (flatR rs) ∧ Below w.heap.size w w' := by
  obtain ⟨N, hN⟩ : ∃ N, rs.length = N := ⟨_, rfl⟩
  rw [hN] at hn ⊢
  have HN := Lib.hid hN; have HN3 := Lib.hid hn; have HL := Lib.hid hl; have HR := Lib.hid hr; have HB := Lib.hid hb; have HC := Lib.hid hc
  generalize hPost : (fun (e : Ending) (w' : World) => ∃ v, e = .returned v ∧ OwnE w' w.heap.size v (flatR rs) ∧ Below w.heap.size w w') = Post
  have HP : Hid (∀ v w', OwnE w' w.heap.size v (flatR rs) → Below w.heap.size w w' → Post (.returned v) w') := Lib.hid fun v w' h1 h2 => by rw [← hPost]; exact ⟨v, rfl, h1, h2⟩
  clear hN hn hl hr hb hc hPost
  go_enter Try.func30, Try.ntmps30
  go_upto_region 6 with fail
  go_loopg [3, 8] N (fun r s i wr => ∃ k : Nat, i = .int .i64 (k : Int) ∧ r + k = N ∧ OwnE wr w.heap.size s (flatR (rs.take k)) ∧ Below w.heap.size w wr)
  case atStart => exact ⟨0, rfl, by omega, OwnE.nil _ _, Below.refl _ _⟩
  case round =>
    obtain ⟨k, rfl, hgk, hown, hbw⟩ := hrel
    obtain ⟨spo, capo, e3, hco, -, -, -, -⟩ := hown.form
    subst e3
    have HOWN := Lib.hid hown; have HBW := Lib.hid hbw
    clear hbw hco hown
    have wk1 := IntWalk.i64_in ((k : Int) + 1) (by have := HN3.out; omega)
    by_cases hlt : k < N
    · have hlt' : (k : Int) < (N : Int) := by omega
      obtain ⟨r, hr⟩ : ∃ r, rs[k]? = some r := ⟨_, List.getElem?_eq_getElem (by have := HN.out; omega)⟩
      have hok := (HR.out r (List.mem_of_getElem? hr)).grown HBW.out
      have hce := (HB.out.below HBW.out HB.out.lt).cell (HC.out k r hr)
      have htk : flatR (rs.take (k + 1)) = flatR (rs.take k) ++ r.l := by
        obtain ⟨hk, rfl⟩ := List.getElem?_eq_some_iff.1 hr
        unfold flatR
        rw [List.take_succ_eq_append_getElem hk, List.flatMap_append, List.flatMap_cons, List.flatMap_nil, List.append_nil]
      have hle : (flatR (rs.take (k + 1))).length ≤ (flatR rs).length := by
        have : flatR rs = flatR (rs.take (k + 1)) ++ flatR (rs.drop (k + 1)) := by unfold flatR; rw [← List.flatMap_append, List.take_append_drop]
        rw [this, List.length_append]; omega
      obtain ⟨v', w', hrun, ho', hgr, -⟩ := ownE_apps HOWN.out HBW.out.size (l2 := r.l) (by rw [htk, List.length_append] at hle; have := HL.out; omega) hok.s hok.z 29
      have hb' := ownE_bel HOWN.out HBW.out hgr
      rw [← htk] at ho'
      obtain ⟨spn, capn, e4, -, -, -, -, -⟩ := ho'.form
      subst e4
      have HRUN := Lib.hid hrun; have HO := Lib.hid ho'; have HB' := Lib.hid hb'; have HCE := Lib.hid hce
      have HKC : Hid (k < N ∧ N ≤ N) := Lib.hid ⟨hlt, Nat.le_refl _⟩
      clear hr hok hce htk hle hrun ho' hgr hb'
      go_wp2_with (first | (refine e_val rfl (ex_iaEs rfl rfl rfl HKC.out) ?_) | (refine e_val rfl (ex_ldEs rfl rfl HCE.out) ?_) | (at_builtin; refine e_val rfl (ex_appE rfl rfl rfl HRUN.out) ?_) | fail)
      go_roundg (N - (k + 1))
      case measure => omega
      case rel => exact ⟨k + 1, by go_num, by omega, HO.out, HB'.out⟩
    · obtain rfl : N = k := by omega
      have hlt' : ¬ (N : Int) < (N : Int) := by omega
      have htk : rs.take N = rs := by rw [← HN.out, List.take_length]
      have HE := Lib.hid (HP.out (.slice spo (flatR (rs.take N)).length capo) wr (by have := HOWN.out; rw [htk] at this ⊢; exact this) HBW.out)
      clear htk
      go_wp2_with fail
      first | exact HE.out | (go_ret; exact HE.out)
def findP (n : List UInt8) (l : List Ent) : Option Ent := l.find? (eqB n)
theorem place_none {n : List UInt8} {l : List Ent} (h : l.findIdx? (eqB n) = none) : findP n l = none := by
  unfold findP
  rw [List.find?_eq_none]
  intro x hx
  have := List.findIdx?_eq_none_iff.1 h x hx
  simpa using this
theorem place_some {n : List UInt8} {l : List Ent} {k : Nat} (h : l.findIdx? (eqB n) = some k) : ∃ e, l[k]? = some e ∧ findP n l = some e ∧ k < l.length := by
  obtain ⟨hk, h1, h2⟩ := List.findIdx?_eq_some_iff_getElem.1 h
  refine ⟨l[k], List.getElem?_eq_getElem hk, ?_, hk⟩
  unfold findP
  rw [List.find?_eq_some_iff_getElem]
  exact ⟨h1, k, hk, rfl, fun j hj => by have := h2 j hj; simpa using this⟩
def zeroEnt : Ent := ⟨[], 0, 0⟩
theorem built_E : Try.prog.built 46 [] = some (ecells zeroEnt).toArray := by kernel_rfl
theorem all_ec (e : Ent) : (ecells e).toArray.all (·.oneCell') = true := by simp [Value.oneCell']
theorem sizeEc (e : Ent) : (Try.prog.info? 46).map (·.size) = some (ecells e).toArray.size := sizeE
theorem blk_row {w : World} {g : Nat} {old new : List Value} {t : TypeId} (h : Blk w g old t) : Blk (w.setRow g new.toArray) g new t := h.row new
set_option maxRecDepth 100000 in
set_option maxHeartbeats 4000000 in
theorem enFind_any (l : List Ent) (n : List UInt8) (sp : Option Addr) (cap : Nat) (hc : l.length ≤ cap) (hl : l.length < 1000000) (w : World) (hs : SrcE w sp l) :
    Calls Try.prog 16 #[.slice sp l.length cap, .string (str n)] w fun e w' => e = .returned (.tuple #[.agg (ecells ((findP n l).getD zeroEnt)).toArray, .bool (findP n l).isSome]) ∧ Below w.heap.size w w' := by
  obtain ⟨E0, hE0⟩ : ∃ E, zeroEnt = E := ⟨_, rfl⟩
  have hb1 : Below w.heap.size w (w.alloc (.cells (ecells E0).toArray 46)) := (Below.refl _ _).alloc (Nat.le_refl _) _
  have hcl := enPlace_any l n sp cap hc hl _ (hs.grown hb1)
  have hk1 : Blk (w.alloc (.cells (ecells E0).toArray 46)) w.heap.size (ecells E0) 46 := Blk.new' _ _ _ _ _ rfl rfl
  have HCL := Lib.hid hcl; have HB1 := Lib.hid hb1; have HK1 := Lib.hid hk1; have HS := Lib.hid hs; have HE0 := Lib.hid hE0
  obtain ⟨N, hN⟩ : ∃ N, l.length = N := ⟨_, rfl⟩
  rw [hN] at hc hl HCL ⊢
  have HN := Lib.hid hN; have HC := Lib.hid hc
  rw [hE0]
  generalize hPost : (fun (e : Ending) (w' : World) => e = .returned (.tuple #[.agg (ecells ((findP n l).getD E0)).toArray, .bool (findP n l).isSome]) ∧ Below w.heap.size w w') = Post
  have HP : Hid (∀ x b w', (findP n l).getD E0 = x → (findP n l).isSome = b → Below w.heap.size w w' → Post (.returned (.tuple #[.agg (ecells x).toArray, .bool b])) w') := Lib.hid fun x b w' h1 h2 h3 => by rw [← hPost, ← h1, ← h2]; exact ⟨rfl, h3⟩
  clear hcl hb1 hk1 hs hc hl hN hPost hE0
  go_enter Try.func16, Try.ntmps16
  go_upto_region 1 with fail
  rw [show w.alloc (.cells #[.string ⟨#[]⟩, .int .u16 0, .int .u8 0] 46) = w.alloc (.cells (ecells E0).toArray 46) from by rw [← HE0.out]; rfl]
  go_wp2_with fail
  refine HCL.out.mono ?_
  rintro e W2 ⟨rfl, hb2⟩
  have HK2 := Lib.hid (HK1.out.below hb2 HK1.out.lt)
  have HB2 : Hid (Below w.heap.size w W2) := Lib.hid (HB1.out.trans (hb2.mono HB1.out.size))
  have HS2 := Lib.hid (HS.out.grown HB2.out)
  clear hb2
  obtain ⟨G, hG⟩ : ∃ G, w.heap.size = G := ⟨_, rfl⟩
  rw [hG] at HK2 ⊢
  have HG := Lib.hid hG
  clear hG
  have hfin : ∀ x, Below w.heap.size w (W2.setRow G (ecells x).toArray) ∧ Blk (W2.setRow G (ecells x).toArray) G (ecells x) 46 := fun x => ⟨below_row HB2.out (by have := HG.out; omega) _, blk_row HK2.out⟩
  have HF := Lib.hid hfin
  clear hfin
  unfold idxP
  cases hf : l.findIdx? (eqB n) with
  | none =>
    have HPN := Lib.hid (place_none hf)
    clear hf
    go_upto_region 3 with fail
    refine wp_region_list ?_
    refine wpList_build' rfl 46 #[] rfl (ecells E0).toArray (by simp only [List.map_toArray, List.map_nil]; rw [← HE0.out]; exact built_E) ?_
    refine wpList_store_row rfl 46 (.tmp 4) (.tmp 12) rfl G (ecells E0).toArray rfl rfl 46 _ HK2.out (sizeEc E0) rfl (all_ec E0) ?_
    obtain ⟨hb3, hk3⟩ := HF.out E0
    generalize W2.setRow G (ecells E0).toArray = W3 at hb3 hk3 ⊢
    have C0 := hk3.cell (j := 0) rfl
    have C1 := hk3.cell (j := 1) rfl
    have C2 := hk3.cell (j := 2) rfl
    have HQ := Lib.hid (HP.out E0 false W3 (by rw [HPN.out]; rfl) (by rw [HPN.out]; rfl) hb3)
    clear hb3 hk3
    go_wp2_with fail
    exact bodyPost_ret (v := .tuple #[.agg (ecells E0).toArray, .bool false]) (by simp [results, Try.f16, go_sem, C0, C1, C2]) rfl HQ.out
  | some k =>
    obtain ⟨e, he, hp, hk⟩ := place_some hf
    obtain ⟨g, o, rfl, hg, hr⟩ := HS2.out (by omega)
    have HR := Lib.hid (hr k e he)
    have HKC : Hid (k < N ∧ N ≤ cap) := Lib.hid ⟨by rw [← HN.out]; exact hk, HC.out⟩
    have HPN := Lib.hid hp
    have k0 : ¬ (k : Int) < 0 := by omega
    clear hf he hp hk hg hr
    go_wp2_with (first | (refine e_val rfl (ex_iaE rfl rfl rfl HKC.out) ?_) | (refine e_val rfl (ex_ldE HR.out rfl rfl) ?_) | (refine wpList_store_row rfl 46 (.tmp 4) (.tmp 16) rfl G (ecells e).toArray rfl rfl 46 _ HK2.out (sizeEc e) rfl (all_ec e) ?_) | fail)
    obtain ⟨hb3, hk3⟩ := HF.out e
    generalize W2.setRow G (ecells e).toArray = W3 at hb3 hk3 ⊢
    have C0 := hk3.cell (j := 0) rfl
    have C1 := hk3.cell (j := 1) rfl
    have C2 := hk3.cell (j := 2) rfl
    have HQ := Lib.hid (HP.out e true W3 (by rw [HPN.out]; rfl) (by rw [HPN.out]; rfl) hb3)
    clear hb3 hk3
    go_wp2_with fail
    exact bodyPost_ret (v := .tuple #[.agg (ecells e).toArray, .bool true]) (by simp [results, Try.f16, go_sem, C0, C1, C2]) rfl HQ.out
end Go.Proofs.Ytlkhnmhhcagghaa
