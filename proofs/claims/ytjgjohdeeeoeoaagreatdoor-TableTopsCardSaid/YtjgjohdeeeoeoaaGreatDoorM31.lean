/- A leaf's inodes with items in their places. -/
import Derived.Test.YtjgjohdeeeoeoaaGreatDoorM30
namespace Go.Proofs.YtjgjohdeeeoeoaaGreatDoor
open Go.RowKit
attribute [local go_sem] Oper.semAt_some
def wth (ns : List Ino) (l : List Itm) : List Ino := l.foldl (fun a x => a.set (x.1 % 4) x.2) ns
theorem wth_snoc (ns : List Ino) (l : List Itm) (x : Itm) : wth ns (l ++ [x]) = (wth ns l).set (x.1 % 4) x.2 := by simp [wth]
theorem wth_ok : ∀ (l : List Itm) {ns : List Ino}, BOK ns → (∀ x ∈ l, Itm.OK x) → BOK (wth ns l)
  | [], _, h, _ => h
  | x :: l, ns, h, hl => wth_ok l (h.set _ (hl x (List.mem_cons_self ..)).2) (fun y hy => hl y (List.mem_cons_of_mem _ hy))
theorem rng_inT {w : World} {g : Nat} {x : Itm} {t : TypeId} (h : Blk w g (tcI x) t) : w.rangeAt g 1 (icells x.2) := h.range _ _ fun j v hv => by
  rw [Nat.add_comm]
  exact hv
theorem one_ti (x : Itm) : (tcI x).toArray.all (·.oneCell') = true := by
  rw [Array.all_eq_true_iff_forall_mem]
  intro v hv
  exact one_tcI x v (by simpa using hv)
theorem SrcT.at {w : World} {g o : Nat} {l : List Itm} (h : SrcT w (some ⟨g, o, none⟩) l) {i : Nat} {x : Itm} (hx : l[i]? = some x) : w.rangeAt g (o + i * 45) (tcI x) := by
  obtain ⟨g', o', e, _, hr⟩ := h (by have := (List.getElem?_eq_some_iff.1 hx).1; omega)
  injection e with e
  injection e with e1 e2 _
  rw [e1, e2]
  exact hr i x hx
theorem SrcT.form {w : World} {sp : Option Addr} {l : List Itm} (h : SrcT w sp l) (h0 : 0 < l.length) : ∃ g o, sp = some ⟨g, o, none⟩ ∧ g < w.heap.size := by
  obtain ⟨g, o, e, hg, _⟩ := h h0
  exact ⟨g, o, e, hg⟩
section
variable {ρ : Operand → Value} {o : Oper} {x y : Operand} {w : World}
theorem ex_rem4 {a : Nat} {t : TypeId} (ho : o.op = .binOp .rem 23 x y t) (hx : ρ x = .int .u16 (a : Int)) (hy : ρ y = .int .u16 4) : (execOp ρ o).run Tryz.prog w = .ok (.value (.int .u16 ((a % 4 : Nat) : Int))) w := by
  have e : (a : Int).tmod 4 = (a : Int) % 4 := Int.tmod_eq_emod_of_nonneg (by omega)
  unfold execOp
  simp only [ho]
  go_simp
theorem ex_iaBu {b k : Nat} (hk : k < 4) (ho : o.op = .indexAddr 104 x y) (hx : ρ x = .pointer (some ⟨b, 0, none⟩)) (hy : ρ y = .int .u16 (k : Int)) : (execOp ρ o).run Tryz.prog w = .ok (.value (.pointer (some ⟨b, k * 44, none⟩))) w := by
  have h1 : ¬ (4 : Int) ≤ (k : Int) := by omega
  have h2 : (k : Int) < 4 := by omega
  unfold execOp
  simp only [ho]
  go_simp
end
set_option maxRecDepth 100000 in
set_option maxHeartbeats 8000000 in
theorem tbWith_any (ns : List Ino) (h : BOK ns) (l : List Itm) (hok : ∀ x ∈ l, Itm.OK x) (sp : Option Addr) (cap : Nat) (hc : l.length ≤ cap) (hl : l.length ≤ 100000) (w : World) (hS : SrcT w sp l) : Calls Tryz.prog 39 #[.agg (bcells ns).toArray, .slice sp l.length cap] w fun e w' => e = .returned (.agg (bcells (wth ns l)).toArray) ∧ Below w.heap.size w w' := by
  have HP := Lib.hid h; have HOK := Lib.hid hok; have HS := Lib.hid hS
  have HX : Hid (∀ z, z = (bcells zeros4).toArray → AlW ns w ((w.alloc (.cells (bcells ns).toArray 104)).alloc (.cells z 104))) := Lib.hid (fun z hz => by
    subst hz
    exact ⟨(Blk.new _ _ _).alloc _, Blk.new' _ _ _ _ _ (by simp) rfl, ((Below.refl _ _).alloc (Nat.le_refl _) _).alloc (by simp) _⟩)
  obtain ⟨N, hN⟩ : ∃ N, l.length = N := ⟨_, rfl⟩
  rw [hN] at hc hl ⊢
  have HN := Lib.hid hN; have HC := Lib.hid hc; have HL := Lib.hid hl
  have HW0 : Hid (∀ k, BOK (wth ns (l.take k))) := Lib.hid fun k => wth_ok _ h (fun x hx => hok x (List.mem_of_mem_take hx))
  clear h hok hS hN hc hl
  go_enter Tryz.func39, Tryz.ntmps39
  go_upto_region 1 with fail
  refine (fun (k : ∀ W, AlW ns w W → Code.wp _ _ _ _ W) => k _ (HX.out _ rfl)) ?_
  intro W hW
  have HW := Lib.hid hW
  clear hW HX
  go_wp2_with fail
  go_loopw [9] (fun i wr => ∃ k : Nat, k ≤ N ∧ i = .int .i64 (k : Int) ∧ AlW (wth ns (l.take k)) w wr) (fun i _ => N - (intOf i).toNat)
  case atStart => exact ⟨0, by omega, rfl, by rw [List.take_zero]; exact HW.out⟩
  case round =>
    clear HW
    obtain ⟨k, hk, rfl, hW⟩ := hrel
    have HW := Lib.hid hW
    have wk1 := IntWalk.i64_in ((k : Int) + 1) (by have := HL.out; omega)
    clear hW
    by_cases hlt : k < N
    · obtain ⟨x, hx⟩ : ∃ x, l[k]? = some x := ⟨_, List.getElem?_eq_getElem (by have := HN.out; omega)⟩
      have HSR := Lib.hid (HS.out.grown HW.out.b)
      obtain ⟨g, o', rfl, hg⟩ := HS.out.form (by have := HN.out; omega)
      have HXO : Hid (Itm.OK x) := Lib.hid (HOK.out x (List.mem_of_getElem? hx))
      have HSZ : Hid ((Tryz.prog.info? 76).map (·.size) = some (tcI x).toArray.size) := Lib.hid (by rw [List.size_toArray, tcI_length HXO.out.2]; exact sizeTm)
      have HLZ : Hid ((tcI x).toArray.size = 45) := Lib.hid (by rw [List.size_toArray, tcI_length HXO.out.2])
      have HRG := Lib.hid (HSR.out.at hx)
      have HX := Lib.hid hx
      have hcn : ¬ N ≤ k := by omega
      have hcc : N ≤ cap := HC.out
      clear hx hg HSR
      go_upto_region 4 with (first | (refine wpL_val rfl (ex_ld (ty := 76) (cs := tcI x) rfl rfl HRG.out Tryz.underlying76 rfl (by rw [sizeTm, tcI_length HXO.out.2])) ?_) | (refine wpList_store_row rfl 76 (.tmp 6) (.tmp 12) rfl wr.heap.size (tcI x).toArray rfl rfl 76 _ (heap_alloc_new wr _) HSZ.out (by rw [HLZ.out]; rfl) (one_ti x) ?_) | fail)
      refine (fun (k : ∀ W, Blk W wr.heap.size (tcI x) 76 → Below wr.heap.size wr W → Code.wp _ _ _ _ W) => k _ (blk_row1 wr _ (tcI x) 76).1 (blk_row1 wr _ (tcI x) 76).2) ?_
      intro W5 hx5 hb5
      obtain ⟨B, hB⟩ : ∃ B, wr.heap.size = B := ⟨_, rfl⟩
      have HW5 := Lib.hid (HW.out.grown hb5)
      rw [hB] at hx5 ⊢
      have HR5 := Lib.hid (rng_inT hx5)
      have c0 := hx5.cell (j := 0) rfl
      obtain ⟨xo, hxo⟩ : ∃ n, x.1 = n := ⟨_, rfl⟩
      obtain ⟨q, hq⟩ : ∃ n, x.2 = n := ⟨_, rfl⟩
      have HQO : Hid q.OK := Lib.hid (by rw [← hq]; exact HXO.out.2)
      rw [hq] at HR5
      have HN7 := Lib.hid (HW5.out.put (HW0.out k) (k := xo % 4) (by omega) HQO.out)
      have HTK : Hid ((wth ns (l.take k)).set (xo % 4) q = wth ns (l.take (k + 1))) := Lib.hid (by rw [List.take_add_one, HX.out, Option.toList_some, wth_snoc, hxo, hq])
      rw [HTK.out] at HN7
      rw [hxo] at c0
      have HTH : Hid (W5.there w.heap.size (xo % 4 * 44) (icells q).toArray.size) := Lib.hid (HW5.out.a.there _ _ (by rw [List.size_toArray, icells_length HQO.out, (HW0.out k).cells]; omega))
      have HSI := Lib.hid (size_icI HQO.out)
      have HX4 : Hid (xo % 4 < 4) := Lib.hid (by omega)
      clear hx5 hb5 hB HW HRG hxo hq HTK
      go_wp2_with (first | (refine wpL_val rfl (ex_rem4 rfl rfl rfl) ?_) | (refine wpL_val rfl (ex_ld (ty := 68) (cs := icells q) rfl rfl HR5.out Tryz.underlying68 rfl (by rw [sizeIn, icells_length HQO.out])) ?_) | (refine wpL_val rfl (ex_iaBu HX4.out rfl rfl rfl) ?_) | (refine wpList_store_mid rfl 68 (.tmp 18) (.tmp 17) rfl w.heap.size (xo % 4 * 44) (icells q).toArray rfl rfl HTH.out HSI.out (one_ic q) ?_) | fail)
      go_roundw
      case rel => exact ⟨k + 1, by omega, by go_num, HN7.out⟩
      case measure => simp [intOf]; omega
    · obtain rfl : k = N := by omega
      have HAO := Lib.hid (HW0.out k)
      have hal : l.take k = l := List.take_of_length_le (by have := HN.out; omega)
      rw [hal] at HW HAO
      have HST := Lib.hid (size_bcB HAO.out)
      have HSZ : Hid ((bcells zeros4).toArray.size = (bcells (wth ns l)).toArray.size) := Lib.hid (by rw [zeros4_ok.size, HAO.out.size])
      have HON := Lib.hid (bcells_one (wth ns l))
      clear hlt hk hal
      go_wp2_with (first | (refine wpL_val rfl (ex_ldBn HAO.out HW.out.a rfl rfl) ?_) | (refine wpList_store_row rfl 104 (.tmp 4) (.tmp 20) rfl (w.heap.size + 1) (bcells (wth ns l)).toArray rfl rfl 104 _ HW.out.r HST.out HSZ.out HON.out ?_) | fail)
      exact bodyPost_ret (results_cell_row Tryz.results39 _ _ (w.heap.size + 1) 104 _ _ _ rfl (HW.out.r.row _) Tryz.underlying104 rfl HST.out) rfl ⟨rfl, below_row HW.out.b (by omega) _⟩
def itm1 (off k : Nat) (n : Ino) : List Itm := if numOk (off * 4 + k) = true ∧ eqI n zeroI = false then [(off * 4 + k, n)] else []
def itmK (off : Nat) (ns : List Ino) (k : Nat) : List Itm := (List.range k).flatMap fun j => itm1 off j (ns.getD j zeroI)
theorem itmK_succ (off : Nat) (ns : List Ino) (k : Nat) : itmK off ns (k + 1) = itmK off ns k ++ itm1 off k (ns.getD k zeroI) := by simp [itmK, List.range_succ]
theorem itm1_len (off k : Nat) (n : Ino) : (itm1 off k n).length ≤ 1 := by unfold itm1; split <;> simp
theorem itmK_len (off : Nat) (ns : List Ino) : ∀ k, (itmK off ns k).length ≤ k
  | 0 => by simp [itmK]
  | k + 1 => by rw [itmK_succ, List.length_append]; have := itmK_len off ns k; have := itm1_len off k (ns.getD k zeroI); omega
structure TiS (w : World) (ns : List Ino) (ov : Value) (ls : List Itm) (X : World) : Prop where
  bel : Below w.heap.size w X
  box : Blk X w.heap.size (bcells ns) 104
  out : OwnT X (w.heap.size + 1) ov ls
theorem TiS.below {w : World} {ns : List Ino} {ov : Value} {ls : List Itm} {X Y : World} (h : TiS w ns ov ls X) (hb : Below X.heap.size X Y) : TiS w ns ov ls Y :=
  ⟨h.bel.trans (hb.mono h.bel.size), h.box.below hb h.box.lt, owns_chg h.out (Chg.of_below (F := fun _ => False) hb) (fun _ _ h => h)⟩
theorem TiS.app {w : World} {ns : List Ino} {ov : Value} {ls : List Itm} {X Y : World} (h : TiS w ns ov ls X) {x : Itm} (hx : x.2.OK) (hl : ls.length < 100000000) {g : Nat} {t : TypeId} (hb : Below X.heap.size X Y) (hg : Blk Y g (tcI x) t) (ty : TypeId) :
    ∃ v' w', (Builtin.append_ #[55, 55] ty #[ov, .slice (some ⟨g, 0, none⟩) 1 1]).run Tryz.prog Y = .ok v' w' ∧ TiS w ns v' (ls ++ [x]) w' := by
  have h' := h.below hb
  have hsz := h'.box.lt
  obtain ⟨v', w', hr, ho, hgr, _⟩ := ownT_app h'.out (by omega) hl hx hg ty
  refine ⟨v', w', hr, ?_, ?_, ho⟩
  · refine ⟨hgr.os.trans h'.bel.os, hgr.tape.trans h'.bel.tape, hgr.output.trans h'.bel.output, Nat.le_trans h'.bel.size hgr.size, fun k hk => ?_⟩
    rw [hgr.block k (Nat.lt_of_lt_of_le hk h'.bel.size) (fun e => by have := (h'.out.lt k e.symm).1; omega)]
    exact h'.bel.block k hk
  · unfold Blk
    rw [hgr.block _ hsz (fun e => by have := (h'.out.lt _ e.symm).1; omega)]
    exact h'.box
theorem own_baseT {X : World} {B B' : Nat} {v : Value} {l : List Itm} (h : OwnT X B v l) (hB : B' ≤ B) : OwnT X B' v l := by
  obtain ⟨h1, h2⟩ := h
  refine ⟨h1, ?_⟩
  rcases h2 with h2 | ⟨g, cap, cur, e, hb, h3⟩
  · exact .inl h2
  · exact .inr ⟨g, cap, cur, e, by omega, h3⟩
theorem builtTm (parts : List (Nat × Value)) : Tryz.prog.built 76 parts = Instr.fill ((#[(0, 1), (1, 44)] : Array (Nat × Nat))[·]?) (tcI (0, zeroI)).toArray parts := by kernel_rfl
section
variable {ρ : Operand → Value} {o : Oper} {x y : Operand} {w : World}
theorem ex_bldTm {f : Nat} {p : Ino} (hp : p.OK) (ho : o.op = .build 76 #[(0, x), (1, y)]) (hx : ρ x = .int .u16 (f : Int)) (hy : ρ y = .agg (icells p).toArray) : (execOp ρ o).run Tryz.prog w = .ok (.value (.agg (tcI (f, p)).toArray)) w := by
  have hl := icells_length hp
  have hz : (tcI (0, zeroI)).toArray.size = 45 := by rw [List.size_toArray]; exact tcI_length zeroI_ok
  have hr : (Instr.build 76 #[(0, .int .u16 (f : Int)), (1, .agg (icells p).toArray)]).run Tryz.prog w = .ok (.agg (tcI (f, p)).toArray) w := run_build w 76 _ _ (by
    rw [builtTm]
    show Instr.fill _ _ [(0, .int .u16 (f : Int)), (1, .agg (icells p).toArray)] = _
    rw [fill_oneL (i := 0) (off := 0) (size := 1) rfl rfl (by rw [hz]; omega)]
    have e1 : splice (tcI (0, zeroI)).toArray.toList 0 (Value.int .u16 (f : Int)).cells.toList = tcI (f, zeroI) := rfl
    rw [e1, fill_oneL (i := 1) (off := 1) (size := 44) rfl (by simp [Value.cells, hl]) (by rw [List.size_toArray, tcI_length zeroI_ok]; omega)]
    have e2 : splice (tcI (f, zeroI)).toArray.toList 1 (Value.agg (icells p).toArray).cells.toList = tcI (f, p) := by
      unfold splice
      show (Value.int .u16 (f : Int) :: icells zeroI).take 1 ++ icells p ++ (Value.int .u16 (f : Int) :: icells zeroI).drop (1 + (icells p).length) = Value.int .u16 (f : Int) :: icells p
      rw [List.drop_of_length_le (by simp [hl, icells_length zeroI_ok])]
      simp
    rw [e2]
    rfl)
  unfold execOp
  simp only [ho]
  rw [show (Array.map (fun x : Nat × Operand => (x.1, ρ x.2)) #[(0, x), (1, y)]) = #[(0, .int .u16 (f : Int)), (1, .agg (icells p).toArray)] by simp [hx, hy]]
  simp only [Sem.run_bind, hr, Result.andThen_ok, Sem.run_pure]
theorem ex_cv32T {a : Nat} (ha : a < 65536) (ho : o.op = .convert 24 23 x) (hx : ρ x = .int .u32 (a : Int)) : (execOp ρ o).run Tryz.prog w = .ok (.value (.int .u16 (a : Int))) w := by
  have h : IntKind.u16.wrap (a : Int) = (a : Int) := by simp only [IntKind.wrap_u16]; omega
  unfold execOp
  simp only [ho]
  go_simp
theorem ex_cv64T {a : Nat} (ha : a < 65536) (ho : o.op = .convert 3 23 x) (hx : ρ x = .int .i64 (a : Int)) : (execOp ρ o).run Tryz.prog w = .ok (.value (.int .u16 (a : Int))) w := by
  have h : IntKind.u16.wrap (a : Int) = (a : Int) := by simp only [IntKind.wrap_u16]; omega
  unfold execOp
  simp only [ho]
  go_simp
theorem ex_mulT {a : Nat} {t : TypeId} (ha : a * 4 < 65536) (ho : o.op = .binOp .mul 23 x y t) (hx : ρ x = .int .u16 (a : Int)) (hy : ρ y = .int .u16 4) : (execOp ρ o).run Tryz.prog w = .ok (.value (.int .u16 ((a * 4 : Nat) : Int))) w := by
  have h : IntKind.u16.wrap ((a : Int) * 4) = ((a * 4 : Nat) : Int) := by simp only [IntKind.wrap_u16]; omega
  unfold execOp
  simp only [ho]
  go_simp
theorem ex_addT {a b : Nat} {t : TypeId} (ha : a + b < 65536) (ho : o.op = .binOp .add 23 x y t) (hx : ρ x = .int .u16 (a : Int)) (hy : ρ y = .int .u16 (b : Int)) : (execOp ρ o).run Tryz.prog w = .ok (.value (.int .u16 ((a + b : Nat) : Int))) w := by
  have h : IntKind.u16.wrap ((a : Int) + (b : Int)) = ((a + b : Nat) : Int) := by simp only [IntKind.wrap_u16]; omega
  unfold execOp
  simp only [ho]
  go_simp
end
def ItPost (w : World) (off : Nat) (ns : List Ino) (e : Ending) (Y : World) : Prop := ∃ ov, e = .returned ov ∧ Below w.heap.size w Y ∧ OwnT Y w.heap.size ov (itmK off ns 4)
set_option maxRecDepth 100000 in
set_option maxHeartbeats 8000000 in
theorem tbItems_any (off : Nat) (hoff : off < 16000) (ns : List Ino) (h : BOK ns) (w : World) : Calls Tryz.prog 47 #[.int .u32 (off : Int), .agg (bcells ns).toArray] w (ItPost w off ns) := by
  have HP := Lib.hid h; have HOF := Lib.hid hoff
  have HX : Hid (TiS w ns (.slice none 0 0) [] (w.alloc (.cells (bcells ns).toArray 104))) := Lib.hid ⟨(Below.refl _ _).alloc (Nat.le_refl _) _, Blk.new _ _ _, ⟨rfl, .inl ⟨rfl, rfl⟩⟩⟩
  generalize hPost : ItPost w off ns = Post
  have HPO : Hid (∀ v Y, TiS w ns v (itmK off ns 4) Y → Post (.returned v) Y) := Lib.hid fun v Y hs => by rw [← hPost]; exact ⟨v, rfl, hs.bel, own_baseT hs.out (by omega)⟩
  clear h hoff hPost
  go_enter Tryz.func47, Tryz.ntmps47
  go_upto_region 1 with fail
  refine (fun (k : ∀ W, TiS w ns (.slice none 0 0) [] W → Code.wp _ _ _ _ W) => k _ HX.out) ?_
  intro W hW
  have HW := Lib.hid hW
  clear hW HX
  go_wp2_with (first | (refine wpL_val rfl (ex_ldBn HP.out HW.out.box rfl rfl) ?_) | fail)
  go_loopw [5, 10] (fun v i wr => ∃ k : Nat, k ≤ 4 ∧ i = .int .i64 (k : Int) ∧ TiS w ns v (itmK off ns k) wr) (fun _ i _ => 4 - (intOf i).toNat)
  case atStart => exact ⟨0, by omega, rfl, HW.out⟩
  case round =>
    clear HW
    obtain ⟨k, hk, rfl, hW⟩ := hrel
    have HW := Lib.hid hW
    have wk1 := IntWalk.i64_in ((k : Int) + 1) (by omega)
    clear hW
    by_cases hlt : k < 4
    · obtain ⟨n, hn⟩ := HP.out.get hlt
      have hix : ∀ W : World, (Instr.index 104 (.agg (bcells ns).toArray) (.int .i64 (k : Int))).run Tryz.prog W = .ok (.agg (icells n).toArray) W := fun W => run_ixI Tryz.underlying104 HP.out hn W
      have HNO := Lib.hid (HP.out.at hn)
      have HST := Lib.hid (size_icI HNO.out)
      have HLP : Hid ((icells n).toArray.size = 44) := Lib.hid (by rw [List.size_toArray, icells_length HNO.out])
      have HSU : Hid (itmK off ns (k + 1) = itmK off ns k ++ itm1 off k n) := Lib.hid (by rw [itmK_succ, List.getD_eq_getElem?_getD, hn]; rfl)
      have HLE : Hid ((itmK off ns k).length < 100000000) := Lib.hid (by have := itmK_len off ns k; omega)
      clear hn
      go_upto_region 5 with (first | (refine wpList_store_row rfl 68 (.tmp 7) (.tmp 13) rfl wr.heap.size (icells n).toArray rfl rfl 68 _ (heap_alloc_new wr _) HST.out (by rw [HLP.out]; rfl) (one_ic n) ?_) | fail)
      refine (fun (k : ∀ W, Blk W wr.heap.size (icells n) 68 → Below wr.heap.size wr W → Code.wp _ _ _ _ W) => k _ (blk_row1 wr _ (icells n) 68).1 (blk_row1 wr _ (icells n) 68).2) ?_
      intro W5 hx5 hb5
      obtain ⟨g4, hg4⟩ : ∃ g, wr.heap.size = g := ⟨_, rfl⟩
      have HW5 := Lib.hid (HW.out.below hb5)
      rw [hg4] at hx5 ⊢
      have HX5 := Lib.hid hx5
      clear hx5 hb5 hg4 HW
      obtain ⟨num, hnum⟩ : ∃ m, off * 4 + k = m := ⟨_, rfl⟩
      have HNU : Hid (num < 65536) := Lib.hid (by have := HOF.out; omega)
      have HNE := Lib.hid hnum
      have HK4 := Lib.hid hlt
      have HSN : Hid (itmK off ns (k + 1) = itmK off ns k ++ (if numOk num = true ∧ eqI n zeroI = false then [(num, n)] else [])) := Lib.hid (by rw [HSU.out]; unfold itm1; rw [hnum])
      clear hnum hlt HSU
      go_wp2_with (first | (refine wpL_val rfl (ex_cv32T (by have := HOF.out; omega) rfl rfl) ?_) | (refine wpL_val rfl (ex_mulT (a := off) (by have := HOF.out; omega) rfl rfl rfl) ?_) | (refine wpL_val rfl (ex_cv64T (by have := HK4.out; omega) rfl rfl) ?_) | (refine wpL_val rfl ((ex_addT (a := off * 4) (b := k) (by have := HNU.out; have := HNE.out; omega) rfl rfl rfl).trans (by rw [HNE.out])) ?_) | fail)
      refine (tbNum_any num HNU.out W5).mono ?_
      rintro e w6 ⟨rfl, rfl⟩
      cases hm : numOk num
      · have HN7 : Hid (itmK off ns (k + 1) = itmK off ns k) := Lib.hid (by rw [HSN.out, hm, if_neg (by simp), List.append_nil])
        clear hm
        go_wp2_with fail
        go_roundw
        case rel => exact ⟨k + 1, by have := HK4.out; omega, by go_num, by rw [HN7.out]; exact HW5.out⟩
        case measure => simp [intOf]; have := HK4.out; omega
      · cases hz : eqI n zeroI
        · obtain ⟨v5, w5, hr5, hs5⟩ := HW5.out.app (x := (num, n)) HNO.out HLE.out ((Below.refl _ _).alloc (Nat.le_refl _) (.cells (tcI (num, n)).toArray 76)) (Blk.new w6 (tcI (num, n)) 76) 55
          have HZ := Lib.hid hz
          have HR5 := Lib.hid hr5
          have HS5 : Hid (TiS w ns v5 (itmK off ns (k + 1)) w5) := Lib.hid (by rw [HSN.out, hm, if_pos ⟨rfl, hz⟩]; exact hs5)
          clear hm hz hr5 hs5 HSN HW5
          go_wp2_with (first | (refine wpL_valG (by rfl) (ex_ldIn HNO.out HX5.out rfl rfl) ?_) | (refine wpL_valG (by rfl) (ex_bldI0 rfl) ?_) | (refine wpL_valG (by rfl) ((ex_neIn HNO.out zeroI_ok rfl rfl rfl).trans (by rw [HZ.out])) ?_) | (refine wpL_val rfl (ex_bldTm (f := num) HNO.out rfl rfl rfl) ?_) | (refine wpL_val rfl (ex_oneTm (l := (num, n)) HNO.out rfl rfl) ?_) | (at_builtin; refine wpL_val rfl (ex_appTm rfl rfl rfl HR5.out) ?_) | fail)
          go_roundw
          case rel => exact ⟨k + 1, by have := HK4.out; omega, by go_num, HS5.out⟩
          case measure => simp [intOf]; have := HK4.out; omega
        · have HZ := Lib.hid hz
          have HN7 : Hid (itmK off ns (k + 1) = itmK off ns k) := Lib.hid (by rw [HSN.out, hz, if_neg (by simp), List.append_nil])
          clear hm hz HSN
          go_wp2_with (first | (refine wpL_valG (by rfl) (ex_ldIn HNO.out HX5.out rfl rfl) ?_) | (refine wpL_valG (by rfl) (ex_bldI0 rfl) ?_) | (refine wpL_valG (by rfl) ((ex_neIn HNO.out zeroI_ok rfl rfl rfl).trans (by rw [HZ.out])) ?_) | fail)
          go_roundw
          case rel => exact ⟨k + 1, by have := HK4.out; omega, by go_num, by rw [HN7.out]; exact HW5.out⟩
          case measure => simp [intOf]; have := HK4.out; omega
    · obtain rfl : k = 4 := by omega
      have HE := Lib.hid (HPO.out _ _ HW.out)
      rw [show ((4 : Nat) : Int) = (4 : Int) from rfl]
      clear hlt hk HW
      go_wp2_with fail
      first | exact HE.out | (go_ret; exact HE.out)
def goodT (l : List Itm) (i : Nat) : Bool := match l[i]? with
  | some x => numOk x.1 && (decide (i = 0) || decide ((l.getD (i - 1) (0, zeroI)).1 < x.1)) && mayI x.2
  | none => true
def setT (l : List Itm) : Bool := (List.range l.length).all (goodT l)
theorem setT_no {l : List Itm} {k : Nat} (hk : k < l.length) (h : goodT l k = false) : setT l = false := by
  unfold setT
  rw [List.all_eq_false]
  exact ⟨k, List.mem_range.2 hk, by simp [h]⟩
theorem setT_yes {l : List Itm} (h : ∀ i, i < l.length → goodT l i = true) : setT l = true := by
  unfold setT
  rw [List.all_eq_true]
  exact fun i hi => h i (List.mem_range.1 hi)
theorem ex_le16T {ρ : Operand → Value} {o : Oper} {x y : Operand} {w : World} {a b : Nat} {t : TypeId} (ho : o.op = .binOp .leq 23 x y t) (hx : ρ x = .int .u16 (a : Int)) (hy : ρ y = .int .u16 (b : Int)) : (execOp ρ o).run Tryz.prog w = .ok (.value (.bool (decide (a ≤ b)))) w := by
  have e : decide ((a : Int) ≤ (b : Int)) = decide (a ≤ b) := by
    rw [Bool.eq_iff_iff]; simp
  unfold execOp
  simp only [ho]
  go_simp
structure StTm (sp : Option Addr) (l : List Itm) (w W : World) : Prop where
  src : SrcT W sp l
  tab : RTab W
  bel : Below w.heap.size w W
theorem StTm.drewS {sp : Option Addr} {l : List Itm} {w W : World} (h : StTm sp l w W) : StTm sp l w W.drew := ⟨h.src.drew, h.tab.grown (Below.refl _ _).drew, h.bel.drew⟩
theorem StTm.grown {sp : Option Addr} {l : List Itm} {w W W' : World} (h : StTm sp l w W) (hb : Below W.heap.size W W') : StTm sp l w W' := ⟨h.src.grown hb, h.tab.grown hb, h.bel.trans (hb.mono h.bel.size)⟩
set_option maxRecDepth 100000 in
set_option maxHeartbeats 8000000 in
theorem tbSettable_any (l : List Itm) (hok : ∀ x ∈ l, Itm.OK x) (sp : Option Addr) (cap : Nat) (hc : l.length ≤ cap) (hl : l.length ≤ 1000) (w : World) (hS : SrcT w sp l) (hT : RTab w) : Calls Tryz.prog 34 #[.slice sp l.length cap] w fun e w' => e = .returned (.bool (setT l)) ∧ Below w.heap.size w w' := by
  have HOK := Lib.hid hok
  have HX : Hid (StTm sp l w w) := Lib.hid ⟨hS, hT, Below.refl _ _⟩
  obtain ⟨N, hN⟩ : ∃ N, l.length = N := ⟨_, rfl⟩
  rw [hN] at hc hl ⊢
  have HN := Lib.hid hN; have HC := Lib.hid hc; have HL := Lib.hid hl
  obtain ⟨rs, hrs⟩ : ∃ b, setT l = b := ⟨_, rfl⟩
  have HRS := Lib.hid hrs
  rw [hrs]
  generalize hPost : (fun e w' => e = Ending.returned (.bool rs) ∧ Below w.heap.size w w') = Post
  have HP : Hid (∀ w', Below w.heap.size w w' → Post (.returned (.bool rs)) w') := Lib.hid fun w' h => by rw [← hPost]; exact ⟨rfl, h⟩
  clear hok hS hT hN hc hl hrs hPost
  go_enter Tryz.func34, Tryz.ntmps34
  go_wp2_with fail
  go_loopw [7] (fun v wr => ∃ k : Nat, k ≤ N ∧ v = .int .i64 (k : Int) ∧ (∀ i, i < k → goodT l i = true) ∧ StTm sp l w wr) (fun v _ => N - (intOf v).toNat)
  case atStart => exact ⟨0, by omega, rfl, fun i hi => by omega, HX.out⟩
  case round =>
    clear HX
    obtain ⟨k, hk, rfl, hgood, hst⟩ := hrel
    have HG := Lib.hid hgood; have HST := Lib.hid hst
    clear hgood hst
    have wk1 := IntWalk.i64_in ((k : Int) + 1) (by have := HL.out; omega)
    by_cases hlt : k < N
    · obtain ⟨x, hx⟩ : ∃ x, l[k]? = some x := ⟨_, List.getElem?_eq_getElem (by have := HN.out; omega)⟩
      obtain ⟨g, o', rfl, hg⟩ := HST.out.src.form (by have := HN.out; omega)
      have HXO : Hid (Itm.OK x) := Lib.hid (HOK.out x (List.mem_of_getElem? hx))
      have HSZ : Hid ((Tryz.prog.info? 76).map (·.size) = some (tcI x).toArray.size) := Lib.hid (by rw [List.size_toArray, tcI_length HXO.out.2]; exact sizeTm)
      have HLZ : Hid ((tcI x).toArray.size = 45) := Lib.hid (by rw [List.size_toArray, tcI_length HXO.out.2])
      have HRG := Lib.hid (HST.out.src.at hx)
      have HX := Lib.hid hx
      have HKN : Hid (k < N ∧ N ≤ cap) := Lib.hid ⟨hlt, HC.out⟩
      have hcn : ¬ N ≤ k := by omega
      clear hx hg
      go_upto_region 4 with (first | (refine wpL_val rfl (ex_ld (ty := 76) (cs := tcI x) rfl rfl HRG.out Tryz.underlying76 rfl (by rw [sizeTm, tcI_length HXO.out.2])) ?_) | (refine wpList_store_row rfl 76 (.tmp 4) (.tmp 11) rfl wr.heap.size (tcI x).toArray rfl rfl 76 _ (heap_alloc_new wr _) HSZ.out (by rw [HLZ.out]; rfl) (one_ti x) ?_) | fail)
      refine (fun (k : ∀ W, Blk W wr.heap.size (tcI x) 76 → Below wr.heap.size wr W → Code.wp _ _ _ _ W) => k _ (blk_row1 wr _ (tcI x) 76).1 (blk_row1 wr _ (tcI x) 76).2) ?_
      intro W5 hx5 hb5
      obtain ⟨B, hB⟩ : ∃ B, wr.heap.size = B := ⟨_, rfl⟩
      have HST5 := Lib.hid (HST.out.grown hb5)
      rw [hB] at hx5 ⊢
      have HX5 := Lib.hid hx5
      have c0 := hx5.cell (j := 0) rfl
      obtain ⟨xo, hxo⟩ : ∃ n, x.1 = n := ⟨_, rfl⟩
      rw [hxo] at c0
      have HXo := Lib.hid hxo
      have HXB : Hid (xo < 65536) := Lib.hid (by rw [← hxo]; exact HXO.out.1)
      clear hx5 hb5 hB hxo HST HRG
      go_wp2_with fail
      refine (tbNum_any xo HXB.out W5).mono ?_
      rintro e w6 ⟨rfl, rfl⟩
      clear c0
      cases hnk : numOk xo
      · have hno : goodT l k = false := by unfold goodT; rw [HX.out]; simp [HXo.out, hnk]
        obtain rfl : rs = false := by rw [← HRS.out]; exact setT_no (by have := HN.out; omega) hno
        have HE := Lib.hid (HP.out w6 HST5.out.bel)
        clear hno hnk
        go_wp2_with fail
        first | exact HE.out | (go_ret; exact HE.out)
      · have HNK := Lib.hid hnk
        clear hnk
        by_cases hk0 : k = 0
        · subst hk0
          have hk0' : ¬ (0 : Int) < ((0 : Nat) : Int) := by omega
          go_upto_region 5 with fail
          refine gS (.take 0 (.take 1 (.take 2 (.take 3 (.take 4 (.take 5 (.take 6 (.take 7 (.take 8 (.take 9 (.take 10 (.take 11 (.take 12 (.take 13 (.nil))))))))))))))) (fun X => StTm (some ⟨g, o', none⟩) l w X ∧ Blk X B (tcI x) 76) (⟨HST5.out.drewS, HX5.out.drew⟩) ?_
          refine gT (.int .i64 ((0 : Nat) : Int)) ?_; try simp only [pS]
          refine gT (.bool false) ?_; try simp only [pS]
          refine gT (.bool false) ?_; try simp only [pS]
          refine wpG_pass _ rfl (by rfl) ?_; try simp only [pS]
          refine wpG_pass _ rfl (by rfl) ?_; try simp only [pS]
          refine wpG_pass _ rfl (by rfl) ?_; try simp only [pS]
          refine wpG_pass _ rfl (by rfl) ?_; try simp only [pS]
          refine wpG_pass _ rfl (by rfl) ?_; try simp only [pS]
          refine wpG_pass _ rfl (by rfl) ?_; try simp only [pS]
          refine wpG_pass _ rfl (by rfl) ?_; try simp only [pS]
          refine wpG_pass _ rfl (by rfl) ?_; try simp only [pS]
          refine wpG_pass _ rfl (by rfl) ?_; try simp only [pS]
          refine gT (.bool false) ?_; try simp only [pS]
          refine gT (.bool false) ?_; try simp only [pS]
          refine wpG_nil ?_
          have HST6 := Lib.hid HST5.out.drewS
          have HX6 := Lib.hid HX5.out.drew
          clear HST5 HX5
          go_wp2_with (first | (refine wpL_val rfl (ex_ld (ty := 68) (cs := icells x.2) rfl rfl (rng_inT HX6.out) Tryz.underlying68 rfl (by rw [sizeIn, icells_length HXO.out.2])) ?_) | fail)
          refine (imay_any x.2 HXO.out.2 _ HST6.out.tab).mono ?_
          rintro e W8 ⟨rfl, hb8⟩
          have HST8 := Lib.hid (HST6.out.grown hb8)
          clear hb8 HST6 HX6
          cases hm : mayI x.2
          · have hno : goodT l 0 = false := by unfold goodT; rw [HX.out]; simp [hm]
            obtain rfl : rs = false := by rw [← HRS.out]; exact setT_no (by have := HN.out; omega) hno
            have HE := Lib.hid (HP.out _ HST8.out.bel)
            clear hno
            go_wp2_with fail
            first | exact HE.out | (go_ret; exact HE.out)
          · have hyes : goodT l 0 = true := by
              unfold goodT
              rw [HX.out]
              have h1 := HXo.out
              have h2 := HNK.out
              simp [hm, h1, h2]
            have HGN : Hid (∀ i, i < 0 + 1 → goodT l i = true) := Lib.hid (fun i hi => by
              by_cases e : i = 0
              · rw [e]; exact hyes
              · exact HG.out i (by omega))
            clear hyes
            go_wp2_with fail
            go_roundw
            case rel => exact ⟨0 + 1, by omega, by go_num, HGN.out, HST8.out⟩
            case measure => simp [intOf]; omega
        · obtain ⟨k1, rfl⟩ : ∃ k1, k = k1 + 1 := ⟨k - 1, by omega⟩
          obtain ⟨y, hy⟩ : ∃ y, l[k1]? = some y := ⟨_, List.getElem?_eq_getElem (by have := HN.out; omega)⟩
          have HY := Lib.hid hy
          have HYR : Hid (∀ X, StTm (some ⟨g, o', none⟩) l w X → X.rangeAt g (o' + k1 * 45) (tcI y)) := Lib.hid (fun X hX => hX.src.at hy)
          obtain ⟨yo, hyo⟩ : ∃ n, y.1 = n := ⟨_, rfl⟩
          have HYo := Lib.hid hyo
          have hkp : (0 : Int) < ((k1 + 1 : Nat) : Int) := by omega
          have hsb := IntWalk.i64_in ((k1 : Int)) (by have := HL.out; omega)
          have wk2 := IntWalk.i64_in ((k1 : Int) + 1 + 1) (by have := HL.out; omega)
          have HK1 : Hid (k1 < N ∧ N ≤ cap) := Lib.hid ⟨by omega, HC.out⟩
          clear hy hyo
          go_upto_region 5 with fail
          refine gS (.take 0 (.take 1 (.take 2 (.take 3 (.take 4 (.take 5 (.take 6 (.take 7 (.take 8 (.take 9 (.take 10 (.take 11 (.take 12 (.take 13 (.nil))))))))))))))) (fun X => StTm (some ⟨g, o', none⟩) l w X ∧ Blk X B (tcI x) 76) (⟨HST5.out.drewS, HX5.out.drew⟩) ?_
          refine gT (.int .i64 ((k1 + 1 : Nat) : Int)) ?_; try simp only [pS]
          refine gT (.bool true) ?_; try simp only [pS]
          refine gT (.bool true) ?_; try simp only [pS]
          refine gT (.pointer (some ⟨B, 0, none⟩)) ?_; try simp only [pS]
          refine wpG_take _ (.int .u16 (xo : Int)) rfl (by rfl) (fun X hX => (ex_ld1 Tryz.underlying23 rfl rfl (hX.2.cell (j := 0) rfl)).trans (by rw [HXo.out])) ?_; try simp only [pS]
          refine gT (.slice (some ⟨g, o', none⟩) N cap) ?_; try simp only [pS]
          refine gT (.int .i64 ((k1 + 1 : Nat) : Int)) ?_; try simp only [pS]
          refine gT (.int .i64 (k1 : Int)) ?_; try simp only [pS]
          refine wpG_take _ (.pointer (some ⟨g, o' + k1 * 45, none⟩)) rfl (by rfl) (fun X hX => ex_iaTm rfl rfl rfl HK1.out) ?_; try simp only [pS]
          refine gT (.pointer (some ⟨g, o' + k1 * 45, none⟩)) ?_; try simp only [pS]
          refine wpG_take _ (.int .u16 (yo : Int)) rfl (by rfl) (fun X hX => (ex_ld1 Tryz.underlying23 rfl rfl (rng_numT (HYR.out X hX.1))).trans (by rw [HYo.out])) ?_; try simp only [pS]
          refine wpG_take _ (.bool (decide (xo ≤ yo))) rfl (by rfl) (fun X hX => ex_le16T rfl rfl rfl) ?_; try simp only [pS]
          refine gT (.bool (decide (xo ≤ yo))) ?_; try simp only [pS]
          refine gT (.bool (decide (xo ≤ yo))) ?_; try simp only [pS]
          refine wpG_nil ?_
          have HST6 := Lib.hid HST5.out.drewS
          have HX6 := Lib.hid HX5.out.drew
          clear HST5 HX5
          cases hle : decide (xo ≤ yo)
          · have hlt2 : ¬ xo ≤ yo := by simpa using hle
            go_wp2_with (first | (refine wpL_val rfl (ex_ld (ty := 68) (cs := icells x.2) rfl rfl (rng_inT HX6.out) Tryz.underlying68 rfl (by rw [sizeIn, icells_length HXO.out.2])) ?_) | fail)
            refine (imay_any x.2 HXO.out.2 _ HST6.out.tab).mono ?_
            rintro e W8 ⟨rfl, hb8⟩
            have HST8 := Lib.hid (HST6.out.grown hb8)
            clear hb8 HST6 HX6
            cases hm : mayI x.2
            · have hno : goodT l (k1 + 1) = false := by unfold goodT; rw [HX.out]; simp [hm]
              obtain rfl : rs = false := by rw [← HRS.out]; exact setT_no (by have := HN.out; omega) hno
              have HE := Lib.hid (HP.out _ HST8.out.bel)
              clear hno
              go_wp2_with fail
              first | exact HE.out | (go_ret; exact HE.out)
            · have hyes : goodT l (k1 + 1) = true := by
                unfold goodT
                rw [HX.out]
                have h1 := HXo.out
                have h2 := HNK.out
                have h3 := HY.out; have h4 := HYo.out; simp [hm, h1, h2, h3, h4]; omega
              have HGN : Hid (∀ i, i < k1 + 1 + 1 → goodT l i = true) := Lib.hid (fun i hi => by
                by_cases e : i = (k1 + 1)
                · rw [e]; exact hyes
                · exact HG.out i (by omega))
              clear hyes
              go_wp2_with fail
              go_roundw
              case rel => exact ⟨k1 + 1 + 1, by omega, by go_num, HGN.out, HST8.out⟩
              case measure => simp [intOf]; omega
          · have hle2 : xo ≤ yo := by simpa using hle
            have hno : goodT l (k1 + 1) = false := by
              unfold goodT
              rw [HX.out]
              have h1 := HXo.out
              have h2 := HYo.out
              have h3 := HY.out
              simp [h3, h1, h2]
              omega
            obtain rfl : rs = false := by rw [← HRS.out]; exact setT_no (by have := HN.out; omega) hno
            have HE := Lib.hid (HP.out _ HST6.out.bel)
            clear hno
            go_wp2_with fail
            first | exact HE.out | (go_ret; exact HE.out)
    · obtain rfl : k = N := by omega
      obtain rfl : rs = true := by rw [← HRS.out]; exact setT_yes (fun i hi => HG.out i (by have := HN.out; omega))
      have HE := Lib.hid (HP.out _ HST.out.bel)
      clear hlt hk
      go_wp2_with fail
      first | exact HE.out | (go_ret; exact HE.out)
end Go.Proofs.YtjgjohdeeeoeoaaGreatDoor
