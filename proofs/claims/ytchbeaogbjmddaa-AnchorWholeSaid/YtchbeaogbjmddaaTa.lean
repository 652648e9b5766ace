/- Take: the anchor of bytes. -/
import Derived.Test.YtchbeaogbjmddaaPu
import Derived.Stop.BytesEq
namespace Go.Proofs.Ytchbeaogbjmddaa
open Go.RowKit

/-- While Take reads. -/
structure TkW (l : Bs) (w : World) (H g5 : Nat) (a : An) (rest : Bs) (wr : World) : Prop where
  box : Blk wr w.heap.size (l.map V8) 28
  res : Blk wr (w.heap.size + 1) (acells zeroA) 29
  rd : RdAt wr H (fun g => w.heap.size + 2 ≤ g ∧ g < H) rest 0
  an : Blk wr g5 (acells a) 29
  bel : Below w.heap.size w wr
  h1 : w.heap.size + 2 ≤ H
  h2 : H < g5
theorem results_two {fn : Func} {p u : Tmp} {ty : TypeId} (h : fn.results = #[.cell p ty, .tmp u]) (tmps : Array Value) (w : World) (g t : Nat) (cs : List Value) {fs : Array Field}
    (hp : tmps.getD p undef = .pointer (some ⟨g, 0, none⟩)) (hg : Blk w g cs t) (hu : Try.prog.underlying ty = some (.struct fs)) (hi : (Try.prog.info? ty).map (·.size) = some cs.length) :
    (results fn tmps).run Try.prog w = .ok (.tuple #[.agg cs.toArray, tmps.getD u undef]) w := by
  rw [results_cell_tmp h, hp]
  simp only [asAddr, Sem.run_pure, Result.andThen_ok, run_loadVar_row w g t ty cs.toArray (0, 0) _ hg hu rfl (by simpa using hi)]
section
variable {ops : Array Oper} {Q : Exit → Act → World → Prop} {S : World → Prop}
/-- Bytes are copied into a block. -/
theorem wpG_copyO {i : Nat} {r : Tr} {a : Act} {w : World} (o : Oper) (hi : ops.toList[i]? = some o) (hw : Region.wanted o (yielded ops a.tmps) = true) (d s : Operand)
    (ho : o.op = .call { callee := .builtin .copy, args := #[d, s], argTypes := #[55, 55] }) {g off dl dc cap : Nat} {sp : Option Addr} {m : Bs} (hd : a.eval d = .slice (some ⟨g, off, none⟩) dl dc) (hs : a.eval s = .slice sp m.length cap) (hm : m.length ≤ dl) (h0 : 0 < m.length) (hsrc : SrcA w sp m)
    {cur : List Value} {t : TypeId} (hg : Blk w g cur t) (hfit : off + m.length ≤ cur.length)
    (h : S (w.setRow g (splice cur off (m.map V8)).toArray) ∧ wpG Try.prog ops Q r S (a.put o.dst (goInt m.length)) (w.setRow g (splice cur off (m.map V8)).toArray)) : wpG Try.prog ops Q (.step i r) S a w := by
  refine wpG_bare o hi hw fun K hK => ?_
  obtain ⟨g2, o2, rfl, hg2, hcl⟩ := hsrc h0
  refine wpList_copy_own rfl d s 55 55 ho 5 Try.underlying55 sizeB g off dl dc ⟨g2, o2, none⟩ m.length cap hd hs cur.toArray t hg (m.map V8) (by rw [List.length_map]; show m.length = min m.length dl; omega) (fun j v hv => src_cell hcl j v hv) (by simpa using hfit) (one_v8 _) ?_
  have e : (cur.toArray.toList.take off ++ (m.map V8 ++ cur.toArray.toList.drop (off + (m.map V8).length))) = splice cur off (m.map V8) := by simp [splice]
  rw [e]
  exact wpG_list_nil (hK _ _ S (fun _ h => h) h.1 (by rw [List.length_map]; exact h.2))
end
theorem butFor_row {g : Nat} {w : World} (cs : Array Value) : ButFor g w (w.setRow g cs) := ⟨rfl, rfl, rfl, by simp, fun k _ hn => setRow_other w g k cs hn⟩
theorem next_ok0 {l : Bs} {n : Nat} (h0 : 0 < n) (h : n ≤ l.length) : nextRes l 0 (n : Int) = (l.take n, l.drop n, 0) := by
  unfold nextRes
  rw [if_neg (by omega), if_neg (by omega), Int.toNat_natCast]
theorem TkW.read {l : Bs} {w wr w' : World} {H g5 : Nat} {a : An} {rest rest' : Bs} (h : TkW l w H g5 a rest wr) (hr : RdAt w' H (fun g => w.heap.size + 2 ≤ g ∧ g < H) rest' 0) (hb : ButFor H wr w') : TkW l w H g5 a rest' w' :=
  have h1 := h.h1
  have h2 := h.h2
  ⟨hb.blk h.box (by omega), hb.blk h.res (by omega), hr, hb.blk h.an (by omega), h.bel.trans (hb.below (by omega) h.bel.size), h1, h2⟩
theorem TkW.store {l : Bs} {w wr w' : World} {H g5 : Nat} {a a' : An} {rest : Bs} (h : TkW l w H g5 a rest wr) (hr : Blk w' g5 (acells a') 29) (hb : ButFor g5 wr w') : TkW l w H g5 a' rest w' :=
  have h1 := h.h1
  have h2 := h.h2
  ⟨hb.blk h.box (by omega), hb.blk h.res (by omega), h.rd.other hb (by omega) (fun hk => by omega), hr, h.bel.trans (hb.below (by omega) h.bel.size), h1, h2⟩
theorem TkW.start {l : Bs} {w w3 : World} {H : Nat} {rest : Bs} (hbox : Blk w3 w.heap.size (l.map V8) 28) (hres : Blk w3 (w.heap.size + 1) (acells zeroA) 29) (hrd : RdAt w3 H (fun g => w.heap.size + 2 ≤ g ∧ g < H) rest 0) (hbel : Below w.heap.size w w3) (h1 : w.heap.size + 2 ≤ H) (z : Array Value) (a : An) :
    TkW l w H w3.heap.size a rest ((w3.alloc (.cells z 29)).setRow w3.heap.size (acells a).toArray) := by
  have hz : Below w3.heap.size w3 ((w3.alloc (.cells z 29)).setRow w3.heap.size (acells a).toArray) := below_row ((Below.refl _ _).alloc (Nat.le_refl _) _) (Nat.le_refl _) _
  have hb := hbox.lt
  have hr := hres.lt
  have hH := hrd.lt
  exact ⟨hbox.below hz hb, hres.below hz hr, hrd.below hz (Nat.le_refl _), Blk.row (Blk.new' w3 z z.toList 29 _ rfl (by simp)) _, hbel.trans (hz.mono (by omega)), h1, hH⟩
theorem splice_hash (n : Nat) (z h : Bs) (t : List Nat) (hz : z.length = 32) (hh : h.length = 32) : splice (acells ⟨n, z, t⟩) 1 (h.map V8) = acells ⟨n, h, t⟩ := by
  have e : acells ⟨n, z, t⟩ = [Value.int .u64 (n : Int)] ++ (z.map V8 ++ t.map U16) := rfl
  unfold splice
  rw [e, List.take_left' (by rfl)]
  rw [show 1 + (h.map V8).length = 1 + 32 by simp [hh], ← List.drop_drop, List.drop_left' (by rfl), List.drop_left' (by simp [hz])]
  rfl
/-- So many addresses read. -/
def part (n : Nat) (h : Bs) (l : List Nat) (k : Nat) : An := ⟨n, h, l.take k ++ List.replicate (4 - k) 0⟩
theorem part_set (n : Nat) (h : Bs) (l : List Nat) (k x : Nat) (hh : h.length = 32) (hk : k < 4) (hx : l[k]? = some x) : (acells (part n h l k)).set (33 + k) (U16 x) = acells (part n h l (k + 1)) := by
  have e : ∀ t, acells ⟨n, h, t⟩ = (Value.int .u64 (n : Int) :: h.map V8) ++ t.map U16 := fun t => by simp [acells]
  unfold part
  rw [e, e, List.set_append_right _ _ (by simp [hh]), show 33 + k - (Value.int .u64 (n : Int) :: h.map V8).length = k by simp [hh]]
  congr 1
  have hlk := (List.getElem?_eq_some_iff.1 hx).1
  rw [val_take_one hx, List.map_append, List.map_append, List.map_append, List.map_replicate, List.map_replicate]
  exact set_next' (l.take k |>.map U16) (4 - k) (4 - (k + 1)) (U16 0) (U16 x) k (by simp; omega) (by omega)
theorem sizeOf5 (W : World) : (sizeOf 5).run Try.prog W = .ok 1 W := sizeOfB W
theorem map_ofBitVec_inj : ∀ x y : Bs, x.map UInt8.ofBitVec = y.map UInt8.ofBitVec → x = y
  | [], [], _ => rfl
  | [], _ :: _, h => by simp at h
  | _ :: _, [], h => by simp at h
  | u :: x, v :: y, h => by
    simp only [List.map_cons, List.cons.injEq] at h
    have h1 : u = v := by have := congrArg UInt8.toBitVec h.1; simpa using this
    rw [h1, map_ofBitVec_inj x y h.2]
theorem run_eq28 (a b : Bs) (ha : a.length = 64) (hb : b.length = 64) (W : World) :
    (Op.equalIn 10000 28 (.agg (a.map V8).toArray) (.agg (b.map V8).toArray)).run Try.prog W = .ok (decide (a = b)) W := by
  have h := run_equalIn_bytes (P := Try.prog) W 9998 28 5 64 Try.underlying28 Try.underlying5 sizeOf5 (a.map UInt8.ofBitVec) (b.map UInt8.ofBitVec) (by simpa using ha) (by simpa using hb)
  have e : ∀ l : Bs, (l.map UInt8.ofBitVec).map Extern.Stop.cell = l.map V8 := fun l => by
    rw [List.map_map]; rfl
  rw [e, e] at h
  rw [h]
  congr 1
  by_cases hab : a = b
  · subst hab; simp
  · rw [decide_eq_false hab]
    rw [beq_eq_false_iff_ne]
    exact fun e => hab (map_ofBitVec_inj a b e)
theorem ex_ne28 {ρ : Operand → Value} {o : Oper} {x y : Operand} {a b : Bs} {w : World} (ho : o.op = .binOp .neq 28 x y 28) (hx : ρ x = .agg (a.map V8).toArray) (hy : ρ y = .agg (b.map V8).toArray) (ha : a.length = 64) (hb : b.length = 64) : (execOp ρ o).run Try.prog w = .ok (.value (.bool (!decide (a = b)))) w := by
  have hq := run_eq28 a b ha hb w
  unfold execOp
  simp only [ho]
  go_simp
def TaRel (l : Bs) (w : World) (H g5 gn : Nat) (h : Bs) (t : List Nat) (i : Value) (wr : World) : Prop :=
  ∃ k : Nat, k ≤ 4 ∧ i = .int .i64 (k : Int) ∧ TkW l w H g5 (part gn h t k) (l.drop (40 + 2 * k)) wr
theorem ats_at (l : Bs) (k : Nat) (hk : k < 4) : (tk l).ats[k]? = some (val ((l.drop (40 + 2 * k)).take 2)) := by
  match k, hk with
  | 0, _ | 1, _ | 2, _ | 3, _ => rfl
def TaW (l : Bs) (w W1 : World) : Prop := Below w.heap.size w W1 ∧ Blk W1 w.heap.size (l.map V8) 28 ∧ Blk W1 (w.heap.size + 1) (acells zeroA) 29 ∧ W1.heap.size = w.heap.size + 2
theorem taw_start (l : Bs) (w : World) (z : Array Value) (hz : z = (acells zeroA).toArray) : TaW l w ((w.alloc (.cells (l.map V8).toArray 28)).alloc (.cells z 29)) := by
  subst hz
  exact ⟨((Below.refl _ _).alloc (Nat.le_refl _) _).alloc (by simp) _, (Blk.new _ _ _).alloc _, Blk.new' _ _ _ _ _ (by simp) rfl, by simp⟩
theorem size29z : (Try.prog.info? 29).map (·.size) = some (acells zeroA).toArray.size := by rw [size29]; rfl
theorem one29 (a : An) : (acells a).toArray.all (·.oneCell') = true := by
  rw [Array.all_eq_true_iff_forall_mem]
  intro v hv
  simp only [acells, List.mem_toArray, List.mem_cons, List.mem_append, List.mem_map] at hv
  rcases hv with rfl | ⟨x, _, rfl⟩ | ⟨x, _, rfl⟩ <;> rfl
def gen1 (n : Nat) : An := ⟨n, List.replicate 32 0#8, [0, 0, 0, 0]⟩
set_option maxRecDepth 100000 in
set_option maxHeartbeats 4000000 in
theorem take_any (l : Bs) (hl : l.length = 64) (w : World) : Calls Try.prog 6 #[.agg (l.map V8).toArray] w fun e w' => e = .returned (.tuple #[.agg (acells (tkA l)).toArray, .int .i64 (tkE l)]) ∧ Below w.heap.size w w' := by
  have HL := Lib.hid hl
  have hm : (l.map V8).toArray.size = 64 := by simp [hl]
  clear hl
  go_enter Try.func6, Try.ntmps6
  go_wp2_with fail
  refine (fun (k : ∀ W1, TaW l w W1 → Calls Try.prog 19 #[.slice (some ⟨w.heap.size, 0, none⟩) 64 64] W1 _) => k _ (taw_start l w _ rfl)) ?_
  intro W1 hF
  have HF := Lib.hid hF
  have hs1 := hF.2.2.2
  have hc := new_any l (some ⟨w.heap.size, 0, none⟩) 64 W1 (by rw [HL.out]; omega) (fun h => by cases h) (by rw [HL.out]; exact Nat.le_refl _) (by
    intro h0
    refine ⟨w.heap.size, 0, rfl, hF.2.1.lt, fun j hj => ?_⟩
    rw [Nat.zero_add]
    exact hF.2.1.cell (get_map V8 l j hj 0))
  rw [HL.out] at hc
  refine hc.mono ?_
  clear hF hc
  rintro e w2 ⟨H, rfl, hrd, hH, hb2⟩
  rw [hs1] at hrd hH
  have HRD := Lib.hid hrd
  have HB2 := Lib.hid hb2
  have hHl := hrd.lt
  clear hrd hb2
  go_wp2_with fail
  refine (ru64_any H l 0 w2 HRD.out).mono ?_
  intro e w3 hh
  unfold TakePost at hh
  rw [show nextRes l 0 8 = (l.take 8, l.drop 8, 0) from next_ok0 (n := 8) (by omega) (by rw [HL.out]; omega)] at hh
  obtain ⟨rfl, hrd3, hbf3⟩ := hh
  simp only at hrd3
  have hval : val (l.take 8) < 18446744073709551616 := (tk_ok HL.out).gen
  obtain ⟨gn, hgn⟩ : ∃ gn, val (l.take 8) = gn := ⟨_, rfl⟩
  rw [hgn] at hval
  simp only [hgn]
  have HGN := Lib.hid hgn
  have HRD3 := Lib.hid hrd3
  have HBF3 := Lib.hid hbf3
  clear hrd3 hbf3 hgn
  have HONE := Lib.hid (one29 (gen1 gn))
  have HSZ : Hid ((Try.prog.info? 29).map (·.size) = some (acells (gen1 gn)).toArray.size) := Lib.hid (by rw [size29]; rfl)
  go_wp2_with (first | (refine wpList_store_row rfl 29 (.tmp 5) (.tmp 11) rfl w3.heap.size (acells (gen1 gn)).toArray rfl rfl 29 _ (heap_alloc_new w3 _) HSZ.out (by rfl) HONE.out ?_) | fail)
  refine (fun (k : ∀ W, TkW l w H w3.heap.size (gen1 gn) (l.drop 8) W → Code.wp _ _ _ _ W) => k _ (TkW.start (HBF3.out.blk (HF.out.2.1.below HB2.out HF.out.2.1.lt) (by omega)) (HBF3.out.blk (HF.out.2.2.1.below HB2.out HF.out.2.2.1.lt) (by omega)) HRD3.out (HF.out.1.trans ((HB2.out.mono HF.out.1.size).trans (HBF3.out.below (by omega) (Nat.le_trans HF.out.1.size HB2.out.size)))) hH _ _)) ?_
  intro W4 hT4
  have HT4 := Lib.hid hT4
  obtain ⟨g5, hg5⟩ : ∃ g, w3.heap.size = g := ⟨_, rfl⟩
  rw [hg5] at HT4 ⊢
  obtain ⟨hs, hhs⟩ : ∃ h, (l.drop 8).take 32 = h := ⟨_, rfl⟩
  have HHS := Lib.hid hhs
  have hhl : hs.length = 32 := by rw [← hhs]; simp [HL.out]
  clear hT4 hg5 HF HB2 HBF3 HRD3 HRD HONE HSZ hs1 hHl hhs
  refine wp_region_sched (.take 0 (.take 1 (.take 2 (.step 3 (.step 4 (.nil)))))) (by kernel_rfl) (by kernel_rfl) (fun d _ _ _ _ h => by cases d <;> exact h) (fun _ => True) trivial ?_
  refine wpG_take _ (.pointer (some ⟨g5, 1, none⟩)) rfl (by rfl) (fun X hX => ex_fa29 1 1 (by omega) rfl rfl) ?_
  (try simp only [Act.put, List.setIfInBounds_toArray, List.set_cons_zero, List.set_cons_succ])
  refine wpG_take _ (.slice (some ⟨g5, 1, none⟩) 32 32) rfl (by rfl) (fun X hX => ex_sl23 rfl rfl) ?_
  (try simp only [Act.put, List.setIfInBounds_toArray, List.set_cons_zero, List.set_cons_succ])
  refine wpG_take _ (.pointer (some ⟨H, 0, none⟩)) rfl (by rfl) (fun X hX => by first | rfl | go_simp) ?_
  (try simp only [Act.put, List.setIfInBounds_toArray, List.set_cons_zero, List.set_cons_succ])
  refine wpG_call _ rfl (by rfl) 21 #[.pointer (some ⟨H, 0, none⟩), .int .i64 32] (fun _ => by go_simp) (fun u w' => RawPost H (fun g => w.heap.size + 2 ≤ g ∧ g < H) (l.drop 8) 0 32 W4.drew (.returned u) w') ((raw_any H (l.drop 8) 0 32 W4.drew (by simp [HL.out]) (HT4.out.rd.below (Below.refl _ _).drew (Nat.le_refl _))).mono fun e w' hh => by obtain ⟨v, rfl, h2⟩ := hh; exact ⟨v, rfl, trivial, v, rfl, h2⟩) ?_
  rintro u w5 - hraw
  unfold RawPost at hraw
  rw [show nextRes (l.drop 8) 0 32 = ((l.drop 8).take 32, (l.drop 8).drop 32, 0) from next_ok0 (n := 32) (by omega) (by simp [HL.out])] at hraw
  obtain ⟨v, e, ho5, hrd5, hbf5⟩ := hraw
  cases e
  simp only at ho5 hrd5
  rw [HHS.out] at ho5
  rw [List.drop_drop] at hrd5
  obtain ⟨sp5, cp5, e5, q1, q2, q3, -⟩ := OwnB.form ho5
  rw [hhl] at e5
  subst e5
  have hbf45 : ButFor H W4 w5 := (ButFor.refl _ _).drew.trans hbf5
  have hT5 := HT4.out.read hrd5 hbf45
  refine ⟨_, fun _ h => h, trivial, ?_⟩
  (try simp only [Act.put, List.setIfInBounds_toArray, List.set_cons_zero, List.set_cons_succ])
  have hsp := splice_hash gn (List.replicate 32 0#8) hs [0, 0, 0, 0] (by simp) hhl
  refine wpG_copyO _ rfl (by rfl) (.tmp 13) (.tmp 15) rfl (m := hs) (sp := sp5) (cap := cp5) rfl (by rw [hhl]; rfl) (by omega) (by omega) q3 hT5.an (by rw [acells_length (a := gen1 gn) ⟨hval, by simp [gen1], by simp [gen1], by simp [gen1]⟩]; omega) ⟨trivial, ?_⟩
  (try simp only [Act.put, List.setIfInBounds_toArray, List.set_cons_zero, List.set_cons_succ])
  rw [show gen1 gn = ⟨gn, List.replicate 32 0#8, [0, 0, 0, 0]⟩ from rfl] at hT5 ⊢
  rw [hsp]
  have hT6 : TkW l w H g5 ⟨gn, hs, [0, 0, 0, 0]⟩ (l.drop 40) (w5.setRow g5 (acells ⟨gn, hs, [0, 0, 0, 0]⟩).toArray) := hT5.store (hT5.an.row _) (butFor_row _)
  generalize (w5.setRow g5 (acells ⟨gn, hs, [0, 0, 0, 0]⟩).toArray) = w6 at hT6 ⊢
  refine wpG_nil ?_
  have HR := Lib.hid (show TaRel l w H g5 gn hs (tk l).ats (.int .i64 0) w6 from ⟨0, by omega, rfl, hT6⟩)
  clear hT6 hT5 hsp hbf45 hrd5 hbf5 ho5 q1 q2 q3 HT4
  go_wp2_with fail
  go_loopw [17] (fun i wr => TaRel l w H g5 gn hs (tk l).ats i wr) (fun i _ => 4 - (intOf i).toNat)
  case atStart => exact HR.out
  case round =>
    clear HR
    obtain ⟨k, hk, rfl, hT⟩ := hrel
    have HT := Lib.hid hT
    clear hT
    have wk1 := IntWalk.i64_in ((k : Int) + 1) (by omega)
    by_cases hlt : k < 4
    · have hx := ats_at l k hlt
      have hnx : nextRes (l.drop (40 + 2 * k)) 0 2 = ((l.drop (40 + 2 * k)).take 2, (l.drop (40 + 2 * k)).drop 2, 0) := next_ok0 (n := 2) (by omega) (by simp [HL.out]; omega)
      obtain ⟨x, hxx⟩ : ∃ x, val ((l.drop (40 + 2 * k)).take 2) = x := ⟨_, rfl⟩
      rw [hxx] at hx
      have HX := Lib.hid hx
      have HXX := Lib.hid hxx
      have HNX := Lib.hid hnx
      clear hx hxx hnx
      go_wp2_with fail
      refine (ru16_any H (l.drop (40 + 2 * k)) 0 wr HT.out.rd).mono ?_
      intro e w7 hh
      unfold TakePost at hh
      rw [HNX.out] at hh
      obtain ⟨rfl, hrd7, hbf7⟩ := hh
      simp only [HXX.out]
      simp only [List.drop_drop] at hrd7
      have HT7 := Lib.hid (HT.out.read hrd7 hbf7)
      have hpl : (acells (part gn hs (tk l).ats k)).length = 37 := by simp [acells, part, hhl, tk]; omega
      obtain ⟨y, hy⟩ := HT7.out.an.has (33 + k) (by rw [hpl]; omega)
      have fy := HT7.out.an.free (33 + k)
      clear hrd7 hbf7
      go_wp2_with fail
      have hT8 : TkW l w H g5 (part gn hs (tk l).ats (k + 1)) (l.drop (40 + 2 * (k + 1))) (w7.setCell ⟨g5, 33 + k, none⟩ (.int .u16 (x : Int))) := by
        have h8 := HT7.out.an.set (33 + k) (U16 x)
        rw [part_set gn hs (tk l).ats k x hhl hlt HX.out] at h8
        have h9 := HT7.out.store h8 ((ButFor.refl _ _).set _ _)
        rw [show 40 + 2 * (k + 1) = 40 + 2 * k + 2 by omega]
        exact h9
      have HT8 := Lib.hid hT8
      clear hT8
      go_roundw
      case rel => exact ⟨k + 1, by omega, by go_num, HT8.out⟩
      case measure => simp [intOf]; omega
    · obtain rfl : k = 4 := by omega
      have e4 : part gn hs (tk l).ats 4 = tk l := by
        unfold part tk
        rw [HGN.out, HHS.out]
        rfl
      have hT9 : TkW l w H g5 (tk l) (l.drop 48) wr := by
        have := HT.out
        rw [e4] at this
        exact this
      have HT9 := Lib.hid hT9
      have HOK := Lib.hid (tk_ok HL.out)
      have HAN : Hid (Blk wr g5 (acells (tk l)) 29) := Lib.hid hT9.an
      have HBX : Hid (Blk wr w.heap.size (l.map V8) 28) := Lib.hid hT9.box
      clear hlt hk e4 hT9 HT
      go_wp2_with fail
      refine wp_region_sched (.take 0 (.take 2 (.step 1 (.take 3 (.nil))))) (by kernel_rfl) (by kernel_rfl) (fun d _ _ _ _ h => by cases d <;> exact h) (fun X => Blk X g5 (acells (tk l)) 29 ∧ Blk X w.heap.size (l.map V8) 28) ⟨HAN.out, HBX.out⟩ ?_
      refine wpG_take _ (.agg (acells (tk l)).toArray) rfl (by rfl) (fun X hX => ex_ld rfl rfl (rng_all hX.1) Try.underlying29 rfl (by rw [size29, acells_length HOK.out])) ?_
      (try simp only [Act.put, List.setIfInBounds_toArray, List.set_cons_zero, List.set_cons_succ])
      refine wpG_take _ (.agg (l.map V8).toArray) rfl (by rfl) (fun X hX => ex_ld rfl rfl (rng_all hX.2) Try.underlying28 rfl (by rw [size28]; simp [HL.out])) ?_
      (try simp only [Act.put, List.setIfInBounds_toArray, List.set_cons_zero, List.set_cons_succ])
      refine wpG_call _ rfl (by rfl) 8 #[.agg (acells (tk l)).toArray] (fun _ => by go_simp) (fun u w' => u = .agg ((pad (tk l)).map V8).toArray ∧ Below wr.heap.size wr w') ((put_any (tk l) HOK.out wr.drew).mono fun e w' ⟨e1, e2⟩ => ⟨_, e1, ⟨HAN.out.drew.below e2 HAN.out.lt, HBX.out.drew.below e2 HBX.out.lt⟩, rfl, (Below.refl _ _).drew.trans e2⟩) ?_
      rintro u w10 hs10 ⟨rfl, hb10⟩
      refine ⟨_, fun _ h => h, hs10, ?_⟩
      (try simp only [Act.put, List.setIfInBounds_toArray, List.set_cons_zero, List.set_cons_succ])
      refine wpG_take _ (.bool (!decide (pad (tk l) = l))) rfl (by rfl) (fun X hX => ex_ne28 rfl rfl rfl (pad_length HOK.out) HL.out) ?_
      (try simp only [Act.put, List.setIfInBounds_toArray, List.set_cons_zero, List.set_cons_succ])
      refine wpG_nil ?_
      have HA10 := Lib.hid hs10.1
      have HR10 := Lib.hid (HT9.out.res.below hb10 HT9.out.res.lt)
      have HB10 := Lib.hid (HT9.out.bel.trans (hb10.mono HT9.out.bel.size))
      have HSZ : Hid ((Try.prog.info? 29).map (·.size) = some (acells (tk l)).toArray.size) := Lib.hid (by rw [size29]; simp [acells_length HOK.out])
      have HLZ : Hid ((acells zeroA).length = 37) := Lib.hid rfl
      have HLT : Hid ((acells (tk l)).length = 37) := Lib.hid (acells_length HOK.out)
      clear hs10 hb10 HAN HBX HT9
      by_cases hq : quiet l = true
      · have hpl : pad (tk l) = l := (pad_tk HL.out).2 hq
        have hd : decide (pad (tk l) = l) = true := decide_eq_true hpl
        rw [hd]
        have hE : tkE l = 0 := by unfold tkE; rw [if_pos hq]
        have hA : tkA l = tk l := by unfold tkA; rw [if_pos hq]
        have HE := Lib.hid hE
        have HAq := Lib.hid hA
        clear hd hpl hq hE hA
        go_wp2_with (first | (refine wpL_val rfl (ex_ld (ty := 29) (cs := acells (tk l)) rfl rfl (rng_all HA10.out) Try.underlying29 rfl (by rw [size29, HLT.out])) ?_) | (refine wpList_store_row rfl 29 (.tmp 2) (.tmp 31) rfl (w.heap.size + 1) (acells (tk l)).toArray rfl rfl 29 _ HR10.out HSZ.out (by simp [HLZ.out, HLT.out]) (one29 _) ?_) | fail)
        refine bodyPost_ret (results_two Try.results6 _ _ (w.heap.size + 1) 29 (acells (tk l)) rfl (HR10.out.row _) Try.underlying29 (by rw [size29, HLT.out])) rfl ⟨?_, below_row HB10.out (by omega) _⟩
        rw [HE.out, HAq.out]
        rfl
      · have hpl : ¬ pad (tk l) = l := fun h => hq ((pad_tk HL.out).1 h)
        have hd : decide (pad (tk l) = l) = false := decide_eq_false hpl
        rw [hd]
        have hE : tkE l = 5 := by unfold tkE; rw [if_neg hq]
        have hA : tkA l = zeroA := by unfold tkA; rw [if_neg hq]
        have HE := Lib.hid hE
        have HAq := Lib.hid hA
        clear hd hpl hq hE hA
        go_wp2_with (first | (refine wpList_store_row rfl 29 (.tmp 2) (.tmp 30) rfl (w.heap.size + 1) (acells zeroA).toArray rfl rfl 29 _ HR10.out size29z rfl (one29 _) ?_) | fail)
        refine bodyPost_ret (results_two Try.results6 _ _ (w.heap.size + 1) 29 (acells zeroA) rfl (HR10.out.row _) Try.underlying29 (by rw [size29, HLZ.out])) rfl ⟨?_, below_row HB10.out (by omega) _⟩
        rw [HE.out, HAq.out]
        rfl
end Go.Proofs.Ytchbeaogbjmddaa
