/- Inodes: the document's Bytes, Block. -/
import Derived.Test.YtecngehkdjmjmaaDoorM13
import Derived.Test.YtecngehkdjmjmaaDoorM07
import Derived.Test.YtecngehkdjmjmaaDoorM08
namespace Go.Proofs.YtecngehkdjmjmaaDoor
open Go.RowKit

/-- While the document's Bytes goes. -/
def QiRel (n : Ino) (w : World) (v : Value) (l : Bs) (wr : World) : Prop := OwnB wr (w.heap.size + 1) v l ∧ Below w.heap.size w wr ∧ Blk wr w.heap.size (icells n) 30
theorem QiRel.next {n : Ino} {w wr w' : World} {v v' : Value} {l l' : Bs} (h : QiRel n w v l wr) (ho : OwnB w' (w.heap.size + 1) v' l') (hb : Below (w.heap.size + 1) wr w') : QiRel n w v' l' w' :=
  have h1 := h.2.2.lt
  ⟨ho, h.2.1.trans (hb.mono (by omega)), h.2.2.below hb (by omega)⟩
theorem QiRel.app {n : Ino} {w wr w4 : World} {v u : Value} {l m : Bs} {k : Nat} (h : QiRel n w v l wr) (hl : l.length ≤ 100) (hm : m.length = k) (hk : k ≤ 100) (ho4 : OwnB w4 wr.heap.size u m) (hb4 : Below wr.heap.size wr w4) :
    ∃ sp n' c v5 w5, (∃ sp4 cap4, u = .slice sp4 k cap4) ∧ v5 = .slice sp n' c ∧ (∀ ty, (Builtin.append_ #[38, 38] ty #[v, u]).run Tryd.prog w4 = .ok v5 w5) ∧ QiRel n w v5 (l ++ m) w5 := by
  obtain ⟨sp4, cap4, e4, q1, q2, q3, q4, q5⟩ := OwnB.form ho4
  subst hm e4
  have h1 := h.2.2.lt
  obtain ⟨v5, w5, hr5, ho5, hb5⟩ := ownB_src (m := m) (h.1.below hb4 (Nat.le_refl _)) (by have := hb4.size; omega) (by omega) q3 q4 38
  obtain ⟨sp, c, e, _⟩ := OwnB.form ho5
  exact ⟨sp, _, c, v5, w5, ⟨_, _, rfl⟩, e, fun _ => hr5, h.next ho5 ((hb4.mono (by omega)).trans hb5)⟩
theorem qi_start {n : Ino} (h : n.OK) (w : World) : QiRel n w (.slice (some ⟨w.heap.size + 1, 0, none⟩) 2 2) (leb n.kind 1 ++ [0#8]) ((w.alloc (.cells (icells n).toArray 30)).alloc (.cells #[.int .u8 (n.kind : Int), .int .u8 0] 5)) := by
  have h : Blk ((w.alloc (.cells (icells n).toArray 30)).alloc (.cells #[.int .u8 (n.kind : Int), .int .u8 0] 5)) (w.heap.size + 1) [V8 (lb n.kind 0), V8 0#8] 5 := Blk.new' _ _ _ _ _ (by simp) (by rw [u8_cell h.kind]; rfl)
  have ho := h.owns (base := w.heap.size + 1) (n := 2) (Nat.le_refl _) (Nat.le_refl _) (by unfold maxLen; simp)
  exact ⟨ho, ((Below.refl _ _).alloc (Nat.le_refl _) _).alloc (by simp) _, (Blk.new _ _ _).alloc _⟩
set_option maxRecDepth 100000 in
set_option maxHeartbeats 8000000 in
theorem ribytes_any (n : Ino) (h : n.OK) (w : World) : Calls Tryd.prog 21 #[.agg (icells n).toArray] w fun e w' => ∃ v, e = .returned v ∧ OwnB w' w.heap.size v (inoB n) ∧ Below w.heap.size w w' := by
  have HN := Lib.hid h
  have HG0 : Hid (Blk (w.alloc (.cells (icells n).toArray 30)) w.heap.size (icells n) 30) := Lib.hid (Blk.new _ _ _)
  have cK := HG0.out.cell (j := 0) rfl
  have b1 := h.links; have b2 := h.size
  have HB1 := Lib.hid b1; have HB2 := Lib.hid b2
  generalize hPost : (fun e w' => ∃ v, e = Ending.returned v ∧ OwnB w' w.heap.size v (inoB n) ∧ Below w.heap.size w w') = Post
  have HP : Hid (∀ v w', OwnB w' w.heap.size v (inoB n) → Below w.heap.size w w' → Post (.returned v) w') := Lib.hid fun v w' h1 h2 => by rw [← hPost]; exact ⟨v, rfl, h1, h2⟩
  clear h b1 b2 hPost
  go_enter Tryd.func21, Tryd.ntmps21
  go_upto_region 2 with fail
  refine (fun (k : ∀ W1, QiRel n w (.slice (some ⟨w.heap.size + 1, 0, none⟩) 2 2) (leb n.kind 1 ++ [0#8]) W1 → Code.wp _ _ _ _ W1) => k _ (qi_start HN.out w)) ?_
  intro W1 hR1
  have HR1 := Lib.hid hR1
  clear cK HG0 hR1
  have c1 : W1.cell? ⟨w.heap.size, 1, none⟩ = some (.int .u16 (n.links : Int)) := HR1.out.2.2.cell rfl
  have e1 := u64_in n.links (by have := HB1.out; omega)
  go_wp2_with fail
  refine (wNum_any n.links 2 W1 (by omega) (by have := HB1.out; omega)).mono ?_
  rintro e w2 ⟨u2, rfl, ho2, hb2⟩
  obtain ⟨sp2, n2, k2, v3, w3, ⟨_, _, rfl⟩, rfl, hr3, hq3⟩ := HR1.out.app (by simp [leb_length]) (leb_length _ _) (by omega) ho2 hb2
  have HA2 := Lib.hid hr3; have HR2 := Lib.hid hq3
  clear ho2 hb2 hr3 hq3 HR1 c1 e1
  have c2 : w3.cell? ⟨w.heap.size, 2, none⟩ = some (.int .u32 (n.size : Int)) := HR2.out.2.2.cell rfl
  have e2 := u64_in n.size (by have := HB2.out; omega)
  go_wp2_with (first | (at_builtin; refine wpL_val rfl (ex_appB rfl rfl rfl (HA2.out _)) ?_) | fail)
  refine (wNum_any n.size 4 w3 (by omega) (by have := HB2.out; omega)).mono ?_
  rintro e w4 ⟨u4, rfl, ho4, hb4⟩
  obtain ⟨sp4, n4, k4, v5, w5, ⟨_, _, rfl⟩, rfl, hr5, hq5⟩ := HR2.out.app (by simp [leb_length]) (leb_length _ _) (by omega) ho4 hb4
  have HA3 := Lib.hid hr5; have HR3 := Lib.hid hq5
  clear ho4 hb4 hr5 hq5 HR2 HA2 c2 e2
  go_wp2_with (first | (at_builtin; refine wpL_val rfl (ex_appB rfl rfl rfl (HA3.out _)) ?_) | (refine wpL_valG (by rfl) (ex_ldRtR HN.out HR3.out.2.2 rfl rfl) ?_) | fail)
  refine (qbytes_any n.root HN.out.root w5).mono ?_
  rintro e w6 ⟨u6, rfl, ho6, hb6⟩
  obtain ⟨sp6, n6, k6, v7, w7, ⟨_, _, rfl⟩, rfl, hr7, hq7⟩ := HR3.out.app (by simp [leb_length]) (padB_length HN.out.root) (by omega) ho6 hb6
  have HA4 := Lib.hid hr7
  obtain ⟨l4, hl4⟩ : ∃ l, leb n.kind 1 ++ [0#8] ++ leb n.links 2 ++ leb n.size 4 ++ padB n.root = l := ⟨_, rfl⟩
  rw [hl4] at hq7
  have hn4 : l4.length = 72 := by rw [← hl4]; simp [leb_length, padB_length HN.out.root]
  have HR4 := Lib.hid hq7; have HL4 := Lib.hid hl4
  obtain ⟨sp8, cap8, e8, q1, q2, q3, q4, q5⟩ := OwnB.form hq7.1
  rw [hn4] at e8
  injection e8 with e9 e10 e11
  subst e9 e10 e11
  have HF := Lib.hid (wFillR_any l4 sp6 k6 128 w7 (by omega) (by omega) q1 q4 q3)
  rw [hn4, fill72 hn4 128 rfl] at HF
  clear ho6 hb6 hr7 hq7 hl4 hn4 q1 q2 q3 q4 q5 HR3 HA3
  go_wp2_with (first | (at_builtin; refine wpL_val rfl (ex_appB rfl rfl rfl (HA4.out _)) ?_) | fail)
  refine HF.out.mono ?_
  rintro e W5 ⟨v5, rfl, ho5, hb5⟩
  have HE := Lib.hid (HP.out v5 W5 (by
    rw [show inoB n = l4 ++ List.replicate 56 0#8 by rw [← HL4.out]; simp [inoB]]
    exact ho5.mono HR4.out.2.1.size) (HR4.out.2.1.trans (hb5.mono HR4.out.2.1.size)))
  clear ho5 hb5
  go_wp2_with fail
  first | exact HE.out | (go_ret; exact HE.out)
theorem ex_iaS {ρ : Operand → Value} {o : Oper} {x y : Operand} {g n cap k : Nat} {w : World} (hk : k < n ∧ n ≤ cap) (ho : o.op = .indexAddr 43 x y) (hx : ρ x = .slice (some ⟨g, 0, none⟩) n cap) (hy : ρ y = .int .i64 (k : Int)) : (execOp ρ o).run Tryd.prog w = .ok (.value (.pointer (some ⟨g, k * 44, none⟩))) w := by
  have h1 : ¬ n ≤ k := by omega
  unfold execOp
  simp only [ho]
  go_simp
end Go.Proofs.YtecngehkdjmjmaaDoor
/- Inodes: rows of one's own; pieces of bytes; numbers of bytes. -/
namespace Go.Proofs.YtecngehkdjmjmaaDoor
open Go.RowKit

theorem ex_slM {ρ : Operand → Value} {o : Oper} {x y z : Operand} {g f a b n cap : Nat} {w : World} (ho : o.op = .slice 38 x (some y) (some z) none) (hx : ρ x = .slice (some ⟨g, f, none⟩) n cap) (hy : ρ y = .int .i64 (a : Int)) (hz : ρ z = .int .i64 (b : Int)) (hab : a ≤ b) (hb : b ≤ cap) (ha : a < cap) :
    (execOp ρ o).run Tryd.prog w = .ok (.value (.slice (some ⟨g, f + a, none⟩) (b - a) (cap - a))) w := by
  have h1 : (a : Int) ≤ (b : Int) := by omega
  have h2 : (b : Int) ≤ (cap : Int) := by omega
  have h3 : ¬ cap - a = 0 := by omega
  have h4 : ¬ (cap : Int) < (b : Int) := by omega
  have h5 : ¬ (b : Int) < (a : Int) := by omega
  have h6 : ¬ cap ≤ a := by omega
  have h7 : ¬ cap = a := by omega
  unfold execOp
  simp only [ho]
  go_simp
theorem cell_at {w : World} {g f : Nat} {l : Bs} (h : ∀ j, j < l.length → w.cell? ⟨g, f + j, none⟩ = some (V8 (l.getD j 0))) {j : Nat} {x : BitVec 8} (hx : l[j]? = some x) : w.cell? ⟨g, f + j, none⟩ = some (V8 x) := by
  obtain ⟨hl, e⟩ := List.getElem?_eq_some_iff.1 hx
  rw [h j hl, List.getD_eq_getElem?_getD, hx]; rfl
theorem srcA_mid {w : World} {g f : Nat} {l : Bs} (hg : g < w.heap.size) (h : ∀ j, j < l.length → w.cell? ⟨g, f + j, none⟩ = some (V8 (l.getD j 0))) (a n : Nat) : SrcA w (some ⟨g, f + a, none⟩) ((l.drop a).take n) := fun _ => ⟨g, f + a, rfl, hg, fun j hj => by
  rw [List.length_take, List.length_drop] at hj
  rw [Nat.add_assoc, h (a + j) (by omega)]
  rw [List.getD_eq_getElem?_getD, List.getD_eq_getElem?_getD, List.getElem?_take, if_pos (by omega), List.getElem?_drop]⟩
/-- Inodes in a row of the call's own. -/
abbrev OwnI (w : World) (B : Nat) (v : Value) (l : List Ino) : Prop := w.ownsRow B 30 44 v l.length (bcells l)
theorem infoRi : (Tryd.prog.info? 30).map (fun i => (i.zero.map (·.cells.size), i.size, i.bytes)) = some (some 44, 44, 64) := by kernel_rfl
theorem info_partsRi : ∃ i z, Tryd.prog.info? 30 = some i ∧ i.zero = some z ∧ z.cells.size = 44 ∧ i.size = 44 ∧ i.bytes = 64 := by
  obtain ⟨i, h1, h2⟩ := Option.map_eq_some_iff.1 infoRi
  simp only [Prod.mk.injEq] at h2
  obtain ⟨z, hz, hz2⟩ := Option.map_eq_some_iff.1 h2.1
  exact ⟨i, z, h1, hz, hz2, h2.2.1, h2.2.2⟩
theorem one_icells (x : Ino) : ∀ u ∈ icells x, u.oneCell' = true := fun u hu => Array.all_eq_true_iff_forall_mem.1 (one_ic x) u (by simpa using hu)
theorem bcells_snoc (l : List Ino) (x : Ino) : bcells (l ++ [x]) = bcells l ++ icells x := by simp [bcells]
theorem ownI_app {w : World} {B : Nat} {v : Value} {l : List Ino} (h : OwnI w B v l) (hB : B ≤ w.heap.size) (hl : l.length < 1000000) {x : Ino} (hx : x.OK) {g : Nat} {t : TypeId} (hg : Blk w g (icells x) t) (ty : TypeId) :
    ∃ v' w', (Builtin.append_ #[43, 43] ty #[v, .slice (some ⟨g, 0, none⟩) 1 1]).run Tryd.prog w = .ok v' w' ∧ OwnI w' B v' (l ++ [x]) ∧ Below B w w' := by
  obtain ⟨i0, z, hi, hz0, hz1, hz2, hz3⟩ := info_partsRi
  obtain ⟨v', w', hr, h2, h3, _, h5⟩ := run_append_own_at (P := Tryd.prog) w B 43 ty 30 i0 z 44 64 Tryd.underlying43 hi hz0 hz2 hz3 hz1 (by decide) v l.length (bcells l) h ⟨g, 0, none⟩ 1 1 (icells x) (by rw [icells_length hx]) (fun j y hj => by
    rw [Addr.add_mid, Nat.zero_add]
    exact hg.cell hj) (one_icells x) (by unfold maxLen; omega) (by omega) hB
  refine ⟨v', w', hr, ?_, (Below.refl _ _).grown h3 hB (fun k hk => (h.lt k hk).1)⟩
  unfold OwnI
  rw [bcells_snoc, List.length_append]
  exact h2
theorem OwnI.keep {w W : World} {B : Nat} {v : Value} {l : List Ino} (h : OwnI w B v l) (hb : Below w.heap.size w W) : OwnI W B v l := by
  refine ⟨h.1, ?_⟩
  rcases h.2 with h2 | ⟨g, cap, cur, e, hB, hg, hc, hm, hs, ht⟩
  · exact .inl h2
  · exact .inr ⟨g, cap, cur, e, hB, by rw [hb.block g (Array.getElem?_eq_some_iff.1 hg).1]; exact hg, hc, hm, hs, ht⟩
theorem OwnI.form {w : World} {B : Nat} {v : Value} {l : List Ino} (h : OwnI w B v l) : ∃ sp n c, v = .slice sp n c := by
  rcases h.2 with ⟨rfl, _⟩ | ⟨g, cap, cur, rfl, _⟩
  · exact ⟨_, _, _, rfl⟩
  · exact ⟨_, _, _, rfl⟩
theorem OwnI.at {w : World} {B : Nat} {v : Value} {l : List Ino} (h : OwnI w B v l) (hl : 0 < l.length) (hok : ∀ q ∈ l, q.OK) : ∃ g cap, v = .slice (some ⟨g, 0, none⟩) l.length cap ∧ l.length ≤ cap ∧ g < w.heap.size ∧ B ≤ g ∧ ∀ i q, l[i]? = some q → w.rangeAt g (44 * i) (icells q) := by
  rcases h.2 with ⟨rfl, hn⟩ | ⟨g, cap, cur, rfl, hb, hg, hc, hm, hs, ht⟩
  · omega
  · have hlt : g < w.heap.size := (Array.getElem?_eq_some_iff.1 hg).1
    refine ⟨g, cap, rfl, hc, hlt, hb, fun i q hq j u hj => ?_⟩
    have hqo := hok q (List.mem_of_getElem? hq)
    have hj44 : j < 44 := by have := (List.getElem?_eq_some_iff.1 hj).1; rw [icells_length hqo] at this; exact this
    obtain ⟨e, hl2⟩ := bcells_split hok hq
    have h1 : (bcells l)[44 * i + j]? = some u := by
      rw [e, List.getElem?_append_right (by omega), hl2, show 44 * i + j - 44 * i = j by omega, List.getElem?_append_left (by rw [icells_length hqo]; exact hj44)]
      exact hj
    rw [← ht, List.getElem?_take] at h1
    rw [if_pos (by have := (List.getElem?_eq_some_iff.1 hq).1; omega)] at h1
    have hblk : Blk w g cur.toList 30 := by unfold Blk; simpa using hg
    exact hblk.cell h1
theorem ownI_none (w : World) (B : Nat) : OwnI w B (.slice none 0 0) [] := ⟨by simp [bcells], .inl ⟨rfl, rfl⟩⟩
theorem ex_oneR {ρ : Operand → Value} {o : Oper} {x : Operand} {w : World} {n : Ino} (hn : n.OK) (ho : o.op = .buildSlice 43 1 #[(0, x)]) (hx : ρ x = .agg (icells n).toArray) :
    (execOp ρ o).run Tryd.prog w = .ok (.value (.slice (some ⟨w.heap.size, 0, none⟩) 1 1)) (w.alloc (.cells (icells n).toArray 30)) := by
  obtain ⟨i, z, hi, hz, hzs, his, _⟩ := info_partsRi
  have hr := run_buildSlice (P := Tryd.prog) w 43 30 1 #[(0, .agg (icells n).toArray)] (icells n).toArray i z Tryd.underlying43 hi hz (by rw [his]; omega) (by rw [his]; omega)
    (fill_whole (size := 44) (by simp [his]) (by simp [Value.cells, icells_length hn]) (by simp [his]))
  unfold execOp
  simp only [ho]
  rw [show (Array.map (fun x : Nat × Operand => (x.1, ρ x.2)) #[(0, x)]) = #[(0, .agg (icells n).toArray)] by simp [hx]]
  simp only [Sem.run_bind, hr, Result.andThen_ok]
  rfl
theorem ex_appR {ρ : Operand → Value} {o : Oper} {x y : Operand} {v u v' : Value} {w w' : World} (ho : o.op = .call { callee := .builtin .append, args := #[x, y], argTypes := #[43, 43] }) (hx : ρ x = v) (hy : ρ y = u)
    (hr : (Builtin.append_ #[43, 43] o.type #[v, u]).run Tryd.prog w = .ok v' w') : (execOp ρ o).run Tryd.prog w = .ok (.value v') w' := by
  unfold execOp
  simp only [ho, resolve, invoke, builtin, Sem.run_bind, Sem.run_pure, Result.andThen_ok, List.map_toArray, List.map_cons, List.map_nil, hx, hy, hr]
/-- The numbers of an inode's bytes, read from above. -/
theorem val_from {l : Bs} {k m : Nat} {x : BitVec 8} (hx : l[k]? = some x) : val ((l.drop k).take (m + 1)) = x.toNat + 256 * val ((l.drop (k + 1)).take m) := by
  obtain ⟨hl, e⟩ := List.getElem?_eq_some_iff.1 hx
  rw [List.drop_eq_getElem_cons hl, List.take_succ_cons, e]
  simp only [val]
theorem builtR (parts : List (Nat × Value)) : Tryd.prog.built 30 parts = Instr.fill ((#[(0, 1), (1, 1), (2, 1), (3, 41)] : Array (Nat × Nat))[·]?) (icells zeroI).toArray parts := by kernel_rfl
theorem ex_bldR2 {ρ : Operand → Value} {o : Oper} {x y : Operand} {w : World} {a b : Nat} (ho : o.op = .build 30 #[(0, x), (1, y)]) (hx : ρ x = .int .u8 (a : Int)) (hy : ρ y = .int .u16 (b : Int)) : (execOp ρ o).run Tryd.prog w = .ok (.value (.agg (icells ⟨a, b, 0, zeroP⟩).toArray)) w := by
  have hz0 : (icells zeroI).toArray.size = 44 := by rw [List.size_toArray]; exact icells_length zeroI_ok
  have hzl : ∀ (a b c : Value), ([a, b, c] ++ pcells zeroP).toArray.size = 44 := fun a b c => by rw [List.size_toArray, List.length_append, pcells_length zeroP_ok]; rfl
  have hr : (Instr.build 30 #[(0, .int .u8 (a : Int)), (1, .int .u16 (b : Int))]).run Tryd.prog w = .ok (.agg (icells ⟨a, b, 0, zeroP⟩).toArray) w := run_build w 30 _ _ (by
    rw [builtR]
    show Instr.fill _ _ [(0, .int .u8 (a : Int)), (1, .int .u16 (b : Int))] = _
    rw [fill_oneL (i := 0) (off := 0) (size := 1) rfl rfl (by rw [hz0]; omega)]
    have e1 : splice (icells zeroI).toArray.toList 0 (Value.int .u8 (a : Int)).cells.toList = ([.int .u8 (a : Int), .int .u16 0, .int .u32 0] : List Value) ++ pcells zeroP := rfl
    rw [e1, fill_oneL (i := 1) (off := 1) (size := 1) rfl rfl (by rw [hzl]; omega)]
    have e2 : splice (([.int .u8 (a : Int), .int .u16 0, .int .u32 0] : List Value) ++ pcells zeroP).toArray.toList 1 (Value.int .u16 (b : Int)).cells.toList = icells ⟨a, b, 0, zeroP⟩ := rfl
    rw [e2]
    rfl)
  unfold execOp
  simp only [ho]
  rw [show (Array.map (fun x : Nat × Operand => (x.1, ρ x.2)) #[(0, x), (1, y)]) = #[(0, .int .u8 (a : Int)), (1, .int .u16 (b : Int))] by simp [hx, hy]]
  simp only [Sem.run_bind, hr, Result.andThen_ok, Sem.run_pure]
/-- Whether a piece is an inode's: as the document asks. -/
theorem fineI_ref {x : Bs} (hx : 128 ≤ x.length) {te : Nat} {p : Pt} (ht : takeE ((x.drop 8).take 64) 0 = te) (hp : takenP ((x.drop 8).take 64) 0 = p) {n : Ino} (hk : n.kind = (ino x).kind) (hl : n.links = (ino x).links) (hs : n.size = (ino x).size) (hr : n.root = p) :
    (te ≠ 0 → fineI x = false) ∧ (te = 0 → n = ino x ∧ (mayI n = false → fineI x = false) ∧ (mayI n = true → (inoB n = x.take 128 ↔ fineI x = true))) := by
  have h64 : ((x.drop 8).take 64).length = 64 := by rw [List.length_take, List.length_drop]; omega
  have e1 : takeE ((x.drop 8).take 64) 0 = if quietP ((x.drop 8).take 64) && (eqP (pt (x.drop 8)) zeroP || mayP (pt (x.drop 8))) then 0 else 5 := by
    unfold takeE
    rw [if_neg (by omega), if_neg (by omega), List.take_of_length_le (by omega), pt_take]
  constructor
  · intro h0
    rw [Bool.eq_false_iff]
    intro hf
    apply h0
    unfold fineI quietI at hf
    simp only [Bool.and_eq_true] at hf
    have h5 := mayI_root hf.2
    rw [← ht, e1, if_pos]
    rw [Bool.and_eq_true]
    exact ⟨hf.1.1.2, h5⟩
  · intro h0
    have hpp : p = pt (x.drop 8) := by rw [← hp]; unfold takenP; rw [if_pos (ht.trans h0), pt_take]
    have hn : n = ino x := by
      obtain ⟨a, b, c, d⟩ := n
      simp only at hk hl hs hr
      unfold ino at hk hl hs ⊢
      simp only at hk hl hs
      rw [hk, hl, hs, hr, hpp]
    refine ⟨hn, fun hm => ?_, fun hm => ?_⟩
    · unfold fineI; rw [← hn, hm]; simp
    · have hb := inoB_ino (l := x.take 128) (by rw [List.length_take]; omega)
      rw [ino_take, quietI_take, ← hn] at hb
      rw [hb]
      unfold fineI
      rw [← hn, hm, Bool.and_true]
end Go.Proofs.YtecngehkdjmjmaaDoor
