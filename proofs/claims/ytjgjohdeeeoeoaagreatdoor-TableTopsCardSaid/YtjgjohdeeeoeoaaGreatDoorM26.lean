/- The document's reading of a pointer, walked. -/
import Derived.Test.YtjgjohdeeeoeoaaGreatDoorM25
import Derived.Deep.DeepCutAuto
namespace Go.Proofs.YtjgjohdeeeoeoaaGreatDoor
open Go.RowKit
theorem pt_takeQ (l : Bs) : pt (l.take 64) = pt l := by
  have h : ∀ n m, n + m ≤ 64 → ((l.take 64).drop n).take m = (l.drop n).take m := fun n m hnm => by
    rw [List.drop_take, List.take_take, Nat.min_eq_left (by omega)]
  unfold pt
  rw [h 1 1 (by omega), h 2 2 (by omega), h 4 4 (by omega), h 8 8 (by omega), h 16 32 (by omega), h 48 2 (by omega), h 50 2 (by omega), h 52 2 (by omega), h 54 2 (by omega), List.take_take, Nat.min_eq_left (by omega)]
theorem qnum {rest : Bs} {spx : Option Addr} {capx m n m' : Nat} {ni : Int} {W : World} {K : Nat → Prop} (hr : RefIs W K spx rest capx) (hm : rest.length = m) (hn : n ≤ m) (hn8 : n ≤ 8) (hm' : m - n = m') (hni : ni = (n : Int)) :
    Calls Tryz.prog 32 #[.agg #[.slice spx m capx, .int .i64 0], .int .i64 ni] W fun x W' => ∃ sp cap, x = .returned (.tuple #[.int .u64 (val (rest.take n) : Int), .agg #[.slice sp m' cap, .int .i64 0]]) ∧ RefIs W' K sp (rest.drop n) cap ∧ Below W.heap.size W W' := by
  subst hm hm' hni
  exact (refNum_any rest spx capx 0 n W hn8 hr).mono fun x W' hh => num_ok hh hn
theorem ex_neS {ρ : Operand → Value} {o : Oper} {x y : Operand} {k : TypeId} {a b : Bs} {c : Bool} {w : World} (ho : o.op = .binOp .neq 9 x y k) (hx : ρ x = .string (bstr a)) (hy : ρ y = .string (bstr b)) (hc : (!decide (a = b)) = c) : (execOp ρ o).run Tryz.prog w = .ok (.value (.bool c)) w := by
  have h := ex_neq (w := w) ho hx hy
  subst hc
  exact h
theorem ex_nePb {ρ : Operand → Value} {o : Oper} {x y : Operand} {p : Pt} {b : Bool} {w : World} (hb : eqP p zeroP = b) (ho : o.op = .binOp .neq 28 x y 28) (hx : ρ x = .agg (pcells p).toArray) (hy : ρ y = .agg (pcells zeroP).toArray) (hp : p.OK) : (execOp ρ o).run Tryz.prog w = .ok (.value (.bool (!b))) w := by
  have h := ex_neP (w := w) ho hx hy hp zeroP_ok
  rw [hb] at h
  exact h
def hsK (b : Bs) (k : Nat) : Bs := (b.drop 16).take k ++ List.replicate (32 - k) 0#8
def atK (b : Bs) (k : Nat) : List Nat := (pt b).ats.take k ++ List.replicate (4 - k) 0
theorem hsK_len {b : Bs} (h : b.length = 64) {k : Nat} (hk : k ≤ 32) : (hsK b k).length = 32 := by simp [hsK, h]; omega
theorem atK_len (b : Bs) {k : Nat} (hk : k ≤ 4) : (atK b k).length = 4 := by simp [atK, pt]; omega
theorem hsK_step {b : Bs} (h : b.length = 64) {k : Nat} (hk : k < 32) {x : BitVec 8} (hx : b[16 + k]? = some x) : (hsK b k).set k x = hsK b (k + 1) := by
  unfold hsK
  have hx2 : (b.drop 16)[k]? = some x := by simpa using hx
  rw [take_oneB hx2]
  exact set_next' _ _ _ _ _ _ (by simp [h]; omega) (by omega)
theorem atK_step (b : Bs) {k : Nat} (hk : k < 4) : (atK b k).set k (val ((b.drop (48 + 2 * k)).take 2)) = atK b (k + 1) := by
  unfold atK
  rw [val_take_one (ats_at b k hk)]
  exact set_next' _ _ _ _ _ _ (by simp [pt]; omega) (by omega)
def QtRel1 (l : Bs) (w : World) (K : Nat → Prop) (spb : Option Addr) (capb : Nat) (spn : Option Addr) (capn : Nat) (g5 g6 g7 : Nat) (b : Bs) (q : Pt) (i : Value) (wr : World) : Prop :=
  ∃ k : Nat, k ≤ 32 ∧ i = .int .i64 (k : Int) ∧ QtW l w K spb capb spn capn g5 g6 g7 { q with hash := hsK b k } (b.drop (16 + k)) wr
def QtRel2 (l : Bs) (w : World) (K : Nat → Prop) (spb : Option Addr) (capb : Nat) (spn : Option Addr) (capn : Nat) (g5 g6 g7 : Nat) (b : Bs) (q : Pt) (i : Value) (wr : World) : Prop :=
  ∃ k : Nat, k ≤ 4 ∧ i = .int .i64 (k : Int) ∧ QtW l w K spb capb spn capn g5 g6 g7 { q with ats := atK b k } (b.drop (48 + 2 * k)) wr
def QtPost (l : Bs) (e : Nat) (K : Nat → Prop) (w : World) (x : Ending) (w' : World) : Prop :=
  ∃ sp' cap' rest, x = .returned (.tuple #[.agg (pcells (takenP l e)).toArray, .agg #[.slice sp' rest.length cap', .int .i64 (takeE l e : Int)]]) ∧ RefIs w' K sp' rest cap' ∧ (takeE l e = 0 → rest = l.drop 64) ∧ (e = 0 → takeE l e ≠ 0 → rest = []) ∧ Below w.heap.size w w'
def badP (l : Bs) : Bool := !(quietP (l.take 64) && (eqP (pt l) zeroP || mayP (pt l)))
theorem takeE_bad {l : Bs} (h : 64 ≤ l.length) : takeE l 0 = if badP l then 5 else 0 := by
  unfold takeE badP
  rw [if_neg (by omega), if_neg (by omega)]
  cases (quietP (l.take 64) && (eqP (pt l) zeroP || mayP (pt l))) <;> rfl
theorem one_ref (sp : Option Addr) (n cap : Nat) (e : Int) : (#[.slice sp n cap, .int .i64 e] : Array Value).all (·.oneCell') = true := by simp [Value.oneCell']
theorem w8 {n : Nat} (h : n < 256) : IntKind.u8.wrap (n : Int) = n := by simp only [IntKind.wrap_u8']; omega
theorem w16 {n : Nat} (h : n < 65536) : IntKind.u16.wrap (n : Int) = n := by simp only [IntKind.wrap_u16]; omega
theorem w32 {n : Nat} (h : n < 4294967296) : IntKind.u32.wrap (n : Int) = n := by simp only [IntKind.wrap_u32]; omega
set_option maxRecDepth 100000 in
set_option maxHeartbeats 16000000 in
theorem qtake_ok (l : Bs) (sp : Option Addr) (cap : Nat) (w : World) {K : Nat → Prop} (hl : l.length ≤ 100000) (h64 : 64 ≤ l.length) (hR : RefIs w K sp l cap) :
    Calls Tryz.prog 33 #[.agg #[.slice sp l.length cap, .int .i64 0]] w (QtPost l 0 K w) := by
  have HP : Hid (∀ x w', (∃ sp' cap' rest, x = .returned (.tuple #[.agg (pcells (takenP l 0)).toArray, .agg #[.slice sp' rest.length cap', .int .i64 (takeE l 0 : Int)]]) ∧ RefIs w' K sp' rest cap' ∧ (takeE l 0 = 0 → rest = l.drop 64) ∧ (0 = 0 → takeE l 0 ≠ 0 → rest = []) ∧ Below w.heap.size w w') → QtPost l 0 K w x w') := Lib.hid fun _ _ h => h
  generalize QtPost l 0 K w = Post at HP ⊢
  obtain ⟨L, hL⟩ : ∃ L, l.length = L := ⟨_, rfl⟩
  have HL := Lib.hid hL
  have H64 := Lib.hid h64
  obtain ⟨n, hn⟩ : ∃ n, (l.drop 64).length = n := ⟨_, rfl⟩
  have HN := Lib.hid hn
  obtain ⟨b, hb⟩ : ∃ b, l.take 64 = b := ⟨_, rfl⟩
  have HBE := Lib.hid hb
  have HB : Hid (b.length = 64) := Lib.hid (by rw [← hb]; simp; omega)
  have HST : Hid (∀ W, W = ((w.alloc (.cells #[.slice sp L cap, .int .i64 0] 87)).alloc (.cells (pcells zeroP).toArray 28)).alloc (.cells #[.slice none 0 0, .int .i64 0] 87) →
      Blk W w.heap.size [.slice sp L cap, .int .i64 0] 87 ∧ Blk W (w.heap.size + 1) (pcells zeroP) 28 ∧ Blk W (w.heap.size + 1 + 1) [.slice none 0 0, .int .i64 0] 87 ∧ Below w.heap.size w W ∧ RefIs W (fun g => K g ∧ g < w.heap.size) sp l cap) := Lib.hid (fun W e => by
    have hb : Below w.heap.size w W := by rw [e]; exact (((Below.refl _ _).alloc (Nat.le_refl _) _).alloc (by simp) _).alloc (by simp; omega) _
    refine ⟨?_, ?_, ?_, hb, hR.up.keep hb⟩
    · rw [e]; exact ((Blk.new' w _ [.slice sp L cap, .int .i64 0] _ _ rfl rfl).alloc _).alloc _
    · rw [e]; exact (Blk.new' _ _ _ _ _ (by simp) rfl).alloc _
    · rw [e]; exact Blk.new' _ _ [.slice none 0 0, .int .i64 0] _ _ (by simp) rfl)
  rw [hL]
  clear hR hl h64 hL hn hb
  go_enter Tryz.func33, Tryz.ntmps33
  go_upto_region 1 with fail
  refine (fun (k : ∀ W, (Blk W w.heap.size [.slice sp L cap, .int .i64 0] 87 ∧ Blk W (w.heap.size + 1) (pcells zeroP) 28 ∧ Blk W (w.heap.size + 1 + 1) [.slice none 0 0, .int .i64 0] 87 ∧ Below w.heap.size w W ∧ RefIs W (fun g => K g ∧ g < w.heap.size) sp l cap) → Code.wp _ _ _ _ W) => k _ (HST.out _ rfl)) ?_
  intro W0 h0
  have H0 := Lib.hid h0
  have hraw := refRaw_any l sp cap 0 64 W0 h0.2.2.2.2
  have hH0 : Blk W0 w.heap.size [.slice sp L cap, .int .i64 0] 87 := h0.1
  have HH0 := Lib.hid hH0
  rw [HL.out] at hraw
  have hraw2 : Calls Tryz.prog 63 #[.agg #[.slice sp L cap, .int .i64 0], .int .i64 64] W0 fun x w' => ∃ so co sp1 cap1, x = .returned (.tuple #[.slice so 64 co, .agg #[.slice sp1 n cap1, .int .i64 0]]) ∧ RefIs w' (fun g => K g ∧ g < w.heap.size) so b co ∧ RefIs w' (fun g => K g ∧ g < w.heap.size) sp1 (l.drop 64) cap1 ∧ Below W0.heap.size W0 w' := hraw.mono fun x w' hh => by
    unfold RawOf at hh
    rw [show ((64 : Int)) = ((64 : Nat) : Int) from rfl, refRes_ok (by rw [HL.out]; exact H64.out |> fun h => by rw [HL.out] at h; exact h)] at hh
    obtain ⟨so, co, sp1, cap1, e, h1, h2, h3⟩ := hh
    rw [HBE.out] at e h1
    simp only [HB.out] at e
    refine ⟨so, co, sp1, cap1, ?_, h1, h2, h3⟩
    rw [e]
    rw [← HN.out]
    rfl
  have HRAW := Lib.hid hraw2
  clear h0 hraw hraw2 hH0
  go_wp2_with (first | (refine wpList_load_row rfl 87 (.tmp 1) rfl w.heap.size rfl 87 _ _ _ HH0.out Tryz.underlying87 rfl sizeRef ?_) | fail)
  refine HRAW.out.mono ?_
  rintro x1 Z1 ⟨so, co, sp1, cap1, rfl, hb1, hn1, hbel1⟩
  have HRB := Lib.hid hb1; have HRN := Lib.hid hn1
  have HB1 := Lib.hid (H0.out.2.2.2.1.trans (hbel1.mono H0.out.2.2.2.1.size))
  have HR2 := Lib.hid (H0.out.2.1.below hbel1 H0.out.2.1.lt)
  have HR3 := Lib.hid (H0.out.2.2.1.below hbel1 H0.out.2.2.1.lt)
  clear hb1 hn1 hbel1 H0 HH0 HRAW HST
  go_upto_region 2 with (first | (refine wpList_store_row rfl 87 (.tmp 5) (.tmp 22) rfl Z1.heap.size #[.slice sp1 n cap1, .int .i64 0] rfl rfl 87 _ (heap_alloc_new Z1 _) sizeRef rfl (one_ref _ _ _ _) ?_) | fail)
  refine (fun (k : ∀ W, Blk W Z1.heap.size [.slice sp1 n cap1, .int .i64 0] 87 → Below Z1.heap.size Z1 W → Code.wp _ _ _ _ W) => k _ (blk_row1 Z1 _ [.slice sp1 n cap1, .int .i64 0] 87).1 (blk_row1 Z1 _ [.slice sp1 n cap1, .int .i64 0] 87).2) ?_
  intro Z4 hx4 hb4
  have o5 := HR3.out.lt
  have HN4 := Lib.hid hx4
  have HR24 := Lib.hid (HR2.out.below hb4 HR2.out.lt); have HR34 := Lib.hid (HR3.out.below hb4 HR3.out.lt)
  have hw4 := hb4.mono HB1.out.size
  have HB4 := Lib.hid (HB1.out.trans hw4); have HRB4 := Lib.hid (HRB.out.keep hw4); have HRN4 := Lib.hid (HRN.out.keep hw4)
  have c5 := hx4.cell (j := 1) rfl
  obtain ⟨g5, hg5⟩ : ∃ g, Z1.heap.size = g := ⟨_, rfl⟩
  rw [hg5] at HN4 o5 c5 ⊢
  have O5 := Lib.hid o5
  clear hx4 hb4 hw4 hg5 o5 HB1 HRB HRN HR2 HR3
  go_upto_region 5 with (first | (refine wpList_store_row rfl 87 (.tmp 6) (.tmp 29) rfl Z4.heap.size #[.slice so 64 co, .int .i64 0] rfl rfl 87 _ (heap_alloc_new Z4 _) sizeRef rfl (one_ref _ _ _ _) ?_) | fail)
  refine (fun (k : ∀ W, Blk W Z4.heap.size [.slice so 64 co, .int .i64 0] 87 → Below Z4.heap.size Z4 W → Code.wp _ _ _ _ W) => k _ (blk_row1 Z4 _ [.slice so 64 co, .int .i64 0] 87).1 (blk_row1 Z4 _ [.slice so 64 co, .int .i64 0] 87).2) ?_
  intro Z5 hx5 hb5
  have o6 := HN4.out.lt
  have HX5 := Lib.hid hx5
  have HN5 := Lib.hid (HN4.out.below hb5 HN4.out.lt); have HR25 := Lib.hid (HR24.out.below hb5 HR24.out.lt); have HR35 := Lib.hid (HR34.out.below hb5 HR34.out.lt)
  have hw5 := hb5.mono HB4.out.size
  have HB5 := Lib.hid (HB4.out.trans hw5); have HRB5 := Lib.hid (HRB4.out.keep hw5); have HRN5 := Lib.hid (HRN4.out.keep hw5)
  obtain ⟨g6, hg6⟩ : ∃ g, Z4.heap.size = g := ⟨_, rfl⟩
  rw [hg6] at HX5 o6 ⊢
  have O6 := Lib.hid o6
  clear hx5 hb5 hw5 hg6 o6 c5 HB4 HRB4 HRN4 HR24 HR34 HN4
  go_upto_region 6 with fail
  refine (fun (k : ∀ W, Blk W Z5.heap.size (pcells zeroP) 28 → Below Z5.heap.size Z5 W → Code.wp _ _ _ _ W) => k _ (Blk.new Z5 (pcells zeroP) 28) ((Below.refl _ _).alloc (Nat.le_refl _) _)) ?_
  intro Z6 hx6 hb6
  have hq6 : QtW l w K so co sp1 cap1 g5 g6 Z5.heap.size zeroP b Z6 := by
    have hw6 := hb6.mono HB5.out.size
    have hb64 := HB.out
    exact ⟨HR25.out.below hb6 HR25.out.lt, HR35.out.below hb6 HR35.out.lt, by rw [HBE.out]; exact HRB5.out.keep hw6, HRN5.out.keep hw6, by rw [HN.out]; exact HN5.out.below hb6 HN5.out.lt, ⟨so, co, by rw [hb64]; exact HX5.out.below hb6 HX5.out.lt, HRB5.out.keep hw6⟩, hx6, HB5.out.trans hw6, O5.out, O6.out, HX5.out.lt⟩
  obtain ⟨g7, hg7⟩ : ∃ g, Z5.heap.size = g := ⟨_, rfl⟩
  rw [hg7] at hq6 ⊢
  have HQ0 : Hid (QtW l w K so co sp1 cap1 g5 g6 g7 zeroP (b.drop 0) Z6) := Lib.hid hq6
  have HD : Hid (∀ k, (b.drop k).length = 64 - k) := Lib.hid (fun k => by rw [List.length_drop, HB.out])
  clear hx6 hb6 hq6 hg7 HN5 HR25 HR35 HB5 HRB5 HRN5 HX5
  obtain ⟨spxkd, capxkd, hxkd, hrxkd⟩ := HQ0.out.x
  rw [HD.out] at hxkd
  have HXkd : Hid (Blk Z6 g6 [.slice spxkd 64 capxkd, .int .i64 0] 87) := Lib.hid hxkd
  have HNkd := Lib.hid (qnum (n := 1) (m := 64) (m' := 63) (ni := 1) hrxkd (HD.out _) (by omega) (by omega) rfl rfl)
  clear hxkd hrxkd
  go_wp2_with (first | (refine wpL_val rfl (ex_ld (ty := 87) (cs := [.slice spxkd 64 capxkd, .int .i64 0]) rfl rfl (rng_all HXkd.out) Tryz.underlying87 rfl sizeRef) ?_) | fail)
  refine HNkd.out.mono ?_
  rintro xkd Ykd ⟨spkd, capkd, rfl, hrkd, hbkd⟩
  have HGkd := Lib.hid ((HQ0.out.grown hbkd).readTo hrkd (by rw [List.drop_drop, HD.out]))
  have HXXkd : Hid (Blk Ykd g6 [.slice spxkd 64 capxkd, .int .i64 0] 87) := Lib.hid (HXkd.out.below hbkd HXkd.out.lt)
  obtain ⟨vkd, hvkd⟩ : ∃ v, val ((b.drop 0).take 1) = v := ⟨_, rfl⟩
  rw [hvkd]
  have HVkd := Lib.hid hvkd
  clear hrkd hbkd hvkd HNkd HXkd
  go_upto_region 7 with (first | (refine wpList_store_row rfl 87 (.tmp 6) (.tmp 34) rfl g6 #[.slice spkd 63 capkd, .int .i64 0] rfl rfl 87 _ HXXkd.out sizeRef rfl (one_ref _ _ _ _) ?_) | fail)
  refine (fun (k : ∀ W, QtW l w K so co sp1 cap1 g5 g6 g7 zeroP (b.drop 1) W → Code.wp _ _ _ _ W) => k _ (by have h := HGkd.out; rw [List.drop_drop] at h; exact h)) ?_
  intro V0 hq
  have HQ1 := Lib.hid hq
  clear hq HGkd HXXkd HQ0
  obtain ⟨spxlv, capxlv, hxlv, hrxlv⟩ := HQ1.out.x
  rw [HD.out] at hxlv
  have HXlv : Hid (Blk V0 g6 [.slice spxlv 63 capxlv, .int .i64 0] 87) := Lib.hid hxlv
  have HNlv := Lib.hid (qnum (n := 1) (m := 63) (m' := 62) (ni := 1) hrxlv (HD.out _) (by omega) (by omega) rfl rfl)
  clear hxlv hrxlv
  go_wp2_with (first | (refine wpL_val rfl (ex_ld (ty := 87) (cs := [.slice spxlv 63 capxlv, .int .i64 0]) rfl rfl (rng_all HXlv.out) Tryz.underlying87 rfl sizeRef) ?_) | fail)
  refine HNlv.out.mono ?_
  rintro xlv Ylv ⟨splv, caplv, rfl, hrlv, hblv⟩
  have HGlv := Lib.hid ((HQ1.out.grown hblv).readTo hrlv (by rw [List.drop_drop, HD.out]))
  have HXXlv : Hid (Blk Ylv g6 [.slice spxlv 63 capxlv, .int .i64 0] 87) := Lib.hid (HXlv.out.below hblv HXlv.out.lt)
  obtain ⟨vlv, hvlv⟩ : ∃ v, val ((b.drop 1).take 1) = v := ⟨_, rfl⟩
  rw [hvlv]
  have HVlv := Lib.hid hvlv
  clear hrlv hblv hvlv HNlv HXlv
  go_upto_region 8 with (first | (refine wpList_store_row rfl 87 (.tmp 6) (.tmp 39) rfl g6 #[.slice splv 62 caplv, .int .i64 0] rfl rfl 87 _ HXXlv.out sizeRef rfl (one_ref _ _ _ _) ?_) | fail)
  refine (fun (k : ∀ W, QtW l w K so co sp1 cap1 g5 g6 g7 zeroP (b.drop 2) W → Code.wp _ _ _ _ W) => k _ (by have h := HGlv.out; rw [List.drop_drop] at h; exact h)) ?_
  intro V1 hq
  have HQ2 := Lib.hid hq
  clear hq HGlv HXXlv HQ1
  obtain ⟨spxob, capxob, hxob, hrxob⟩ := HQ2.out.x
  rw [HD.out] at hxob
  have HXob : Hid (Blk V1 g6 [.slice spxob 62 capxob, .int .i64 0] 87) := Lib.hid hxob
  have HNob := Lib.hid (qnum (n := 2) (m := 62) (m' := 60) (ni := 2) hrxob (HD.out _) (by omega) (by omega) rfl rfl)
  clear hxob hrxob
  go_wp2_with (first | (refine wpL_val rfl (ex_ld (ty := 87) (cs := [.slice spxob 62 capxob, .int .i64 0]) rfl rfl (rng_all HXob.out) Tryz.underlying87 rfl sizeRef) ?_) | fail)
  refine HNob.out.mono ?_
  rintro xob Yob ⟨spob, capob, rfl, hrob, hbob⟩
  have HGob := Lib.hid ((HQ2.out.grown hbob).readTo hrob (by rw [List.drop_drop, HD.out]))
  have HXXob : Hid (Blk Yob g6 [.slice spxob 62 capxob, .int .i64 0] 87) := Lib.hid (HXob.out.below hbob HXob.out.lt)
  obtain ⟨vob, hvob⟩ : ∃ v, val ((b.drop 2).take 2) = v := ⟨_, rfl⟩
  rw [hvob]
  have HVob := Lib.hid hvob
  clear hrob hbob hvob HNob HXob
  go_upto_region 9 with (first | (refine wpList_store_row rfl 87 (.tmp 6) (.tmp 44) rfl g6 #[.slice spob 60 capob, .int .i64 0] rfl rfl 87 _ HXXob.out sizeRef rfl (one_ref _ _ _ _) ?_) | fail)
  refine (fun (k : ∀ W, QtW l w K so co sp1 cap1 g5 g6 g7 zeroP (b.drop 4) W → Code.wp _ _ _ _ W) => k _ (by have h := HGob.out; rw [List.drop_drop] at h; exact h)) ?_
  intro V2 hq
  have HQ3 := Lib.hid hq
  clear hq HGob HXXob HQ2
  obtain ⟨spxof, capxof, hxof, hrxof⟩ := HQ3.out.x
  rw [HD.out] at hxof
  have HXof : Hid (Blk V2 g6 [.slice spxof 60 capxof, .int .i64 0] 87) := Lib.hid hxof
  have HNof := Lib.hid (qnum (n := 4) (m := 60) (m' := 56) (ni := 4) hrxof (HD.out _) (by omega) (by omega) rfl rfl)
  clear hxof hrxof
  go_wp2_with (first | (refine wpL_val rfl (ex_ld (ty := 87) (cs := [.slice spxof 60 capxof, .int .i64 0]) rfl rfl (rng_all HXof.out) Tryz.underlying87 rfl sizeRef) ?_) | fail)
  refine HNof.out.mono ?_
  rintro xof Yof ⟨spof, capof, rfl, hrof, hbof⟩
  have HGof := Lib.hid ((HQ3.out.grown hbof).readTo hrof (by rw [List.drop_drop, HD.out]))
  have HXXof : Hid (Blk Yof g6 [.slice spxof 60 capxof, .int .i64 0] 87) := Lib.hid (HXof.out.below hbof HXof.out.lt)
  obtain ⟨vof, hvof⟩ : ∃ v, val ((b.drop 4).take 4) = v := ⟨_, rfl⟩
  rw [hvof]
  have HVof := Lib.hid hvof
  clear hrof hbof hvof HNof HXof
  go_upto_region 10 with (first | (refine wpList_store_row rfl 87 (.tmp 6) (.tmp 49) rfl g6 #[.slice spof 56 capof, .int .i64 0] rfl rfl 87 _ HXXof.out sizeRef rfl (one_ref _ _ _ _) ?_) | fail)
  refine (fun (k : ∀ W, QtW l w K so co sp1 cap1 g5 g6 g7 zeroP (b.drop 8) W → Code.wp _ _ _ _ W) => k _ (by have h := HGof.out; rw [List.drop_drop] at h; exact h)) ?_
  intro V3 hq
  have HQ4 := Lib.hid hq
  clear hq HGof HXXof HQ3
  have bk : vkd < 256 := by rw [← HVkd.out]; exact val_take_lt _ 1
  have bl : vlv < 256 := by rw [← HVlv.out]; exact val_take_lt _ 1
  have bo : vob < 65536 := by rw [← HVob.out]; exact val_take_lt _ 2
  have bf : vof < 4294967296 := by rw [← HVof.out]; exact val_take_lt _ 4
  have wk := w8 bk; have wl := w8 bl; have wo := w16 bo; have wf := w32 bf
  have f0 := HQ4.out.p.free 0; have f1 := HQ4.out.p.free 1; have f2 := HQ4.out.p.free 2; have f3 := HQ4.out.p.free 3
  have c0 : V3.cell? ⟨g7, 0, none⟩ = some (.int .u8 0) := HQ4.out.p.cell rfl
  have c1 : V3.cell? ⟨g7, 1, none⟩ = some (.int .u8 0) := HQ4.out.p.cell rfl
  have c2 : V3.cell? ⟨g7, 2, none⟩ = some (.int .u16 0) := HQ4.out.p.cell rfl
  have c3 : V3.cell? ⟨g7, 3, none⟩ = some (.int .u32 0) := HQ4.out.p.cell rfl
  have hq10 : QtW l w K so co sp1 cap1 g5 g6 g7 (numP vkd vlv vob vof 0 (List.replicate 32 0#8) [0, 0, 0, 0]) (b.drop 8) ((((V3.setCell ⟨g7, 0, none⟩ (.int .u8 (vkd : Int))).setCell ⟨g7, 1, none⟩ (.int .u8 (vlv : Int))).setCell ⟨g7, 2, none⟩ (.int .u16 (vob : Int))).setCell ⟨g7, 3, none⟩ (.int .u32 (vof : Int))) :=
    HQ4.out.put ((((HQ4.out.p.set 0 _).set 1 _).set 2 _).set 3 _) (((((ButFor.refl _ _).set _ _).set _ _).set _ _).set _ _)
  have HQ10 := Lib.hid hq10
  clear bk bl bo bf hq10
  go_upto_region 11 with fail
  refine (fun (k : ∀ W, QtW l w K so co sp1 cap1 g5 g6 g7 (numP vkd vlv vob vof 0 (List.replicate 32 0#8) [0, 0, 0, 0]) (b.drop 8) W → Code.wp _ _ _ _ W) => k _ HQ10.out) ?_
  intro V9 hq
  have HQ11 := Lib.hid hq
  clear hq HQ10 c0 c1 c2 c3 f0 f1 f2 f3 wk wl wo wf HQ4
  obtain ⟨spxbi, capxbi, hxbi, hrxbi⟩ := HQ11.out.x
  rw [HD.out] at hxbi
  have HXbi : Hid (Blk V9 g6 [.slice spxbi 56 capxbi, .int .i64 0] 87) := Lib.hid hxbi
  have HNbi := Lib.hid (qnum (n := 8) (m := 56) (m' := 48) (ni := 8) hrxbi (HD.out _) (by omega) (by omega) rfl rfl)
  clear hxbi hrxbi
  go_wp2_with (first | (refine wpL_val rfl (ex_ld (ty := 87) (cs := [.slice spxbi 56 capxbi, .int .i64 0]) rfl rfl (rng_all HXbi.out) Tryz.underlying87 rfl sizeRef) ?_) | fail)
  refine HNbi.out.mono ?_
  rintro xbi Ybi ⟨spbi, capbi, rfl, hrbi, hbbi⟩
  obtain ⟨vbi, hvbi⟩ : ∃ v, val ((b.drop 8).take 8) = v := ⟨_, rfl⟩
  rw [hvbi]
  have HVbi := Lib.hid hvbi
  have hg0 := HQ11.out.grown hbbi
  have f4 := hg0.p.free 4
  have c4 : Ybi.cell? ⟨g7, 4, none⟩ = some (.int .u64 0) := hg0.p.cell rfl
  have o7 := hg0.o7
  have hg1 : QtW l w K so co sp1 cap1 g5 g6 g7 (numP vkd vlv vob vof vbi (List.replicate 32 0#8) [0, 0, 0, 0]) (b.drop 8) (Ybi.setCell ⟨g7, 4, none⟩ (.int .u64 (vbi : Int))) := hg0.put (hg0.p.set 4 _) ((ButFor.refl _ _).set _ _)
  have hbs : Below w.heap.size Ybi (Ybi.setCell ⟨g7, 4, none⟩ (.int .u64 (vbi : Int))) := ((ButFor.refl g7 Ybi).set 4 _).below (by have := hg0.o5; have := hg0.o6; omega) hg0.bel.size
  have HG := Lib.hid (hg1.readTo (hrbi.keep hbs) (by rw [List.drop_drop, HD.out]))
  have HXXbi : Hid (Blk (Ybi.setCell ⟨g7, 4, none⟩ (.int .u64 (vbi : Int))) g6 [.slice spxbi 56 capxbi, .int .i64 0] 87) := Lib.hid ((HXbi.out.below hbbi HXbi.out.lt).other (by simp; omega) _)
  clear hrbi hbbi hvbi hg0 hg1 hbs o7 HNbi HXbi HQ11
  go_upto_region 12 with (first | (refine wpList_store_row rfl 87 (.tmp 6) (.tmp 66) rfl g6 #[.slice spbi 48 capbi, .int .i64 0] rfl rfl 87 _ HXXbi.out sizeRef rfl (one_ref _ _ _ _) ?_) | fail)
  refine (fun (k : ∀ W, QtW l w K so co sp1 cap1 g5 g6 g7 (numP vkd vlv vob vof vbi (List.replicate 32 0#8) [0, 0, 0, 0]) (b.drop 16) W → Code.wp _ _ _ _ W) => k _ (by have h := HG.out; rw [List.drop_drop] at h; exact h)) ?_
  intro V10 hq
  have HR1 : Hid (QtRel1 l w K so co sp1 cap1 g5 g6 g7 b (numP vkd vlv vob vof vbi (List.replicate 32 0#8) [0, 0, 0, 0]) (.int .i64 0) V10) := Lib.hid ⟨0, by omega, rfl, hq⟩
  obtain ⟨q, hqq⟩ : ∃ q, numP vkd vlv vob vof vbi (List.replicate 32 0#8) [0, 0, 0, 0] = q := ⟨_, rfl⟩
  rw [hqq] at HR1
  have HQQ := Lib.hid hqq
  clear hq HG HXXbi c4 f4 hqq
  go_wp2_with fail
  go_loopw [12] (fun i wr => QtRel1 l w K so co sp1 cap1 g5 g6 g7 b q i wr) (fun i _ => 32 - (intOf i).toNat)
  case atStart => exact HR1.out
  case round =>
    clear HR1
    obtain ⟨k, hk, rfl, hQ⟩ := hrel
    have HQ := Lib.hid hQ
    clear hQ
    have wk1 := IntWalk.i64_in ((k : Int) + 1) (by omega)
    by_cases hlt : k < 32
    · obtain ⟨x, hx⟩ : ∃ x, b[16 + k]? = some x := ⟨_, List.getElem?_eq_getElem (by rw [HB.out]; omega)⟩
      have hv1 : (val ((b.drop (16 + k)).take 1) : Int) = N8 x := by
        have h1 : (b.drop (16 + k)).take 1 = [x] := by
          obtain ⟨h2, h3⟩ := List.getElem?_eq_some_iff.1 hx
          rw [List.drop_eq_getElem_cons h2, h3]
          rfl
        rw [h1]
        simp [val, N8]
      have HV1 := Lib.hid hv1
      have HXB := Lib.hid hx
      have wx : IntKind.u8.wrap (N8 x) = N8 x := cvw8 x
      clear hv1 hx
      obtain ⟨spxh, capxh, hxh, hrxh⟩ := HQ.out.x
      rw [HD.out] at hxh
      have HXh : Hid (Blk wr g6 [.slice spxh (64 - (16 + k)) capxh, .int .i64 0] 87) := Lib.hid hxh
      have HNh := Lib.hid (qnum (n := 1) (m := (64 - (16 + k))) (m' := (64 - (16 + k) - 1)) (ni := 1) hrxh (HD.out _) (by omega) (by omega) rfl rfl)
      clear hxh hrxh
      go_wp2_with (first | (refine wpL_val rfl (ex_ld (ty := 87) (cs := [.slice spxh (64 - (16 + k)) capxh, .int .i64 0]) rfl rfl (rng_all HXh.out) Tryz.underlying87 rfl sizeRef) ?_) | fail)
      refine HNh.out.mono ?_
      rintro xh Yh ⟨sph, caph, rfl, hrh, hbh⟩
      rw [HV1.out]
      have hz1 := blk_row1 Yh #[.slice none 0 0, .int .i64 0] [.slice sph (64 - (16 + k) - 1) caph, .int .i64 0] 87
      have hgz := (HQ.out.grown hbh).grown hz1.2
      have HGZ : Hid (∀ Z, Z = (Yh.alloc (.cells #[.slice none 0 0, .int .i64 0] 87)).setRow Yh.heap.size #[.slice sph (64 - (16 + k) - 1) caph, .int .i64 0] → Blk Z Yh.heap.size [.slice sph (64 - (16 + k) - 1) caph, .int .i64 0] 87 ∧ Blk Z g6 [.slice spxh (64 - (16 + k)) capxh, .int .i64 0] 87 ∧ QtW l w K so co sp1 cap1 g5 g6 g7 { q with hash := hsK b k } (b.drop (16 + (k + 1))) (Z.setRow g6 #[.slice sph (64 - (16 + k) - 1) caph, .int .i64 0])) := Lib.hid (fun Z e => by
        subst e
        refine ⟨hz1.1, (HXh.out.below hbh HXh.out.lt).below hz1.2 (Nat.lt_of_lt_of_le HXh.out.lt hbh.size), ?_⟩
        have h := hgz.readTo (hrh.keep (hz1.2.mono (HQ.out.grown hbh).bel.size)) (n := 64 - (16 + k) - 1) (by rw [List.drop_drop, HD.out]; omega)
        rw [List.drop_drop, show 16 + k + 1 = 16 + (k + 1) by omega] at h
        exact h)
      clear hz1 hgz hrh hbh HNh HXh
      go_upto_region 16 with (first | (refine wpList_store_row rfl 87 (.tmp 14) (.tmp 76) rfl Yh.heap.size #[.slice sph (64 - (16 + k) - 1) caph, .int .i64 0] rfl rfl 87 _ (heap_alloc_new Yh _) sizeRef rfl (one_ref _ _ _ _) ?_) | fail)
      refine (fun (k2 : ∀ Z, (Blk Z Yh.heap.size [.slice sph (64 - (16 + k) - 1) caph, .int .i64 0] 87 ∧ Blk Z g6 [.slice spxh (64 - (16 + k)) capxh, .int .i64 0] 87 ∧ QtW l w K so co sp1 cap1 g5 g6 g7 { q with hash := hsK b k } (b.drop (16 + (k + 1))) (Z.setRow g6 #[.slice sph (64 - (16 + k) - 1) caph, .int .i64 0])) → Code.wp _ _ _ _ Z) => k2 _ (HGZ.out _ rfl)) ?_
      intro Z hZ
      have HZ := Lib.hid hZ
      clear hZ HGZ HQ
      go_upto_region 17 with (first | (refine wpL_val rfl (ex_ld (ty := 87) (cs := [.slice sph (64 - (16 + k) - 1) caph, .int .i64 0]) rfl rfl (rng_all HZ.out.1) Tryz.underlying87 rfl sizeRef) ?_) | (refine wpList_store_row rfl 87 (.tmp 6) (.tmp 77) rfl g6 #[.slice sph (64 - (16 + k) - 1) caph, .int .i64 0] rfl rfl 87 _ HZ.out.2.1 sizeRef rfl (one_ref _ _ _ _) ?_) | fail)
      refine (fun (k2 : ∀ Z, QtW l w K so co sp1 cap1 g5 g6 g7 { q with hash := hsK b k } (b.drop (16 + (k + 1))) Z → Code.wp _ _ _ _ Z) => k2 _ HZ.out.2.2) ?_
      intro Z2 hZ2
      have HZ2 := Lib.hid hZ2
      obtain ⟨y, hy⟩ := hZ2.p.has (5 + k) (by have : (pcells { q with hash := hsK b k }).length = 41 := by rw [← HQQ.out]; simp [pcells, pnums, numP, hsK_len HB.out (k := k) (by omega)]
                                              omega)
      have fy := hZ2.p.free (5 + k)
      have hst : QtW l w K so co sp1 cap1 g5 g6 g7 { q with hash := hsK b (k + 1) } (b.drop (16 + (k + 1))) (Z2.setCell ⟨g7, 5 + k, none⟩ (.int .u8 (N8 x))) := by
        have h8 := hZ2.p.set (5 + k) (V8 x)
        rw [hash_set (p := { q with hash := hsK b k }) k (by simp only; rw [hsK_len HB.out (by omega)]; exact hlt) x] at h8
        simp only at h8
        rw [hsK_step HB.out hlt HXB.out] at h8
        exact hZ2.put h8 ((ButFor.refl _ _).set _ _)
      have HST := Lib.hid hst
      clear hZ2 hst HZ HV1 HXB
      go_wp2_with fail
      go_roundw
      case rel => exact ⟨k + 1, by omega, by go_num, HST.out⟩
      case measure => simp [intOf]; omega
    · obtain rfl : k = 32 := by omega
      have hq2 : QtRel2 l w K so co sp1 cap1 g5 g6 g7 b { q with hash := hsK b 32 } (.int .i64 0) wr := by
        refine ⟨0, by omega, rfl, ?_⟩
        have h := HQ.out
        rw [← HQQ.out] at h ⊢
        exact h
      have HR2 := Lib.hid hq2
      obtain ⟨q2, hq22⟩ : ∃ q2 : Pt, { q with hash := hsK b 32 } = q2 := ⟨_, rfl⟩
      rw [hq22] at HR2
      have HQ2 := Lib.hid hq22
      clear hlt hk hq2 hq22 HQ
      rw [show ((32 : Nat) : Int) = (32 : Int) from rfl]
      go_wp2_with fail
      go_loopw [15] (fun i wr => QtRel2 l w K so co sp1 cap1 g5 g6 g7 b q2 i wr) (fun i _ => 4 - (intOf i).toNat)
      case atStart => exact HR2.out
      case round =>
        clear HR2
        obtain ⟨k, hk, rfl, hQ⟩ := hrel
        have HQ := Lib.hid hQ
        clear hQ
        have wk1 := IntWalk.i64_in ((k : Int) + 1) (by omega)
        by_cases hlt : k < 4
        · obtain ⟨x, hx⟩ : ∃ x, val ((b.drop (48 + 2 * k)).take 2) = x := ⟨_, rfl⟩
          have hxl : x < 65536 := by rw [← hx]; exact val_take_lt _ 2
          have HV1 := Lib.hid hx
          have wx : IntKind.u16.wrap (x : Int) = x := w16 hxl
          clear hx
          obtain ⟨spxh, capxh, hxh, hrxh⟩ := HQ.out.x
          rw [HD.out] at hxh
          have HXh : Hid (Blk wr g6 [.slice spxh (64 - (48 + 2 * k)) capxh, .int .i64 0] 87) := Lib.hid hxh
          have HNh := Lib.hid (qnum (n := 2) (m := (64 - (48 + 2 * k))) (m' := (64 - (48 + 2 * k) - 2)) (ni := 2) hrxh (HD.out _) (by omega) (by omega) rfl rfl)
          clear hxh hrxh
          go_wp2_with (first | (refine wpL_val rfl (ex_ld (ty := 87) (cs := [.slice spxh (64 - (48 + 2 * k)) capxh, .int .i64 0]) rfl rfl (rng_all HXh.out) Tryz.underlying87 rfl sizeRef) ?_) | fail)
          refine HNh.out.mono ?_
          rintro xh Yh ⟨sph, caph, rfl, hrh, hbh⟩
          rw [HV1.out]
          have hz1 := blk_row1 Yh #[.slice none 0 0, .int .i64 0] [.slice sph (64 - (48 + 2 * k) - 2) caph, .int .i64 0] 87
          have hgz := (HQ.out.grown hbh).grown hz1.2
          have HGZ : Hid (∀ Z, Z = (Yh.alloc (.cells #[.slice none 0 0, .int .i64 0] 87)).setRow Yh.heap.size #[.slice sph (64 - (48 + 2 * k) - 2) caph, .int .i64 0] → Blk Z Yh.heap.size [.slice sph (64 - (48 + 2 * k) - 2) caph, .int .i64 0] 87 ∧ Blk Z g6 [.slice spxh (64 - (48 + 2 * k)) capxh, .int .i64 0] 87 ∧ QtW l w K so co sp1 cap1 g5 g6 g7 { q2 with ats := atK b k } (b.drop (48 + 2 * (k + 1))) (Z.setRow g6 #[.slice sph (64 - (48 + 2 * k) - 2) caph, .int .i64 0])) := Lib.hid (fun Z e => by
            subst e
            refine ⟨hz1.1, (HXh.out.below hbh HXh.out.lt).below hz1.2 (Nat.lt_of_lt_of_le HXh.out.lt hbh.size), ?_⟩
            have h := hgz.readTo (hrh.keep (hz1.2.mono (HQ.out.grown hbh).bel.size)) (n := 64 - (48 + 2 * k) - 2) (by rw [List.drop_drop, HD.out]; omega)
            rw [List.drop_drop, show 48 + 2 * k + 2 = 48 + 2 * (k + 1) by omega] at h
            exact h)
          clear hz1 hgz hrh hbh HNh HXh
          go_upto_region 22 with (first | (refine wpList_store_row rfl 87 (.tmp 17) (.tmp 91) rfl Yh.heap.size #[.slice sph (64 - (48 + 2 * k) - 2) caph, .int .i64 0] rfl rfl 87 _ (heap_alloc_new Yh _) sizeRef rfl (one_ref _ _ _ _) ?_) | fail)
          refine (fun (k2 : ∀ Z, (Blk Z Yh.heap.size [.slice sph (64 - (48 + 2 * k) - 2) caph, .int .i64 0] 87 ∧ Blk Z g6 [.slice spxh (64 - (48 + 2 * k)) capxh, .int .i64 0] 87 ∧ QtW l w K so co sp1 cap1 g5 g6 g7 { q2 with ats := atK b k } (b.drop (48 + 2 * (k + 1))) (Z.setRow g6 #[.slice sph (64 - (48 + 2 * k) - 2) caph, .int .i64 0])) → Code.wp _ _ _ _ Z) => k2 _ (HGZ.out _ rfl)) ?_
          intro Z hZ
          have HZ := Lib.hid hZ
          clear hZ HGZ HQ
          go_upto_region 23 with (first | (refine wpL_val rfl (ex_ld (ty := 87) (cs := [.slice sph (64 - (48 + 2 * k) - 2) caph, .int .i64 0]) rfl rfl (rng_all HZ.out.1) Tryz.underlying87 rfl sizeRef) ?_) | (refine wpList_store_row rfl 87 (.tmp 6) (.tmp 92) rfl g6 #[.slice sph (64 - (48 + 2 * k) - 2) caph, .int .i64 0] rfl rfl 87 _ HZ.out.2.1 sizeRef rfl (one_ref _ _ _ _) ?_) | fail)
          refine (fun (k2 : ∀ Z, QtW l w K so co sp1 cap1 g5 g6 g7 { q2 with ats := atK b k } (b.drop (48 + 2 * (k + 1))) Z → Code.wp _ _ _ _ Z) => k2 _ HZ.out.2.2) ?_
          intro Z2 hZ2
          have hqh : q2.hash.length = 32 := by rw [← HQ2.out]; exact hsK_len HB.out (by omega)
          obtain ⟨y, hy⟩ := hZ2.p.has (37 + k) (by have : (pcells { q2 with ats := atK b k }).length = 41 := by simp [pcells, pnums, hqh, atK_len b (k := k) (by omega)]
                                                   omega)
          have fy := hZ2.p.free (37 + k)
          have hst : QtW l w K so co sp1 cap1 g5 g6 g7 { q2 with ats := atK b (k + 1) } (b.drop (48 + 2 * (k + 1))) (Z2.setCell ⟨g7, 37 + k, none⟩ (.int .u16 (x : Int))) := by
            have h8 := hZ2.p.set (37 + k) (U16 x)
            rw [ats_set (p := { q2 with ats := atK b k }) hqh k x] at h8
            simp only at h8
            rw [← HV1.out, atK_step b hlt, HV1.out] at h8
            exact hZ2.put h8 ((ButFor.refl _ _).set _ _)
          have HST := Lib.hid hst
          clear hZ2 hst HZ HV1 hqh
          go_wp2_with fail
          go_roundw
          case rel => exact ⟨k + 1, by omega, by go_num, HST.out⟩
          case measure => simp [intOf]; omega
        · obtain rfl : k = 4 := by omega
          have hpt : { q2 with ats := atK b 4 } = pt l := by
            rw [← pt_takeQ l, HBE.out, ← HQ2.out, ← HQQ.out]
            unfold atK hsK numP
            rw [← HVkd.out, ← HVlv.out, ← HVob.out, ← HVof.out, ← HVbi.out]
            simp [pt]
          have hQ := HQ.out
          rw [hpt] at hQ
          have HQF := Lib.hid hQ
          have hlb : 64 ≤ l.length := H64.out
          have HPO := Lib.hid (pt_ok hlb)
          obtain ⟨p, hp⟩ : ∃ p, pt l = p := ⟨_, rfl⟩
          have HPL := Lib.hid hp
          rw [hp] at HQF HPO
          have hbad : badP l = !(quietP b && (eqP p zeroP || mayP p)) := by unfold badP; rw [HBE.out, hp]
          have hquiet : decide (padB p = b) = quietP b := by
            rw [← hp, ← pt_takeQ l, HBE.out, Bool.eq_iff_iff]
            simp [padB_pt HB.out]
          have HBD := Lib.hid hbad
          have HQT := Lib.hid hquiet
          have HLP := Lib.hid (pcells_length HPO.out)
          clear hlt hk hpt hQ hlb hp hbad hquiet HQ HVkd HVlv HVob HVof HVbi HQQ HQ2
          rw [show ((4 : Nat) : Int) = (4 : Int) from rfl]
          go_upto_region 24 with fail; try simp only [pS]
          go_cut [113] (fun v wx => v = .bool (badP l) ∧ QtW l w K so co sp1 cap1 g5 g6 g7 p (b.drop 56) wx)
          case first =>
            cases hqb : quietP b
            · have HQB := Lib.hid hqb
              have HNQ : Hid ((!decide (padB p = b)) = true) := Lib.hid (by rw [HQT.out, hqb]; rfl)
              clear hqb
              refine gS (.take 0 (.take 3 (.take 4 (.step 1 (.take 2 (.take 5 (.take 6 (.take 7 (.take 8 (.take 9 (.take 10 (.take 11 (.step 12 (.take 13 (.take 14 (.take 15 (.nil))))))))))))))))) (QtW l w K so co sp1 cap1 g5 g6 g7 p (b.drop 56)) HQF.out.drew ?_
              refine wpG_take _ (.agg (pcells p).toArray) rfl (by rfl) (fun X hX => ex_ld (ty := 28) (cs := pcells p) rfl rfl (rng_all hX.p) Tryz.underlying28 rfl (by rw [sizeP, HLP.out])) ?_; try simp only [pS]
              refine gT (.slice so 64 co) ?_; try simp only [pS]
              refine wpG_take _ (.string (bstr b)) rfl (by rfl) (fun X hX => ex_cvs rfl HB.out rfl (HBE.out ▸ hX.b.src)) ?_; try simp only [pS]
              refine wpG_call _ rfl (by rfl) 9 #[.agg (pcells p).toArray] (fun _ => by go_simp) (fun u w' => ∃ sp cap, u = .slice sp 64 cap ∧ SrcA w' sp (padB p)) ((qbytes_any p HPO.out wr.drew).mono fun e w' ⟨v, e1, e2, e3⟩ => ⟨_, e1, HQF.out.drew.grown e3, by
                obtain ⟨sp, cap, e, _, _, q3, _⟩ := OwnB.form e2
                rw [padB_length HPO.out] at e
                exact ⟨sp, cap, e, q3⟩⟩) ?_
              rintro u X1 hs1 ⟨spy, capy, rfl, hsy⟩
              refine ⟨fun X => (QtW l w K so co sp1 cap1 g5 g6 g7 p (b.drop 56) X) ∧ SrcA X spy (padB p), fun _ h => h.1, ⟨hs1, hsy⟩, ?_⟩; try simp only [pS]
              refine wpG_take _ (.string (bstr (padB p))) rfl (by rfl) (fun X hX => ex_cvs rfl (padB_length HPO.out) rfl hX.2) ?_; try simp only [pS]
              refine wpG_take _ (.bool true) rfl (by rfl) (fun X hX => ex_neS rfl rfl rfl HNQ.out) ?_; try simp only [pS]
              refine gT (.bool true) ?_; try simp only [pS]
              refine wpG_pass _ rfl (by rfl) ?_; try simp only [pS]
              refine wpG_pass _ rfl (by rfl) ?_; try simp only [pS]
              refine wpG_pass _ rfl (by rfl) ?_; try simp only [pS]
              refine wpG_pass _ rfl (by rfl) ?_; try simp only [pS]
              refine wpG_pass _ rfl (by rfl) ?_; try simp only [pS]
              refine wpG_skip _ rfl (by rfl) ⟨hs1, hsy⟩ ?_; try simp only [pS]
              refine wpG_pass _ rfl (by rfl) ?_; try simp only [pS]
              refine wpG_pass _ rfl (by rfl) ?_; try simp only [pS]
              refine gT (.bool true) ?_; try simp only [pS]
              refine wpG_nil ?_
              have HX := Lib.hid hs1
              clear hs1 hsy
              go_wp2_with fail
              go_meet
              case rel => exact ⟨congrArg Value.bool (by rw [HBD.out]; rw [HQB.out]; rfl), HX.out⟩
            · have HQB := Lib.hid hqb
              have HNQ : Hid ((!decide (padB p = b)) = false) := Lib.hid (by rw [HQT.out, hqb]; rfl)
              clear hqb
              cases hez : eqP p zeroP
              · have HEZ := Lib.hid hez
                clear hez
                cases hmp : mayP p
                · have HMP := Lib.hid hmp
                  have HMY : Hid (mayR p = false) := Lib.hid (by rw [← mayP_eq HPO.out.len]; exact hmp)
                  clear hmp
                  refine gS (.take 0 (.take 3 (.take 4 (.step 1 (.take 2 (.take 5 (.take 6 (.take 7 (.take 8 (.take 9 (.take 10 (.take 11 (.step 12 (.take 13 (.take 14 (.take 15 (.nil))))))))))))))))) (QtW l w K so co sp1 cap1 g5 g6 g7 p (b.drop 56)) HQF.out.drew ?_
                  refine wpG_take _ (.agg (pcells p).toArray) rfl (by rfl) (fun X hX => ex_ld (ty := 28) (cs := pcells p) rfl rfl (rng_all hX.p) Tryz.underlying28 rfl (by rw [sizeP, HLP.out])) ?_; try simp only [pS]
                  refine gT (.slice so 64 co) ?_; try simp only [pS]
                  refine wpG_take _ (.string (bstr b)) rfl (by rfl) (fun X hX => ex_cvs rfl HB.out rfl (HBE.out ▸ hX.b.src)) ?_; try simp only [pS]
                  refine wpG_call _ rfl (by rfl) 9 #[.agg (pcells p).toArray] (fun _ => by go_simp) (fun u w' => ∃ sp cap, u = .slice sp 64 cap ∧ SrcA w' sp (padB p)) ((qbytes_any p HPO.out wr.drew).mono fun e w' ⟨v, e1, e2, e3⟩ => ⟨_, e1, HQF.out.drew.grown e3, by
                    obtain ⟨sp, cap, e, _, _, q3, _⟩ := OwnB.form e2
                    rw [padB_length HPO.out] at e
                    exact ⟨sp, cap, e, q3⟩⟩) ?_
                  rintro u X1 hs1 ⟨spy, capy, rfl, hsy⟩
                  refine ⟨fun X => (QtW l w K so co sp1 cap1 g5 g6 g7 p (b.drop 56) X) ∧ SrcA X spy (padB p), fun _ h => h.1, ⟨hs1, hsy⟩, ?_⟩; try simp only [pS]
                  refine wpG_take _ (.string (bstr (padB p))) rfl (by rfl) (fun X hX => ex_cvs rfl (padB_length HPO.out) rfl hX.2) ?_; try simp only [pS]
                  refine wpG_take _ (.bool false) rfl (by rfl) (fun X hX => ex_neS rfl rfl rfl HNQ.out) ?_; try simp only [pS]
                  refine gT (.bool false) ?_; try simp only [pS]
                  refine wpG_take _ (.agg (pcells p).toArray) rfl (by rfl) (fun X hX => ex_ld (ty := 28) (cs := pcells p) rfl rfl (rng_all hX.1.p) Tryz.underlying28 rfl (by rw [sizeP, HLP.out])) ?_; try simp only [pS]
                  refine wpG_take _ (.agg (pcells zeroP).toArray) rfl (by rfl) (fun X hX => ex_bld0 rfl) ?_; try simp only [pS]
                  refine wpG_take _ (.bool true) rfl (by rfl) (fun X hX => ex_nePb (b := false) HEZ.out rfl rfl rfl HPO.out) ?_; try simp only [pS]
                  refine gT (.bool true) ?_; try simp only [pS]
                  refine wpG_take _ (.agg (pcells p).toArray) rfl (by rfl) (fun X hX => ex_ld (ty := 28) (cs := pcells p) rfl rfl (rng_all hX.1.p) Tryz.underlying28 rfl (by rw [sizeP, HLP.out])) ?_; try simp only [pS]
                  refine wpG_call _ rfl (by rfl) 12 #[.agg (pcells p).toArray] (fun _ => by go_simp) (fun u _ => u = .bool false) ((qmay_any p HPO.out X1).mono fun e w' ⟨e1, e2⟩ => ⟨_, e1, ⟨hs1.grown e2, hsy.grown e2⟩, by rw [HMY.out]⟩) ?_
                  rintro u X2 hs2 rfl
                  refine ⟨_, fun _ h => h, hs2, ?_⟩; try simp only [pS]
                  refine gT (.bool true) ?_; try simp only [pS]
                  refine gT (.bool true) ?_; try simp only [pS]
                  refine gT (.bool true) ?_; try simp only [pS]
                  refine wpG_nil ?_
                  have HX := Lib.hid hs2.1
                  clear hs1 hsy hs2
                  go_wp2_with fail
                  go_meet
                  case rel => exact ⟨congrArg Value.bool (by rw [HBD.out]; rw [HQB.out, HEZ.out, HMP.out]; rfl), HX.out⟩
                · have HMP := Lib.hid hmp
                  have HMY : Hid (mayR p = true) := Lib.hid (by rw [← mayP_eq HPO.out.len]; exact hmp)
                  clear hmp
                  refine gS (.take 0 (.take 3 (.take 4 (.step 1 (.take 2 (.take 5 (.take 6 (.take 7 (.take 8 (.take 9 (.take 10 (.take 11 (.step 12 (.take 13 (.take 14 (.take 15 (.nil))))))))))))))))) (QtW l w K so co sp1 cap1 g5 g6 g7 p (b.drop 56)) HQF.out.drew ?_
                  refine wpG_take _ (.agg (pcells p).toArray) rfl (by rfl) (fun X hX => ex_ld (ty := 28) (cs := pcells p) rfl rfl (rng_all hX.p) Tryz.underlying28 rfl (by rw [sizeP, HLP.out])) ?_; try simp only [pS]
                  refine gT (.slice so 64 co) ?_; try simp only [pS]
                  refine wpG_take _ (.string (bstr b)) rfl (by rfl) (fun X hX => ex_cvs rfl HB.out rfl (HBE.out ▸ hX.b.src)) ?_; try simp only [pS]
                  refine wpG_call _ rfl (by rfl) 9 #[.agg (pcells p).toArray] (fun _ => by go_simp) (fun u w' => ∃ sp cap, u = .slice sp 64 cap ∧ SrcA w' sp (padB p)) ((qbytes_any p HPO.out wr.drew).mono fun e w' ⟨v, e1, e2, e3⟩ => ⟨_, e1, HQF.out.drew.grown e3, by
                    obtain ⟨sp, cap, e, _, _, q3, _⟩ := OwnB.form e2
                    rw [padB_length HPO.out] at e
                    exact ⟨sp, cap, e, q3⟩⟩) ?_
                  rintro u X1 hs1 ⟨spy, capy, rfl, hsy⟩
                  refine ⟨fun X => (QtW l w K so co sp1 cap1 g5 g6 g7 p (b.drop 56) X) ∧ SrcA X spy (padB p), fun _ h => h.1, ⟨hs1, hsy⟩, ?_⟩; try simp only [pS]
                  refine wpG_take _ (.string (bstr (padB p))) rfl (by rfl) (fun X hX => ex_cvs rfl (padB_length HPO.out) rfl hX.2) ?_; try simp only [pS]
                  refine wpG_take _ (.bool false) rfl (by rfl) (fun X hX => ex_neS rfl rfl rfl HNQ.out) ?_; try simp only [pS]
                  refine gT (.bool false) ?_; try simp only [pS]
                  refine wpG_take _ (.agg (pcells p).toArray) rfl (by rfl) (fun X hX => ex_ld (ty := 28) (cs := pcells p) rfl rfl (rng_all hX.1.p) Tryz.underlying28 rfl (by rw [sizeP, HLP.out])) ?_; try simp only [pS]
                  refine wpG_take _ (.agg (pcells zeroP).toArray) rfl (by rfl) (fun X hX => ex_bld0 rfl) ?_; try simp only [pS]
                  refine wpG_take _ (.bool true) rfl (by rfl) (fun X hX => ex_nePb (b := false) HEZ.out rfl rfl rfl HPO.out) ?_; try simp only [pS]
                  refine gT (.bool true) ?_; try simp only [pS]
                  refine wpG_take _ (.agg (pcells p).toArray) rfl (by rfl) (fun X hX => ex_ld (ty := 28) (cs := pcells p) rfl rfl (rng_all hX.1.p) Tryz.underlying28 rfl (by rw [sizeP, HLP.out])) ?_; try simp only [pS]
                  refine wpG_call _ rfl (by rfl) 12 #[.agg (pcells p).toArray] (fun _ => by go_simp) (fun u _ => u = .bool true) ((qmay_any p HPO.out X1).mono fun e w' ⟨e1, e2⟩ => ⟨_, e1, ⟨hs1.grown e2, hsy.grown e2⟩, by rw [HMY.out]⟩) ?_
                  rintro u X2 hs2 rfl
                  refine ⟨_, fun _ h => h, hs2, ?_⟩; try simp only [pS]
                  refine gT (.bool false) ?_; try simp only [pS]
                  refine gT (.bool false) ?_; try simp only [pS]
                  refine gT (.bool false) ?_; try simp only [pS]
                  refine wpG_nil ?_
                  have HX := Lib.hid hs2.1
                  clear hs1 hsy hs2
                  go_wp2_with fail
                  go_meet
                  case rel => exact ⟨congrArg Value.bool (by rw [HBD.out]; rw [HQB.out, HEZ.out, HMP.out]; rfl), HX.out⟩
              · have HEZ := Lib.hid hez
                clear hez
                refine gS (.take 0 (.take 3 (.take 4 (.step 1 (.take 2 (.take 5 (.take 6 (.take 7 (.take 8 (.take 9 (.take 10 (.take 11 (.step 12 (.take 13 (.take 14 (.take 15 (.nil))))))))))))))))) (QtW l w K so co sp1 cap1 g5 g6 g7 p (b.drop 56)) HQF.out.drew ?_
                refine wpG_take _ (.agg (pcells p).toArray) rfl (by rfl) (fun X hX => ex_ld (ty := 28) (cs := pcells p) rfl rfl (rng_all hX.p) Tryz.underlying28 rfl (by rw [sizeP, HLP.out])) ?_; try simp only [pS]
                refine gT (.slice so 64 co) ?_; try simp only [pS]
                refine wpG_take _ (.string (bstr b)) rfl (by rfl) (fun X hX => ex_cvs rfl HB.out rfl (HBE.out ▸ hX.b.src)) ?_; try simp only [pS]
                refine wpG_call _ rfl (by rfl) 9 #[.agg (pcells p).toArray] (fun _ => by go_simp) (fun u w' => ∃ sp cap, u = .slice sp 64 cap ∧ SrcA w' sp (padB p)) ((qbytes_any p HPO.out wr.drew).mono fun e w' ⟨v, e1, e2, e3⟩ => ⟨_, e1, HQF.out.drew.grown e3, by
                  obtain ⟨sp, cap, e, _, _, q3, _⟩ := OwnB.form e2
                  rw [padB_length HPO.out] at e
                  exact ⟨sp, cap, e, q3⟩⟩) ?_
                rintro u X1 hs1 ⟨spy, capy, rfl, hsy⟩
                refine ⟨fun X => (QtW l w K so co sp1 cap1 g5 g6 g7 p (b.drop 56) X) ∧ SrcA X spy (padB p), fun _ h => h.1, ⟨hs1, hsy⟩, ?_⟩; try simp only [pS]
                refine wpG_take _ (.string (bstr (padB p))) rfl (by rfl) (fun X hX => ex_cvs rfl (padB_length HPO.out) rfl hX.2) ?_; try simp only [pS]
                refine wpG_take _ (.bool false) rfl (by rfl) (fun X hX => ex_neS rfl rfl rfl HNQ.out) ?_; try simp only [pS]
                refine gT (.bool false) ?_; try simp only [pS]
                refine wpG_take _ (.agg (pcells p).toArray) rfl (by rfl) (fun X hX => ex_ld (ty := 28) (cs := pcells p) rfl rfl (rng_all hX.1.p) Tryz.underlying28 rfl (by rw [sizeP, HLP.out])) ?_; try simp only [pS]
                refine wpG_take _ (.agg (pcells zeroP).toArray) rfl (by rfl) (fun X hX => ex_bld0 rfl) ?_; try simp only [pS]
                refine wpG_take _ (.bool false) rfl (by rfl) (fun X hX => ex_nePb (b := true) HEZ.out rfl rfl rfl HPO.out) ?_; try simp only [pS]
                refine gT (.bool false) ?_; try simp only [pS]
                refine wpG_pass _ rfl (by rfl) ?_; try simp only [pS]
                refine wpG_skip _ rfl (by rfl) ⟨hs1, hsy⟩ ?_; try simp only [pS]
                refine wpG_pass _ rfl (by rfl) ?_; try simp only [pS]
                refine gT (.bool false) ?_; try simp only [pS]
                refine gT (.bool false) ?_; try simp only [pS]
                refine wpG_nil ?_
                have HX := Lib.hid hs1
                clear hs1 hsy
                go_wp2_with fail
                go_meet
                case rel => exact ⟨congrArg Value.bool (by rw [HBD.out]; rw [HQB.out, HEZ.out]; rfl), HX.out⟩
          case rest =>
          obtain ⟨rfl, hX⟩ := hcut
          have HX := Lib.hid hX
          have HTB := Lib.hid (takeE_bad (l := l) H64.out)
          clear hX HQF
          cases hbp : badP l
          · have hte : takeE l 0 = 0 := by rw [HTB.out, hbp]; rfl
            have htk : takenP l 0 = p := by unfold takenP; rw [if_pos hte, HPL.out]
            have HTE := Lib.hid hte; have HTK := Lib.hid htk
            have HEND := Lib.hid (qtw_end HX.out.drew (pcells p) [.slice sp1 n cap1, .int .i64 0] (by rw [HLP.out]; exact (pcells_length zeroP_ok).symm) rfl)
            have HNX : Hid (Blk wc.drew g5 [.slice sp1 n cap1, .int .i64 0] 87) := Lib.hid (by have h := HX.out.drew.nx; rw [HN.out] at h; exact h)
            have HSP := Lib.hid (size_pc HPO.out)
            clear hbp hte htk
            go_upto_region 26 with fail
            refine gS (.take 0 (.take 1 (.step 2 (.step 3 (.nil))))) (fun X => Blk X g7 (pcells p) 28 ∧ Blk X g5 [.slice sp1 n cap1, .int .i64 0] 87) ⟨HX.out.drew.p, HNX.out⟩ ?_
            refine wpG_take _ (.agg (pcells p).toArray) rfl (by rfl) (fun X hX => ex_ld (ty := 28) (cs := pcells p) rfl rfl (rng_all hX.1) Tryz.underlying28 rfl (by rw [sizeP, HLP.out])) ?_; try simp only [pS]
            refine wpG_take _ (.agg #[.slice sp1 n cap1, .int .i64 0]) rfl (by rfl) (fun X hX => ex_ld (ty := 87) (cs := [.slice sp1 n cap1, .int .i64 0]) rfl rfl (rng_all hX.2) Tryz.underlying87 rfl sizeRef) ?_; try simp only [pS]
            refine wpG_srow _ rfl (by rfl) 28 (.tmp 2) (.tmp 116) rfl (w.heap.size + 1) (pcells p).toArray rfl rfl HX.out.drew.r2 HSP.out (by rw [List.size_toArray, HLP.out]; exact pcells_length zeroP_ok) (one_pc p) _ (fun _ h => h) ⟨HX.out.drew.p.rowOther (by have := HX.out.o5; have := HX.out.o6; have := HX.out.o7; omega) _, HNX.out.rowOther (by have := HX.out.o5; omega) _⟩ ?_; try simp only [pS]
            refine wpG_srow _ rfl (by rfl) 87 (.tmp 3) (.tmp 117) rfl (w.heap.size + 1 + 1) #[.slice sp1 n cap1, .int .i64 0] rfl rfl HEND.out.1 sizeRef rfl (one_ref _ _ _ _) _ (fun _ h => h) ⟨(HX.out.drew.p.rowOther (by have := HX.out.o5; have := HX.out.o6; have := HX.out.o7; omega) _).rowOther (by have := HX.out.o5; have := HX.out.o6; have := HX.out.o7; omega) _, (HNX.out.rowOther (by have := HX.out.o5; omega) _).rowOther (by have := HX.out.o5; omega) _⟩ ?_; try simp only [pS]
            refine wpG_nil ?_
            go_wp2_with fail
            refine bodyPost_ret (results_rows Tryz.results33 _ _ (w.heap.size + 1) (w.heap.size + 1 + 1) 28 87 (pcells p) [.slice sp1 n cap1, .int .i64 0] rfl rfl HEND.out.2.1 HEND.out.2.2.1 Tryz.underlying28 Tryz.underlying87 (by rw [sizeP, HLP.out]) sizeRef) rfl (HP.out _ _ ⟨sp1, cap1, l.drop 64, ?_, ?_, fun _ => rfl, fun _ h => absurd HTE.out h, HEND.out.2.2.2.1⟩)
            · rw [HTE.out, HTK.out, HN.out]; rfl
            · exact HEND.out.2.2.2.2.low (Below.refl _ _)
          · have hte : takeE l 0 = 5 := by rw [HTB.out, hbp]; rfl
            have htk : takenP l 0 = zeroP := by unfold takenP; rw [if_neg (by rw [hte]; omega)]
            have HTE := Lib.hid hte; have HTK := Lib.hid htk
            have HEND := Lib.hid (qtw_end HX.out (pcells zeroP) [.slice none 0 0, .int .i64 5] rfl rfl)
            have HR2 := Lib.hid HX.out.r2
            clear hbp hte htk
            go_wp2_with (first | (refine wpL_val rfl (ex_bld0 rfl) ?_) | (refine wpList_store_row rfl 28 (.tmp 2) (.tmp 114) rfl (w.heap.size + 1) (pcells zeroP).toArray rfl rfl 28 _ HR2.out (size_pc zeroP_ok) rfl (one_pc zeroP) ?_) | (refine wpList_store_row rfl 87 (.tmp 3) (.tmp 115) rfl (w.heap.size + 1 + 1) #[.slice none 0 0, .int .i64 5] rfl rfl 87 _ HEND.out.1 sizeRef rfl (one_ref _ _ _ _) ?_) | fail)
            refine bodyPost_ret (results_rows Tryz.results33 _ _ (w.heap.size + 1) (w.heap.size + 1 + 1) 28 87 (pcells zeroP) [.slice none 0 0, .int .i64 5] rfl rfl HEND.out.2.1 HEND.out.2.2.1 Tryz.underlying28 Tryz.underlying87 (size_pc zeroP_ok) sizeRef) rfl (HP.out _ _ ⟨none, 0, [], ?_, ⟨by simp, fun _ => rfl, fun h => absurd h (by simp)⟩, fun h => absurd (HTE.out.symm.trans h) (by omega), fun _ _ => rfl, HEND.out.2.2.2.1⟩)
            rw [HTE.out, HTK.out]; rfl
theorem refRes_bad {l : Bs} {e : Nat} (h : e ≠ 0 ∨ l.length < 64) : ∃ r1 e1, refRes l e 64 = ([], r1, e1) ∧ e1 ≠ 0 ∧ e1 = takeE l e ∧ takenP l e = zeroP ∧ (e = 0 → r1 = []) := by
  by_cases he : e = 0
  · have hs : l.length < 64 := by omega
    have ht : takeE l e = 4 := by unfold takeE; rw [if_neg (by omega), if_pos hs]
    refine ⟨[], 4, ?_, by omega, ht.symm, ?_, fun _ => rfl⟩
    · unfold refRes; rw [if_neg (by omega), if_pos (by omega)]
    · unfold takenP; rw [if_neg (by omega)]
  · have ht : takeE l e = e := by unfold takeE; rw [if_pos he]
    refine ⟨l, e, ?_, he, ht.symm, ?_, fun h => absurd h he⟩
    · unfold refRes; rw [if_pos he]
    · unfold takenP; rw [if_neg (by omega)]
set_option maxRecDepth 100000 in
set_option maxHeartbeats 4000000 in
theorem qtake_bad (l : Bs) (sp : Option Addr) (cap e : Nat) (w : World) {K : Nat → Prop} (hbad : e ≠ 0 ∨ l.length < 64) (hR : RefIs w K sp l cap) :
    Calls Tryz.prog 33 #[.agg #[.slice sp l.length cap, .int .i64 (e : Int)]] w (QtPost l e K w) := by
  obtain ⟨r1, e1, hres, he1, hte, htk, hr1⟩ := refRes_bad hbad
  have HP : Hid (∀ x w', (∃ sp' cap', x = .returned (.tuple #[.agg (pcells zeroP).toArray, .agg #[.slice sp' r1.length cap', .int .i64 (e1 : Int)]]) ∧ RefIs w' K sp' r1 cap' ∧ Below w.heap.size w w') → QtPost l e K w x w') := Lib.hid fun x w' ⟨sp', cap', h1, h2, h3⟩ => ⟨sp', cap', r1, by rw [htk, ← hte]; exact h1, h2, fun h => absurd (hte.trans h) he1, fun h _ => hr1 h, h3⟩
  generalize QtPost l e K w = Post at HP ⊢
  have HRES := Lib.hid hres
  have HE1 := Lib.hid he1
  obtain ⟨L, hL⟩ : ∃ L, l.length = L := ⟨_, rfl⟩
  have HL := Lib.hid hL
  obtain ⟨n, hn⟩ : ∃ n, r1.length = n := ⟨_, rfl⟩
  have HN := Lib.hid hn
  have HST : Hid (∀ W, W = ((w.alloc (.cells #[.slice sp L cap, .int .i64 (e : Int)] 87)).alloc (.cells (pcells zeroP).toArray 28)).alloc (.cells #[.slice none 0 0, .int .i64 0] 87) →
      Blk W w.heap.size [.slice sp L cap, .int .i64 (e : Int)] 87 ∧ Blk W (w.heap.size + 1) (pcells zeroP) 28 ∧ Blk W (w.heap.size + 1 + 1) [.slice none 0 0, .int .i64 0] 87 ∧ Below w.heap.size w W ∧ RefIs W (fun g => K g ∧ g < w.heap.size) sp l cap) := Lib.hid (fun W e2 => by
    have hb : Below w.heap.size w W := by rw [e2]; exact (((Below.refl _ _).alloc (Nat.le_refl _) _).alloc (by simp) _).alloc (by simp; omega) _
    refine ⟨?_, ?_, ?_, hb, hR.up.keep hb⟩
    · rw [e2]; exact ((Blk.new' w _ [.slice sp L cap, .int .i64 (e : Int)] _ _ rfl rfl).alloc _).alloc _
    · rw [e2]; exact (Blk.new' _ _ _ _ _ (by simp) rfl).alloc _
    · rw [e2]; exact Blk.new' _ _ [.slice none 0 0, .int .i64 0] _ _ (by simp) rfl)
  rw [hL]
  clear hR hL hn hres he1 hte htk hr1 hbad
  go_enter Tryz.func33, Tryz.ntmps33
  go_upto_region 1 with fail
  refine (fun (k : ∀ W, (Blk W w.heap.size [.slice sp L cap, .int .i64 (e : Int)] 87 ∧ Blk W (w.heap.size + 1) (pcells zeroP) 28 ∧ Blk W (w.heap.size + 1 + 1) [.slice none 0 0, .int .i64 0] 87 ∧ Below w.heap.size w W ∧ RefIs W (fun g => K g ∧ g < w.heap.size) sp l cap) → Code.wp _ _ _ _ W) => k _ (HST.out _ rfl)) ?_
  intro W0 h0
  have H0 := Lib.hid h0
  have hraw := refRaw_any l sp cap e 64 W0 h0.2.2.2.2
  have hH0 : Blk W0 w.heap.size [.slice sp L cap, .int .i64 (e : Int)] 87 := h0.1
  have HH0 := Lib.hid hH0
  rw [HL.out] at hraw
  have hraw2 : Calls Tryz.prog 63 #[.agg #[.slice sp L cap, .int .i64 (e : Int)], .int .i64 64] W0 fun x w' => ∃ so co sp1 cap1, x = .returned (.tuple #[.slice so 0 co, .agg #[.slice sp1 n cap1, .int .i64 (e1 : Int)]]) ∧ RefIs w' (fun g => K g ∧ g < w.heap.size) sp1 r1 cap1 ∧ Below W0.heap.size W0 w' := hraw.mono fun x w' hh => by
    unfold RawOf at hh
    rw [HRES.out] at hh
    obtain ⟨so, co, sp1, cap1, e, h1, h2, h3⟩ := hh
    refine ⟨so, co, sp1, cap1, ?_, h2, h3⟩
    rw [e, ← HN.out]
    rfl
  have HRAW := Lib.hid hraw2
  clear h0 hraw hraw2 hH0
  go_wp2_with (first | (refine wpList_load_row rfl 87 (.tmp 1) rfl w.heap.size rfl 87 _ _ _ HH0.out Tryz.underlying87 rfl sizeRef ?_) | fail)
  refine HRAW.out.mono ?_
  rintro x1 Z1 ⟨so, co, sp1, cap1, rfl, hn1, hbel1⟩
  have HRN := Lib.hid hn1
  have HB1 := Lib.hid (H0.out.2.2.2.1.trans (hbel1.mono H0.out.2.2.2.1.size))
  have HR2 := Lib.hid (H0.out.2.1.below hbel1 H0.out.2.1.lt)
  have HR3 := Lib.hid (H0.out.2.2.1.below hbel1 H0.out.2.2.1.lt)
  clear hn1 hbel1 H0 HH0 HRAW HST
  go_upto_region 2 with (first | (refine wpList_store_row rfl 87 (.tmp 5) (.tmp 22) rfl Z1.heap.size #[.slice sp1 n cap1, .int .i64 (e1 : Int)] rfl rfl 87 _ (heap_alloc_new Z1 _) sizeRef rfl (one_ref _ _ _ _) ?_) | fail)
  refine (fun (k : ∀ W, Blk W Z1.heap.size [.slice sp1 n cap1, .int .i64 (e1 : Int)] 87 → Below Z1.heap.size Z1 W → Code.wp _ _ _ _ W) => k _ (blk_row1 Z1 _ [.slice sp1 n cap1, .int .i64 (e1 : Int)] 87).1 (blk_row1 Z1 _ [.slice sp1 n cap1, .int .i64 (e1 : Int)] 87).2) ?_
  intro Z4 hx4 hb4
  have o5 := HR3.out.lt
  have HN4 := Lib.hid hx4
  have HR24 := Lib.hid (HR2.out.below hb4 HR2.out.lt); have HR34 := Lib.hid (HR3.out.below hb4 HR3.out.lt)
  have hw4 := hb4.mono HB1.out.size
  have HB4 := Lib.hid (HB1.out.trans hw4); have HRN4 := Lib.hid (HRN.out.keep hw4)
  have c5 := hx4.cell (j := 1) rfl
  obtain ⟨g5, hg5⟩ : ∃ g, Z1.heap.size = g := ⟨_, rfl⟩
  rw [hg5] at HN4 o5 c5 ⊢
  have O5 := Lib.hid o5
  have hne : ¬ (e1 : Int) = 0 := by have := HE1.out; omega
  clear hx4 hb4 hw4 hg5 o5 HB1 HRN HR2 HR3
  go_upto_region 3 with fail
  refine gS (.take 0 (.take 1 (.step 2 (.step 3 (.nil))))) (fun X => Blk X g5 [.slice sp1 n cap1, .int .i64 (e1 : Int)] 87) HN4.out.drew ?_
  refine wpG_take _ (.agg (pcells zeroP).toArray) rfl (by rfl) (fun X hX => ex_bld0 rfl) ?_; try simp only [pS]
  refine wpG_take _ (.agg #[.slice sp1 n cap1, .int .i64 (e1 : Int)]) rfl (by rfl) (fun X hX => ex_ld (ty := 87) (cs := [.slice sp1 n cap1, .int .i64 (e1 : Int)]) rfl rfl (rng_all hX) Tryz.underlying87 rfl sizeRef) ?_; try simp only [pS]
  refine wpG_srow _ rfl (by rfl) 28 (.tmp 2) (.tmp 26) rfl (w.heap.size + 1) (pcells zeroP).toArray rfl rfl HR24.out.drew (size_pc zeroP_ok) rfl (one_pc zeroP) _ (fun _ h => h) (HN4.out.drew.rowOther (by have := O5.out; omega) _) ?_; try simp only [pS]
  refine wpG_srow _ rfl (by rfl) 87 (.tmp 3) (.tmp 27) rfl (w.heap.size + 1 + 1) #[.slice sp1 n cap1, .int .i64 (e1 : Int)] rfl rfl (HR34.out.drew.rowOther (by omega) _) sizeRef rfl (one_ref _ _ _ _) _ (fun _ h => h) ((HN4.out.drew.rowOther (by have := O5.out; omega) _).rowOther (by have := O5.out; omega) _) ?_; try simp only [pS]
  refine wpG_nil ?_
  have hbz : Below w.heap.size Z4 ((Z4.drew.setRow (w.heap.size + 1) (pcells zeroP).toArray).setRow (w.heap.size + 1 + 1) #[.slice sp1 n cap1, .int .i64 (e1 : Int)]) := below_row (below_row (Below.refl _ _).drew (by omega) _) (by omega) _
  have HBZ := Lib.hid hbz
  have H1 : Hid (Blk ((Z4.drew.setRow (w.heap.size + 1) (pcells zeroP).toArray).setRow (w.heap.size + 1 + 1) #[.slice sp1 n cap1, .int .i64 (e1 : Int)]) (w.heap.size + 1) (pcells zeroP) 28) := Lib.hid ((HR24.out.drew.row (pcells zeroP)).rowOther (by omega) _)
  have H2 : Hid (Blk ((Z4.drew.setRow (w.heap.size + 1) (pcells zeroP).toArray).setRow (w.heap.size + 1 + 1) #[.slice sp1 n cap1, .int .i64 (e1 : Int)]) (w.heap.size + 1 + 1) [.slice sp1 n cap1, .int .i64 (e1 : Int)] 87) := Lib.hid ((HR34.out.drew.rowOther (by omega) _).row [.slice sp1 n cap1, .int .i64 (e1 : Int)])
  clear hbz
  go_wp2_with fail
  refine bodyPost_ret (results_rows Tryz.results33 _ _ (w.heap.size + 1) (w.heap.size + 1 + 1) 28 87 (pcells zeroP) [.slice sp1 n cap1, .int .i64 (e1 : Int)] rfl rfl H1.out H2.out Tryz.underlying28 Tryz.underlying87 (size_pc zeroP_ok) sizeRef) rfl (HP.out _ _ ⟨sp1, cap1, ?_, (HRN4.out.keep HBZ.out).low (Below.refl _ _), HB4.out.trans HBZ.out⟩)
  rw [HN.out]
theorem qtake_any (l : Bs) (sp : Option Addr) (cap e : Nat) (w : World) {K : Nat → Prop} (hl : l.length ≤ 100000) (hR : RefIs w K sp l cap) :
    Calls Tryz.prog 33 #[.agg #[.slice sp l.length cap, .int .i64 (e : Int)]] w (QtPost l e K w) := by
  by_cases h : e = 0 ∧ 64 ≤ l.length
  · obtain ⟨rfl, h⟩ := h
    exact qtake_ok l sp cap w hl h hR
  · exact qtake_bad l sp cap e w (by omega) hR
end Go.Proofs.YtjgjohdeeeoeoaaGreatDoor
