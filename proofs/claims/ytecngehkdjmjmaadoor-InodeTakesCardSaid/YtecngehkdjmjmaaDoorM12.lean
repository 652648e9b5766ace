/- Inodes: the block less what may not be; an inode's bytes; the block of four. -/
import Derived.Test.YtecngehkdjmjmaaDoorM11
import Derived.Test.YtecngehkdjmjmaaDoorM06
namespace Go.Proofs.YtecngehkdjmjmaaDoor
open Go.RowKit

/-- Behind so many rounds. -/
def mixI (k : Nat) (ns : List Ino) : List Ino := allow (ns.take k) ++ ns.drop k
theorem mixI_zero (ns : List Ino) : mixI 0 ns = ns := by simp [mixI, allow]
theorem mixI_ok {ns : List Ino} (h : BOK ns) (k : Nat) : BOK (mixI k ns) := ⟨by simp [mixI, allow, h.len]; omega, fun p hp => by
  simp only [mixI, List.mem_append, allow, List.mem_map] at hp
  rcases hp with ⟨q, hq, rfl⟩ | hp
  · exact allowI_ok (h.ok q (List.mem_of_mem_take hq))
  · exact h.ok p (List.mem_of_mem_drop hp)⟩
theorem mixI_at {ns : List Ino} {k : Nat} {n : Ino} (hk : ns[k]? = some n) : (mixI k ns)[k]? = some n ∧ mixI (k + 1) ns = (mixI k ns).set k (allowI n) := by
  obtain ⟨hl, hn⟩ := List.getElem?_eq_some_iff.1 hk
  have e1 : mixI k ns = allow (ns.take k) ++ n :: ns.drop (k + 1) := by unfold mixI; rw [← hn, ← List.drop_eq_getElem_cons hl]
  have e2 : mixI (k + 1) ns = allow (ns.take k) ++ allowI n :: ns.drop (k + 1) := by unfold mixI; rw [itake_snoc hk]; simp [allow]
  have e3 : (allow (ns.take k)).length = k := by simp [allow]; omega
  rw [e1, e2]
  constructor
  · rw [List.getElem?_append_right (by omega), e3]; simp
  · rw [List.set_append_right _ _ (by omega), e3]; simp
theorem mixI_same {ns : List Ino} {k : Nat} {n : Ino} (hk : ns[k]? = some n) (h : mayI n = true) : mixI (k + 1) ns = mixI k ns := by
  obtain ⟨h1, h2⟩ := mixI_at hk
  rw [h2]
  unfold allowI
  rw [if_pos h]
  obtain ⟨hl, hn⟩ := List.getElem?_eq_some_iff.1 h1
  apply List.ext_getElem?
  intro j
  by_cases e : k = j
  · subst e; rw [List.getElem?_set_self hl, h1]
  · rw [List.getElem?_set_ne e]
theorem mixI_zeroed {ns : List Ino} {k : Nat} {n : Ino} (hk : ns[k]? = some n) (h : mayI n = false) : mixI (k + 1) ns = (mixI k ns).set k zeroI := by
  rw [(mixI_at hk).2]
  unfold allowI
  rw [h]
  rfl
theorem mixI_four {ns : List Ino} (h : BOK ns) : mixI 4 ns = allow ns := by
  unfold mixI
  rw [List.take_of_length_le (by rw [h.len]; omega), List.drop_of_length_le (by rw [h.len]; omega), List.append_nil]
theorem ex_bldIz {ρ : Operand → Value} {o : Oper} {w : World} {q : Ino} (hq : zeroI = q) (ho : o.op = .build 32 #[]) : (execOp ρ o).run Tryd.prog w = .ok (.value (.agg (icells q).toArray)) w := by subst hq; exact ex_bldI0 ho
structure AlW (ns : List Ino) (w W : World) : Prop where
  a : Blk W w.heap.size (bcells ns) 34
  r : Blk W (w.heap.size + 1) (bcells zeros4) 34
  b : Below w.heap.size w W
theorem AlW.grown {ns : List Ino} {w W W' : World} (h : AlW ns w W) (hb : Below W.heap.size W W') : AlW ns w W' := ⟨h.a.below hb h.a.lt, h.r.below hb h.r.lt, h.b.trans (hb.mono h.b.size)⟩
theorem AlW.put {ns : List Ino} {w W : World} (h : AlW ns w W) (hn : BOK ns) {k : Nat} (hk : k < 4) {q : Ino} (hq : q.OK) : AlW (ns.set k q) w (W.setCells w.heap.size (k * 44) (icells q)) :=
  ⟨blk_setI hn h.a hk (Nat.mul_comm k 44) hq, blk_setCells_other (by omega) _ _ _ _ h.r, below_setsI _ _ _ h.b (Nat.le_refl _)⟩
set_option maxRecDepth 100000 in
set_option maxHeartbeats 8000000 in
theorem allowed_any (ns : List Ino) (h : BOK ns) (w : World) (hT : RTab w) : Calls Tryd.prog 19 #[.agg (bcells ns).toArray] w fun e w' => e = .returned (.agg (bcells (allow ns)).toArray) ∧ Below w.heap.size w w' := by
  have HP := Lib.hid h; have HT := Lib.hid hT
  have HX : Hid (∀ z, z = (bcells zeros4).toArray → AlW ns w ((w.alloc (.cells (bcells ns).toArray 34)).alloc (.cells z 34))) := Lib.hid (fun z hz => by
    subst hz
    exact ⟨(Blk.new _ _ _).alloc _, Blk.new' _ _ _ _ _ (by simp) rfl, ((Below.refl _ _).alloc (Nat.le_refl _) _).alloc (by simp) _⟩)
  have HZO := Lib.hid zeros4_ok
  clear h hT
  go_enter Tryd.func19, Tryd.ntmps19
  go_upto_region 1 with fail
  refine (fun (k : ∀ W, AlW ns w W → Code.wp _ _ _ _ W) => k _ (HX.out _ rfl)) ?_
  intro W hW
  have HW := Lib.hid hW
  clear hW HX
  go_wp2_with (first | (refine wpL_val rfl (ex_ldBn HP.out HW.out.a rfl rfl) ?_) | fail)
  go_loopw [6] (fun i wr => ∃ k : Nat, k ≤ 4 ∧ i = .int .i64 (k : Int) ∧ AlW (mixI k ns) w wr) (fun i _ => 4 - (intOf i).toNat)
  case atStart => exact ⟨0, by omega, rfl, by rw [mixI_zero]; exact HW.out⟩
  case round =>
    clear HW
    obtain ⟨k, hk, rfl, hW⟩ := hrel
    have HW := Lib.hid hW
    have wk1 := IntWalk.i64_in ((k : Int) + 1) (by omega)
    clear hW
    by_cases hlt : k < 4
    · obtain ⟨n, hn⟩ := HP.out.get hlt
      have hix : ∀ W : World, (Instr.index 34 (.agg (bcells ns).toArray) (.int .i64 (k : Int))).run Tryd.prog W = .ok (.agg (icells n).toArray) W := fun W => run_ixI Tryd.underlying34 HP.out hn W
      have HNO := Lib.hid (HP.out.at hn)
      have HST := Lib.hid (size_icI HNO.out)
      have HLP : Hid ((icells n).toArray.size = 44) := Lib.hid (by rw [List.size_toArray, icells_length HNO.out])
      have HAT := Lib.hid hn
      clear hn
      go_upto_region 4 with (first | (refine wpList_store_row rfl 32 (.tmp 4) (.tmp 9) rfl wr.heap.size (icells n).toArray rfl rfl 32 _ (heap_alloc_new wr _) HST.out (by rw [HLP.out]; rfl) (one_ic n) ?_) | fail)
      refine (fun (k : ∀ W, Blk W wr.heap.size (icells n) 32 → Below wr.heap.size wr W → Code.wp _ _ _ _ W) => k _ (blk_row1 wr _ (icells n) 32).1 (blk_row1 wr _ (icells n) 32).2) ?_
      intro W5 hx5 hb5
      obtain ⟨g4, hg4⟩ : ∃ g, wr.heap.size = g := ⟨_, rfl⟩
      have HW5 := Lib.hid (HW.out.grown hb5)
      rw [hg4] at hx5 ⊢
      have HX5 := Lib.hid hx5
      clear hx5 hb5 hg4 HW
      go_wp2_with (first | (refine wpL_valG (by rfl) (ex_ldIn HNO.out HX5.out rfl rfl) ?_) | fail)
      refine (imay_any n HNO.out W5 (HT.out.grown HW5.out.b)).mono ?_
      rintro e w6 ⟨rfl, hb6⟩
      have HW6 := Lib.hid (HW5.out.grown hb6)
      clear hb6 HX5 HW5
      cases hm : mayI n
      · obtain ⟨q, hq⟩ : ∃ q, zeroI = q := ⟨_, rfl⟩
        have hqo : q.OK := by rw [← hq]; exact zeroI_ok
        have HQ0 := Lib.hid hq
        have HN7 := Lib.hid (HW6.out.put (mixI_ok HP.out k) hlt hqo)
        rw [← hq, ← mixI_zeroed HAT.out hm, hq] at HN7
        have HTH : Hid (w6.there w.heap.size (k * 44) (icells q).toArray.size) := Lib.hid (HW6.out.a.there _ _ (by rw [List.size_toArray, icells_length hqo, (mixI_ok HP.out k).cells]; omega))
        have HSZ := Lib.hid (size_icI hqo)
        clear hq hqo
        have HLT := Lib.hid hlt
        clear hm
        go_wp2_with (first | (refine wpL_valG (by rfl) (ex_bldIz HQ0.out rfl) ?_) | (refine wpL_valG (by rfl) (ex_iaB HLT.out rfl rfl rfl) ?_) | (refine wpList_store_mid rfl 32 (.tmp 15) (.tmp 14) rfl w.heap.size (k * 44) (icells q).toArray rfl rfl HTH.out HSZ.out (one_ic q) ?_) | fail)
        go_roundw
        case rel => exact ⟨k + 1, by omega, by go_num, HN7.out⟩
        case measure => simp [intOf]; omega
      · have HN7 : Hid (AlW (mixI (k + 1) ns) w w6) := Lib.hid (by rw [mixI_same HAT.out hm]; exact HW6.out)
        clear hm
        go_wp2_with fail
        go_roundw
        case rel => exact ⟨k + 1, by omega, by go_num, HN7.out⟩
        case measure => simp [intOf]; omega
    · obtain rfl : k = 4 := by omega
      rw [mixI_four HP.out] at HW
      have HAO := Lib.hid (allow_ok HP.out)
      have HST := Lib.hid (size_bcB HAO.out)
      have HSZ : Hid ((bcells zeros4).toArray.size = (bcells (allow ns)).toArray.size) := Lib.hid (by rw [zeros4_ok.size, HAO.out.size])
      have HON := Lib.hid (bcells_one (allow ns))
      rw [show ((4 : Nat) : Int) = (4 : Int) from rfl]
      clear hlt hk
      go_wp2_with (first | (refine wpL_val rfl (ex_ldBn HAO.out HW.out.a rfl rfl) ?_) | (refine wpList_store_row rfl 34 (.tmp 2) (.tmp 17) rfl (w.heap.size + 1) (bcells (allow ns)).toArray rfl rfl 34 _ HW.out.r HST.out HSZ.out HON.out ?_) | fail)
      exact bodyPost_ret (results_cell_row Tryd.results19 _ _ (w.heap.size + 1) 34 _ _ _ rfl (HW.out.r.row _) Tryd.underlying34 rfl HST.out) rfl ⟨rfl, below_row HW.out.b (by omega) _⟩

end Go.Proofs.YtecngehkdjmjmaaDoor
/- Inodes: an inode's bytes. -/
namespace Go.Proofs.YtecngehkdjmjmaaDoor
open Go.RowKit

/-- Bytes of one's own behind bytes of one's own. -/
theorem own_app2 {w : World} {B B' : Nat} {v u : Value} {l m : Bs} (h : OwnB w B v l) (hu : OwnB w B' u m) (hB : B ≤ w.heap.size) (hl : l.length + m.length ≤ 1000000) (ty : TypeId) :
    ∃ v' w', (Builtin.append_ #[38, 38] ty #[v, u]).run Tryd.prog w = .ok v' w' ∧ OwnB w' B v' (l ++ m) ∧ Below B w w' := by
  obtain ⟨sp4, cap4, e4, q1, q2, q3, q4, q5⟩ := OwnB.form hu
  subst e4
  exact ownB_src (m := m) h hB hl q3 q4 ty
structure PuW (n : Ino) (w W : World) : Prop where
  a : Blk W w.heap.size (icells n) 32
  b : Below w.heap.size w W
theorem PuW.grown {n : Ino} {w W W' : World} (h : PuW n w W) (hb : Below W.heap.size W W') : PuW n w W' := ⟨h.a.below hb h.a.lt, h.b.trans (hb.mono h.b.size)⟩
theorem pu_start {n : Ino} (h : n.OK) (w : World) : PuW n w ((w.alloc (.cells (icells n).toArray 32)).alloc (.cells #[.int .u8 (n.kind : Int), .int .u8 0] 5)) ∧ SrcA ((w.alloc (.cells (icells n).toArray 32)).alloc (.cells #[.int .u8 (n.kind : Int), .int .u8 0] 5)) (some ⟨w.heap.size + 1, 0, none⟩) (leb n.kind 1 ++ [0#8]) := by
  have hb : Blk ((w.alloc (.cells (icells n).toArray 32)).alloc (.cells #[.int .u8 (n.kind : Int), .int .u8 0] 5)) (w.heap.size + 1) ((leb n.kind 1 ++ [0#8]).map V8) 5 := Blk.new' _ _ _ _ _ (by simp) (by rw [u8_cell h.kind]; rfl)
  exact ⟨⟨(Blk.new _ _ _).alloc _, ((Below.refl _ _).alloc (Nat.le_refl _) _).alloc (by simp) _⟩, fun _ => ⟨w.heap.size + 1, 0, rfl, hb.lt, fun j hj => hb.cell (by rw [Nat.zero_add, List.getElem?_map, List.getD_eq_getElem?_getD, List.getElem?_eq_getElem hj]; rfl)⟩⟩
theorem fill72 {l : Bs} (h : l.length = 72) (n : Int) (hn : n = 128) : fillOf l n = l ++ List.replicate 56 0#8 := by subst hn; unfold fillOf; rw [h]; rfl
set_option maxRecDepth 100000 in
set_option maxHeartbeats 8000000 in
theorem put1_any (n : Ino) (h : n.OK) (w : World) : Calls Tryd.prog 20 #[.agg (icells n).toArray] w fun e w' => ∃ v, e = .returned v ∧ OwnB w' w.heap.size v (inoB n) ∧ Below w.heap.size w w' := by
  have HN := Lib.hid h
  have HX0 := Lib.hid (Blk.new w (icells n) 32)
  have hs := pu_start h w
  have HX := Lib.hid hs.1; have HS := Lib.hid hs.2
  have c0 := HX0.out.cell (j := 0) rfl
  generalize hPost : (fun e w' => ∃ v, e = Ending.returned v ∧ OwnB w' w.heap.size v (inoB n) ∧ Below w.heap.size w w') = Post
  have HP : Hid (∀ v w', OwnB w' w.heap.size v (inoB n) → Below w.heap.size w w' → Post (.returned v) w') := Lib.hid fun v w' h1 h2 => by rw [← hPost]; exact ⟨v, rfl, h1, h2⟩
  clear h hs hPost
  go_enter Tryd.func20, Tryd.ntmps20
  go_upto_region 1 with fail
  have c1 : ((w.alloc (.cells (icells n).toArray 32)).alloc (.cells #[.int .u8 (n.kind : Int), .int .u8 0] 5)).cell? ⟨w.heap.size, 1, none⟩ = some (.int .u16 (n.links : Int)) := HX.out.a.cell rfl
  go_wp2_with fail
  obtain ⟨W1, hW1⟩ : ∃ W, (w.alloc (.cells (icells n).toArray 32)).alloc (.cells #[.int .u8 (n.kind : Int), .int .u8 0] 5) = W := ⟨_, rfl⟩
  rw [hW1] at HX HS c1 ⊢
  have HU := Lib.hid (pu16_any (leb n.kind 1 ++ [0#8]) (some ⟨w.heap.size + 1, 0, none⟩) 2 n.links W1 (by simp [leb_length]) HN.out.links HS.out)
  clear hW1 c0 HX0
  refine HU.out.mono ?_
  rintro e W2 ⟨rfl, ho2, hb2⟩
  obtain ⟨l2, hl2⟩ : ∃ l, leb n.kind 1 ++ [0#8] ++ leb n.links 2 = l := ⟨_, rfl⟩
  have HL2 := Lib.hid hl2
  have hn2 : l2.length = 4 := by rw [← hl2]; simp [leb_length]
  rw [hl2] at ho2
  have HO2 := Lib.hid (OwnB.form ho2)
  have HX2 := Lib.hid (HX.out.grown hb2)
  obtain ⟨sp2, cap2, e2, q1, q2, q3, q4, q5⟩ := HO2.out
  have e3 : (leb n.kind 1 ++ [0#8]).length + 2 = 4 := by simp [leb_length]
  rw [e3] at e2 ho2 ⊢
  rw [hn2] at e2
  injection e2 with e5 e6 e7
  subst e5 e7
  have HS2 := Lib.hid q3; have HN2 := Lib.hid hn2
  obtain ⟨g2, hg2⟩ : ∃ g, W1.heap.size = g := ⟨_, rfl⟩
  rw [hg2] at HS2 ⊢
  clear hl2 hn2 ho2 hb2 HO2 q1 q2 q3 q4 q5 e3 e6 hg2 c1 HX HS HU
  go_upto_region 2 with fail
  have hs0 : Blk W2.drew w.heap.size (icells n) 32 := HX2.out.a.drew
  have hu32 := pu32_any l2 (some ⟨g2, 0, none⟩) 4 n.size W2.drew (by rw [HN2.out]; omega) HN.out.size (HS2.out.below (Below.refl _ _).drew (Nat.le_refl _))
  rw [HN2.out] at hu32
  refine wp_region_sched (.take 0 (.take 1 (.take 2 (.take 4 (.take 5 (.step 3 (.step 6 (.take 7 (.nil))))))))) (by kernel_rfl) (by kernel_rfl) (fun d _ _ _ _ h => by cases d <;> exact h) (fun X => Blk X w.heap.size (icells n) 32) (hs0) ?_
  refine wpG_take _ (.slice (some ⟨g2, 0, none⟩) 4 4) rfl (by rfl) (fun X hX => by first | rfl | go_simp) ?_
  (try simp only [Act.put, List.setIfInBounds_toArray, List.set_cons_zero, List.set_cons_succ])
  refine wpG_take _ (.pointer (some ⟨w.heap.size, 2, none⟩)) rfl (by rfl) (fun X hX => by first | rfl | go_simp) ?_
  (try simp only [Act.put, List.setIfInBounds_toArray, List.set_cons_zero, List.set_cons_succ])
  refine wpG_take _ (.int .u32 (n.size : Int)) rfl (by rfl) (fun X hX => ex_ld1 Tryd.underlying23 rfl rfl (hX.cell (j := 2) rfl)) ?_
  (try simp only [Act.put, List.setIfInBounds_toArray, List.set_cons_zero, List.set_cons_succ])
  refine wpG_take _ (.pointer (some ⟨w.heap.size, 3, none⟩)) rfl (by rfl) (fun X hX => by first | rfl | go_simp) ?_
  (try simp only [Act.put, List.setIfInBounds_toArray, List.set_cons_zero, List.set_cons_succ])
  refine wpG_take _ (.agg (pcells n.root).toArray) rfl (by rfl) (fun X hX => ex_ldRtI HN.out hX rfl rfl) ?_
  (try simp only [Act.put, List.setIfInBounds_toArray, List.set_cons_zero, List.set_cons_succ])
  refine wpG_call _ rfl (by rfl) 29 #[.slice (some ⟨g2, 0, none⟩) 4 4, .int .u32 (n.size : Int)] (fun X => by go_simp) (fun u X => u = .slice (some ⟨W2.drew.heap.size, 0, none⟩) 8 8 ∧ SrcA X (some ⟨W2.drew.heap.size, 0, none⟩) (l2 ++ leb n.size 4) ∧ Below W2.drew.heap.size W2.drew X) (hu32.mono fun e X ⟨e1, e2, e3⟩ => ⟨_, e1, hs0.below e3 hs0.lt, rfl, by
    obtain ⟨sp, cp, e4, f1, f2, f3, f4, f5⟩ := OwnB.form e2
    injection e4 with e5 e6 e7
    rw [e5]; exact f3, e3⟩) ?_
  rintro u W3 hs3 ⟨rfl, ho3, hb3⟩
  refine ⟨fun X => Blk X w.heap.size (icells n) 32, fun _ h => h, hs3, ?_⟩
  (try simp only [Act.put, List.setIfInBounds_toArray, List.set_cons_zero, List.set_cons_succ])
  have hpp := ptrPut_any n.root HN.out.root (l2 ++ leb n.size 4) (some ⟨W2.drew.heap.size, 0, none⟩) 8 W3 (by rw [List.length_append, HN2.out, leb_length]; omega) ho3 (fun h => by cases h)
  rw [show (l2 ++ leb n.size 4).length = 8 by rw [List.length_append, HN2.out, leb_length]] at hpp
  obtain ⟨l4, hl4⟩ : ∃ l, l2 ++ leb n.size 4 ++ padB n.root = l := ⟨_, rfl⟩
  rw [hl4] at hpp
  refine wpG_call _ rfl (by rfl) 28 #[.slice (some ⟨W2.drew.heap.size, 0, none⟩) 8 8, .agg (pcells n.root).toArray] (fun X => by go_simp) (fun u X => OwnB X W3.heap.size u l4 ∧ Below W3.heap.size W3 X) (hpp.mono fun e X ⟨v, e1, e2, e3⟩ => ⟨v, e1, hs3.below e3 hs3.lt, e2, e3⟩) ?_
  rintro v4 W4 hs4 ⟨ho4, hb4⟩
  refine ⟨fun X => Blk X w.heap.size (icells n) 32, fun _ h => h, hs4, ?_⟩
  (try simp only [Act.put, List.setIfInBounds_toArray, List.set_cons_zero, List.set_cons_succ])
  refine wpG_take _ (v4) rfl (by rfl) (fun X hX => by first | rfl | go_simp) ?_
  (try simp only [Act.put, List.setIfInBounds_toArray, List.set_cons_zero, List.set_cons_succ])
  refine wpG_nil ?_
  have hx4 : PuW n w W4 := ((HX2.out.grown (Below.refl _ _).drew).grown hb3).grown hb4
  have HL4 := Lib.hid hl4
  clear hs0 hu32 hs3 ho3 hb3 hpp hl4 hs4 hb4
  have HX4 := Lib.hid hx4
  have HLN4 : Hid (l4.length = 72) := Lib.hid (by rw [← HL4.out, List.length_append, List.length_append, padB_length HN.out.root, HN2.out, leb_length])
  have HO4 := Lib.hid (OwnB.form ho4)
  obtain ⟨sp4, cap4, e4, q1, q2, q3, q4, q5⟩ := HO4.out
  rw [HLN4.out] at e4
  subst e4
  have HS4 := Lib.hid q3
  have HF := Lib.hid (fill_any l4 sp4 cap4 128 W4 (by rw [HLN4.out]; omega) (by omega) q3)
  rw [HLN4.out, fill72 HLN4.out 128 rfl] at HF
  have e128 : IntKind.i64.wrap ((72 : Int) + 56) = 128 := by decide
  clear hx4 ho4 HO4 q1 q2 q3 q4 q5 HS2 HX2
  go_wp2_with fail
  refine HF.out.mono ?_
  rintro e W5 ⟨v5, rfl, ho5, hb5⟩
  have HE := Lib.hid (HP.out v5 W5 (by
    rw [show inoB n = l4 ++ List.replicate 56 0#8 by rw [← HL4.out, ← HL2.out]; simp [inoB]]
    exact ho5.mono HX4.out.b.size) (HX4.out.b.trans (hb5.mono HX4.out.b.size)))
  clear ho5 hb5
  go_wp2_with fail
  first | exact HE.out | (go_ret; exact HE.out)
end Go.Proofs.YtecngehkdjmjmaaDoor
/- Inodes: the block of four. -/
namespace Go.Proofs.YtecngehkdjmjmaaDoor
open Go.RowKit


def IPutPost (ns : List Ino) (w : World) (x : Ending) (w' : World) : Prop :=
  ((allMay ns = true ∧ ∃ v, x = .returned (.tuple #[v, .int .i64 0]) ∧ OwnB w' w.heap.size v (blkB ns)) ∨ (allMay ns = false ∧ x = .returned (.tuple #[.slice none 0 0, .int .i64 5]))) ∧ Below w.heap.size w w'
def IPutRel (ns : List Ino) (w : World) (v i : Value) (wr : World) : Prop := ∃ k : Nat, k ≤ 4 ∧ i = .int .i64 (k : Int) ∧ OwnB wr w.heap.size v (blkB (ns.take k)) ∧ Below w.heap.size w wr
theorem iownB_none (w : World) (B : Nat) : OwnB w B (.slice none 0 0) [] := ⟨by simp, .inl ⟨rfl, rfl⟩⟩
set_option maxRecDepth 100000 in
set_option maxHeartbeats 8000000 in
theorem iput_any (ns : List Ino) (h : BOK ns) (w : World) (hT : RTab w) : Calls Tryd.prog 10 #[.agg (bcells ns).toArray] w (IPutPost ns w) := by
  have HP := Lib.hid h; have HT := Lib.hid hT
  have HB := Lib.hid (Blk.new w (bcells ns) 34)
  have HW : Hid (Below w.heap.size w (w.alloc (.cells (bcells ns).toArray 34))) := Lib.hid ((Below.refl _ _).alloc (Nat.le_refl _) _)
  generalize hPost : IPutPost ns w = Post
  have HQ : Hid (∀ x w', IPutPost ns w x w' → Post x w') := Lib.hid fun x w' h => by rw [← hPost]; exact h
  clear h hT hPost
  go_enter Tryd.func10, Tryd.ntmps10
  go_upto_region 1 with fail
  obtain ⟨G, hG⟩ : ∃ G, w.heap.size = G := ⟨_, rfl⟩
  have HG := Lib.hid hG
  rw [hG] at HB ⊢
  generalize (w.alloc (.cells (bcells ns).toArray 34)) = W at HB HW ⊢
  clear hG
  have hs0 : Blk W.drew G (bcells ns) 34 := HB.out.drew
  have hal := allowed_any ns HP.out W.drew ((HT.out.grown HW.out).grown (Below.refl _ _).drew)
  obtain ⟨eb, heb⟩ : ∃ b, decide (ns = allow ns) = b := ⟨_, rfl⟩
  have HEB := Lib.hid heb
  have HAO := Lib.hid (allow_ok HP.out)
  clear heb
  refine wp_region_sched (.take 0 (.take 1 (.step 2 (.take 3 (.nil))))) (by kernel_rfl) (by kernel_rfl) (fun d _ _ _ _ h => by cases d <;> exact h) (fun X => Blk X G (bcells ns) 34) (hs0) ?_
  refine wpG_take _ (.agg (bcells ns).toArray) rfl (by rfl) (fun X hX => ex_ldBn HP.out hX rfl rfl) ?_
  (try simp only [Act.put, List.setIfInBounds_toArray, List.set_cons_zero, List.set_cons_succ])
  refine wpG_take _ (.agg (bcells ns).toArray) rfl (by rfl) (fun X hX => ex_ldBn HP.out hX rfl rfl) ?_
  (try simp only [Act.put, List.setIfInBounds_toArray, List.set_cons_zero, List.set_cons_succ])
  refine wpG_call _ rfl (by rfl) 19 #[.agg (bcells ns).toArray] (fun X => by go_simp) (fun u X => u = .agg (bcells (allow ns)).toArray ∧ Below W.drew.heap.size W.drew X) (hal.mono fun e X ⟨e1, e2⟩ => ⟨_, e1, hs0.below e2 hs0.lt, rfl, e2⟩) ?_
  rintro u W2 hs2 ⟨rfl, hb2⟩
  refine ⟨fun X => Blk X G (bcells ns) 34, fun _ h => h, hs2, ?_⟩
  (try simp only [Act.put, List.setIfInBounds_toArray, List.set_cons_zero, List.set_cons_succ])
  refine wpG_take _ (.bool (!eb)) rfl (by rfl) (fun X hX => (ex_neBn HP.out HAO.out rfl rfl rfl).trans (by rw [HEB.out])) ?_
  (try simp only [Act.put, List.setIfInBounds_toArray, List.set_cons_zero, List.set_cons_succ])
  refine wpG_nil ?_
  have HW2 : Hid (Below w.heap.size w W2) := Lib.hid (HW.out.trans (((Below.refl _ _).drew.trans hb2).mono HW.out.size))
  have HB2 := Lib.hid hs2
  clear hs0 hal hs2 hb2 HB HW
  cases eb
  · have hm : allMay ns = false := by
      have h1 := of_decide_eq_false HEB.out
      rw [allow_eq] at h1
      simpa using h1
    have HE := Lib.hid (HQ.out _ _ ⟨.inr ⟨hm, rfl⟩, HW2.out⟩)
    clear hm
    go_wp2_with fail
    exact HE.out
  · have hm : allMay ns = true := (allow_eq ns).1 (of_decide_eq_true HEB.out)
    have HM := Lib.hid hm
    clear hm
    go_wp2_with (first | (refine wpL_val rfl (ex_ldBn HP.out HB2.out rfl rfl) ?_) | fail)
    have HR : Hid (IPutRel ns w (.slice none 0 0) (.int .i64 0) W2) := Lib.hid ⟨0, by omega, rfl, iownB_none _ _, HW2.out⟩
    clear HB2 HW2
    go_loopw [4, 12] (fun v i wr => IPutRel ns w v i wr) (fun _ i _ => 4 - (intOf i).toNat)
    case atStart => exact HR.out
    case round =>
      clear HR
      obtain ⟨k, hk, rfl, hO, hB⟩ := hrel
      obtain ⟨sp4, cap4, e, -⟩ := OwnB.form hO
      rw [len_blkB HP.out hk] at e
      subst e
      have HB := Lib.hid hB
      have HO := Lib.hid hO
      clear hB hO
      have wk1 := IntWalk.i64_in ((k : Int) + 1) (by omega)
      by_cases hlt : k < 4
      · obtain ⟨n, hn⟩ := HP.out.get hlt
        have hix : ∀ W : World, (Instr.index 34 (.agg (bcells ns).toArray) (.int .i64 (k : Int))).run Tryd.prog W = .ok (.agg (icells n).toArray) W := fun W => run_ixI Tryd.underlying34 HP.out hn W
        have HNO := Lib.hid (HP.out.at hn)
        have HST := Lib.hid (size_icI HNO.out)
        have HLP : Hid ((icells n).toArray.size = 44) := Lib.hid (by rw [List.size_toArray, icells_length HNO.out])
        have HAT := Lib.hid hn
        clear hn
        go_upto_region 7 with (first | (refine wpList_store_row rfl 32 (.tmp 6) (.tmp 14) rfl wr.heap.size (icells n).toArray rfl rfl 32 _ (heap_alloc_new wr _) HST.out (by rw [HLP.out]; rfl) (one_ic n) ?_) | fail)
        refine (fun (k : ∀ W, Blk W wr.heap.size (icells n) 32 → Below wr.heap.size wr W → Code.wp _ _ _ _ W) => k _ (blk_row1 wr _ (icells n) 32).1 (blk_row1 wr _ (icells n) 32).2) ?_
        intro W5 hx5 hb5
        have HX5 := Lib.hid hx5
        have HB5 := Lib.hid hb5
        clear hx5 hb5
        go_wp2_with (first | (refine wpL_valG (by rfl) (ex_ldIn HNO.out HX5.out rfl rfl) ?_) | fail)
        refine (put1_any n HNO.out W5).mono ?_
        rintro e w6 ⟨v6, rfl, ho6, hb6⟩
        have hb56 : Below wr.heap.size wr w6 := HB5.out.trans (hb6.mono HB5.out.size)
        obtain ⟨v7, w7, hr7, ho7, hb7⟩ := own_app2 (HO.out.below hb56 (Nat.le_refl _)) ho6 (Nat.le_trans HB.out.size hb56.size) (by rw [len_blkB HP.out hk, inoB_length HNO.out]; omega) 38
        rw [← blkB_take HAT.out] at ho7
        obtain ⟨sp7, n7, cap7, rfl⟩ : ∃ sp n c, v7 = .slice sp n c := by
          obtain ⟨sp, c, e, _⟩ := OwnB.form ho7
          exact ⟨sp, _, c, e⟩
        obtain ⟨sp6, n6, cap6, rfl⟩ : ∃ sp n c, v6 = .slice sp n c := by
          obtain ⟨sp, c, e, _⟩ := OwnB.form ho6
          exact ⟨sp, _, c, e⟩
        have HR7 := Lib.hid hr7; have HO7 := Lib.hid ho7
        have HB7 : Hid (Below w.heap.size w w7) := Lib.hid ((HB.out.trans (hb56.mono HB.out.size)).trans hb7)
        clear hb56 hr7 ho7 hb7 ho6 hb6 HX5 HB5 HO HB
        go_wp2_with (first | (at_builtin; refine wpL_val rfl (ex_appB rfl rfl rfl HR7.out) ?_) | fail)
        go_roundw
        case rel => exact ⟨k + 1, by omega, by go_num, HO7.out, HB7.out⟩
        case measure => simp [intOf]; omega
      · obtain rfl : k = 4 := by omega
        rw [List.take_of_length_le (by rw [HP.out.len]; omega)] at HO
        rw [show ((4 : Nat) : Int) = (4 : Int) from rfl]
        clear hlt hk
        go_wp2_with fail
        exact HQ.out _ _ ⟨.inl ⟨HM.out, _, rfl, HO.out⟩, HB.out⟩
end Go.Proofs.YtecngehkdjmjmaaDoor
/- Inodes: what take reads. -/
namespace Go.Proofs.YtecngehkdjmjmaaDoor
open Go.RowKit

def Bad128 (l : Bs) (e : Nat) : Prop := e ≠ 0 ∨ l.length < 128 ∨ fineI l = false
/-- Behind so many bytes of an inode. -/
def Ri (l : Bs) (e k : Nat) (q : Prop) (rest : Bs) (ee : Nat) : Prop := (ee = 0 ∧ e = 0 ∧ k ≤ l.length ∧ rest = l.drop k ∧ q) ∨ (ee ≠ 0 ∧ Bad128 l e ∧ rest.length ≤ l.length)
theorem Ri.start (l : Bs) (e : Nat) : Ri l e 0 True l e := by
  by_cases h : e = 0
  · exact .inl ⟨h, h, by omega, by simp, trivial⟩
  · exact .inr ⟨h, .inl h, Nat.le_refl _⟩
theorem Ri.len {l : Bs} {e k : Nat} {q : Prop} {rest : Bs} {ee : Nat} (h : Ri l e k q rest ee) : rest.length ≤ l.length := by
  rcases h with ⟨_, _, _, rfl, _⟩ | ⟨_, _, h⟩
  · simp
  · exact h
theorem Ri.next {l : Bs} {e k : Nat} {q : Prop} {rest : Bs} {ee : Nat} (h : Ri l e k q rest ee) (n : Nat) (hn : 0 < n) (hk : k + n ≤ 128) : Ri l e (k + n) q (nextRes rest ee n).2.1 (nextRes rest ee n).2.2 ∧ ((nextRes rest ee n).2.2 = 0 → (nextRes rest ee n).1 = (l.drop k).take n ∧ ee = 0) ∧ ((nextRes rest ee n).1.length = n ∨ (nextRes rest ee n).1 = []) := by
  rcases h with ⟨rfl, rfl, h2, rfl, hq⟩ | ⟨h1, h2, h3⟩
  · by_cases hs : l.length - k < n
    · have e1 : nextRes (l.drop k) 0 n = ([], l.drop k, 4) := by
        unfold nextRes
        rw [if_neg (by omega), if_pos (by rw [List.length_drop]; omega)]
      rw [e1]
      exact ⟨.inr ⟨by simp, .inr (.inl (by omega)), by simp⟩, fun h => by simp at h, .inr rfl⟩
    · have e1 : nextRes (l.drop k) 0 n = ((l.drop k).take n, (l.drop k).drop n, 0) := by
        unfold nextRes
        rw [if_neg (by omega), if_neg (by rw [List.length_drop]; omega), Int.toNat_natCast]
      rw [e1]
      exact ⟨.inl ⟨rfl, rfl, by omega, by rw [List.drop_drop], hq⟩, fun _ => ⟨rfl, rfl⟩, .inl (by simp; omega)⟩
  · have e1 : nextRes rest ee n = ([], rest, ee) := by
      unfold nextRes
      rw [if_pos (.inl h1)]
    rw [e1]
    exact ⟨.inr ⟨h1, h2, h3⟩, fun h => absurd h h1, .inr rfl⟩
theorem Ri.num {l : Bs} {e k : Nat} {q : Prop} {rest : Bs} {ee : Nat} (h : Ri l e k q rest ee) (n : Nat) (hn : 0 < n) (hk : k + n ≤ 128) : ∃ x rest' ee', val (nextRes rest ee n).1 = x ∧ (nextRes rest ee n).2.1 = rest' ∧ (nextRes rest ee n).2.2 = ee' ∧ Ri l e (k + n) q rest' ee' ∧ x < 2 ^ (8 * n) ∧ (ee' = 0 → x = val ((l.drop k).take n) ∧ ee = 0) := by
  obtain ⟨h1, h2, h3⟩ := h.next n hn hk
  refine ⟨_, _, _, rfl, rfl, rfl, h1, ?_, fun h0 => by rw [(h2 h0).1]; exact ⟨rfl, (h2 h0).2⟩⟩
  refine Nat.lt_of_lt_of_le (val_lt _) (Nat.pow_le_pow_right (by omega) ?_)
  rcases h3 with h3 | h3 <;> simp [h3]
theorem Ri.nou {l : Bs} {e k : Nat} {q : Prop} {rest : Bs} {ee : Nat} (h : Ri l e k q rest ee) (n : Nat) (hn : 0 < n) (hk : k + n ≤ 128) (hz : ((l.drop k).take n).all (· == 0#8) = false → fineI l = false) : ∃ rest' ee', (nouOf rest ee n).1 = rest' ∧ (nouOf rest ee n).2 = ee' ∧ Ri l e (k + n) (q ∧ ((l.drop k).take n).all (· == 0#8) = true) rest' ee' ∧ (ee' = 0 → ee = 0) := by
  obtain ⟨h1, h2, h3⟩ := h.next n hn hk
  refine ⟨_, _, rfl, rfl, ?_, ?_⟩
  · unfold nouOf
    cases ha : (nextRes rest ee n).1.all (· == 0#8)
    · simp only [Bool.false_eq_true, if_false]
      rcases h1 with ⟨a1, a2, a3, a4, a5⟩ | ⟨a1, a2, a3⟩
      · rw [(h2 a1).1] at ha
        exact .inr ⟨by omega, .inr (.inr (hz ha)), by rw [a4]; simp⟩
      · exact .inr ⟨by omega, a2, a3⟩
    · simp only [if_true]
      rcases h1 with ⟨a1, a2, a3, a4, a5⟩ | h1
      · rw [(h2 a1).1] at ha
        exact .inl ⟨a1, a2, a3, a4, a5, ha⟩
      · exact .inr h1
  · unfold nouOf
    intro h0
    cases ha : (nextRes rest ee n).1.all (· == 0#8)
    · rw [ha] at h0; simp at h0
    · rw [ha] at h0; simp only [if_true] at h0; exact (h2 h0).2
theorem mayI_root {n : Ino} (h : mayI n = true) : (eqP n.root zeroP || mayP n.root) = true := by
  unfold mayI at h
  rw [Bool.or_eq_true] at h
  rcases h with h | h
  · rw [eqI_iff.1 h]; rfl
  · simp only [Bool.and_eq_true] at h
    have h2 := h.2
    unfold rootI at h2
    cases hz : eqP n.root zeroP
    · rw [hz] at h2
      simp only [Bool.false_or, Bool.and_eq_true] at h2
      simp [h2.2]
    · rfl
theorem Ri.ptr {l : Bs} {e : Nat} {q : Prop} {rest : Bs} {ee : Nat} (h : Ri l e 8 q rest ee) {rest' : Bs} (hr : takeE rest ee = 0 → rest' = rest.drop 64) (hl : rest'.length ≤ rest.length) : Ri l e 72 (q ∧ quietP ((l.drop 8).take 64) = true) rest' (takeE rest ee) ∧ (takeE rest ee = 0 → takenP rest ee = pt (l.drop 8) ∧ ee = 0) := by
  rcases h with ⟨rfl, rfl, h2, rfl, hq⟩ | ⟨h1, h2, h3⟩
  · by_cases hs : l.length < 72
    · have e1 : takeE (l.drop 8) 0 = 4 := by unfold takeE; rw [if_neg (by omega), if_pos (by rw [List.length_drop]; omega)]
      rw [e1]
      exact ⟨.inr ⟨by omega, .inr (.inl (by omega)), Nat.le_trans hl (by simp)⟩, fun h => by simp at h⟩
    · have e1 : takeE (l.drop 8) 0 = if quietP ((l.drop 8).take 64) && (eqP (pt (l.drop 8)) zeroP || mayP (pt (l.drop 8))) then 0 else 5 := by
        unfold takeE; rw [if_neg (by omega), if_neg (by rw [List.length_drop]; omega)]
      have e2 : takeE (l.drop 8) 0 = 0 → takenP (l.drop 8) 0 = pt (l.drop 8) := fun h => by unfold takenP; rw [if_pos h]
      by_cases hc : (quietP ((l.drop 8).take 64) && (eqP (pt (l.drop 8)) zeroP || mayP (pt (l.drop 8)))) = true
      · rw [if_pos hc] at e1
        simp only [Bool.and_eq_true] at hc
        refine ⟨?_, fun h => ⟨e2 h, rfl⟩⟩
        rw [e1]
        exact .inl ⟨rfl, rfl, by omega, by rw [hr e1, List.drop_drop], hq, hc.1⟩
      · rw [if_neg hc] at e1
        have hf : fineI l = false := by
          rw [Bool.eq_false_iff]
          intro hf
          apply hc
          unfold fineI quietI at hf
          simp only [Bool.and_eq_true] at hf
          have h5 := mayI_root hf.2
          rw [Bool.and_eq_true]
          exact ⟨hf.1.1.2, h5⟩
        rw [e1]
        exact ⟨.inr ⟨by omega, .inr (.inr hf), Nat.le_trans hl (by simp)⟩, fun h => by simp at h⟩
  · have e1 : takeE rest ee = ee := by unfold takeE; rw [if_pos h1]
    rw [e1]
    exact ⟨.inr ⟨h1, h2, Nat.le_trans hl h3⟩, fun h => absurd h h1⟩
structure TiW (w : World) (H : Nat) (K : Nat → Prop) (n : Ino) (rest : Bs) (ee : Nat) (W : World) : Prop where
  res : Blk W w.heap.size (icells zeroI) 32
  an : Blk W (w.heap.size + 1) (icells n) 32
  rd : RdAt W H K rest ee
  bf : ButFor H w W
  hH : H < w.heap.size
  hK : ∀ g, K g → g < w.heap.size
theorem TiW.start {w : World} {H : Nat} {K : Nat → Prop} {l : Bs} {e : Nat} (hR : RdAt w H K l e) (hK : ∀ g, K g → g < w.heap.size) (z : Array Value) (hz : z = (icells zeroI).toArray) : TiW w H K zeroI l e ((w.alloc (.cells z 32)).alloc (.cells z 32)) := by
  subst hz
  have hb : Below w.heap.size w ((w.alloc (.cells (icells zeroI).toArray 32)).alloc (.cells (icells zeroI).toArray 32)) := ((Below.refl _ _).alloc (Nat.le_refl _) _).alloc (by simp) _
  exact ⟨(Blk.new _ _ _).alloc _, Blk.new' _ _ _ _ _ (by simp) rfl, hR.below hb (Nat.le_refl _), ButFor.of_below hb, hR.lt, hK⟩
theorem TiW.read {w W W' : World} {H : Nat} {K : Nat → Prop} {n : Ino} {rest rest' : Bs} {ee ee' : Nat} (h : TiW w H K n rest ee W) (hr : RdAt W' H K rest' ee') (hb : ButFor H W W') : TiW w H K n rest' ee' W' :=
  have h1 := h.hH
  ⟨hb.blk h.res (by omega), hb.blk h.an (by omega), hr, h.bf.trans hb, h.hH, h.hK⟩
theorem TiW.store {w W W' : World} {H : Nat} {K : Nat → Prop} {n n' : Ino} {rest : Bs} {ee : Nat} (h : TiW w H K n rest ee W) (hr : Blk W' (w.heap.size + 1) (icells n') 32) (hb : ButFor (w.heap.size + 1) W W') : TiW w H K n' rest ee W' :=
  have h1 := h.hH
  ⟨hb.blk h.res (by omega), hr, h.rd.other hb (by omega) (fun hk => by have := h.hK _ hk; omega), ⟨hb.os.trans h.bf.os, hb.tape.trans h.bf.tape, hb.output.trans h.bf.output, Nat.le_trans h.bf.size hb.size, fun k hk hn => (hb.block k (Nat.lt_of_lt_of_le hk h.bf.size) (by omega)).trans (h.bf.block k hk hn)⟩, h1, h.hK⟩
theorem TiW.result {w W : World} {H : Nat} {K : Nat → Prop} {n : Ino} {rest : Bs} {ee : Nat} (h : TiW w H K n rest ee W) (cs : Array Value) : RdAt (W.setRow w.heap.size cs) H K rest ee ∧ ButFor H w (W.setRow w.heap.size cs) := by
  have h1 := h.hH
  refine ⟨h.rd.other (J := w.heap.size) (butFor_row cs) (by omega) (fun hk => by have := h.hK _ hk; omega), ?_⟩
  exact ⟨h.bf.os, h.bf.tape, h.bf.output, by simpa using h.bf.size, fun k hk hn => (setRow_other W w.heap.size k cs (by omega)).trans (h.bf.block k hk hn)⟩
theorem TiW.root {w W : World} {H : Nat} {K : Nat → Prop} {n : Ino} {rest : Bs} {ee : Nat} (h : TiW w H K n rest ee W) (hn : n.OK) {p : Pt} (hp : p.OK) : TiW w H K { n with root := p } rest ee (W.setCells (w.heap.size + 1) 3 (pcells p)) := by
  have h1 := blk_setCells (w.heap.size + 1) 32 (pcells p) 3 W _ h.an (by rw [icells_length hn, pcells_length hp]; omega)
  have e : (icells n).take 3 ++ pcells p ++ (icells n).drop (3 + (pcells p).length) = icells { n with root := p } := by
    unfold icells
    rw [List.take_left' (by rfl), List.drop_of_length_le (by rw [List.length_append, pcells_length hp, pcells_length hn.root]; simp [inums]), List.append_nil]
    rfl
  rw [e] at h1
  exact h.store h1 (ButFor.sets _ _ _ (ButFor.refl _ _))
structure TkIPost (l : Bs) (e H : Nat) (K : Nat → Prop) (w : World) (x : Ending) (w' : World) : Prop where
  ok : ∃ n rest ee, x = .returned (.agg (icells n).toArray) ∧ n.OK ∧ RdAt w' H K rest ee ∧ rest.length ≤ l.length ∧ ((ee = 0 ∧ e = 0 ∧ 128 ≤ l.length ∧ rest = l.drop 128 ∧ n = ino l ∧ quietI l = true) ∨ (ee ≠ 0 ∧ Bad128 l e))
  bf : ButFor H w w'
theorem fineI_no {l : Bs} (h : quietI l = false) : fineI l = false := by unfold fineI; rw [h]; rfl
set_option maxRecDepth 100000 in
set_option maxHeartbeats 8000000 in
theorem take1_any (l : Bs) (e H : Nat) {K : Nat → Prop} (w : World) (hR : RdAt w H K l e) (hK : ∀ g, K g → g < w.heap.size) (hl : l.length ≤ 100000) (hT : RTab w) (hg : 0 ≠ H) :
    Calls Tryd.prog 23 #[.pointer (some ⟨H, 0, none⟩)] w (TkIPost l e H K w) := by
  have HL := Lib.hid hl; have HT := Lib.hid hT; have HGH := Lib.hid hg
  have HST : Hid (∀ z, z = (icells zeroI).toArray → TiW w H K zeroI l e ((w.alloc (.cells z 32)).alloc (.cells z 32))) := Lib.hid (fun z hz => TiW.start hR hK z hz)
  have HR0 := Lib.hid (Ri.start l e)
  have HZL := Lib.hid (icells_length zeroI_ok)
  generalize hPost : TkIPost l e H K w = Post
  have HQ : Hid (∀ x w', TkIPost l e H K w x w' → Post x w') := Lib.hid fun x w' h => by rw [← hPost]; exact h
  clear hR hK hl hT hg hPost
  go_enter Tryd.func23, Tryd.ntmps23
  go_upto_region 2 with fail
  refine (fun (k : ∀ W, TiW w H K zeroI l e W → Code.wp _ _ _ _ W) => k _ (HST.out _ rfl)) ?_
  intro W0 hw
  have HW0 := Lib.hid hw
  clear hw HST
  go_wp2_with fail
  refine (ru8_any H l e W0 HW0.out.rd).mono ?_
  intro x0 W1 hh
  obtain ⟨a, r1, e1, q1, q2, q3, q4, q5, q6⟩ := HR0.out.num 1 (by omega) (by omega)
  obtain ⟨rfl, q8, q9⟩ := take_post hh q1 q2 q3
  have hw1 := HW0.out.read q8 q9
  obtain ⟨n1, hn1⟩ : ∃ n : Ino, { zeroI with kind := a } = n := ⟨_, rfl⟩
  have HN1 : Hid n1.OK := Lib.hid (by rw [← hn1]; exact ⟨q5, zeroI_ok.links, zeroI_ok.size, zeroI_ok.root⟩)
  have hs1 : TiW w H K n1 r1 e1 (W1.setCell ⟨w.heap.size + 1, 0, none⟩ (.int .u8 (a : Int))) := hw1.store (by rw [← hn1]; exact hw1.an.set 0 (.int .u8 (a : Int))) ((ButFor.refl _ _).set _ _)
  have HS1 := Lib.hid hs1
  have HNN1 := Lib.hid hn1
  have HR1 := Lib.hid q4
  have HV0 : Hid (e1 = 0 → a = (ino l).kind ∧ e = 0) := Lib.hid q6
  obtain ⟨y0, hy0⟩ := hw1.an.has 0 (by rw [HZL.out]; omega)
  have fy0 := hw1.an.free 0
  clear hh q1 q2 q3 q4 q5 q6 q8 q9 HW0 HR0 hw1 hs1 hn1
  go_wp2_with fail
  generalize (W1.setCell ⟨w.heap.size + 1, 0, none⟩ (.int .u8 (a : Int))) = V1 at HS1 ⊢
  clear hy0 fy0
  refine (noughts_any H r1 e1 1 V1 (Nat.le_trans HR1.out.len HL.out) HS1.out.rd).mono ?_
  obtain ⟨r2, e2, t1, t2, t3, t4⟩ := HR1.out.nou 1 (by omega) (by omega) (fun hz => fineI_no (by unfold quietI; rw [hz]; rfl))
  rw [show ((1 : Nat) : Int) = (1 : Int) from rfl] at t1 t2
  rw [t1, t2]
  rintro x W2 ⟨rfl, hrd2, hbf2⟩
  have HW2 := Lib.hid (HS1.out.read hrd2 hbf2)
  have HR2 := Lib.hid t3
  have HV1 : Hid (e2 = 0 → e1 = 0) := Lib.hid t4
  clear t1 t2 t3 t4 hrd2 hbf2 HS1 HR1
  go_wp2_with fail
  refine (ru16_any H r2 e2 W2 HW2.out.rd).mono ?_
  intro x3 W3 hh
  obtain ⟨b, r3, e3, q1, q2, q3, q4, q5, q6⟩ := HR2.out.num 2 (by omega) (by omega)
  obtain ⟨rfl, q8, q9⟩ := take_post hh q1 q2 q3
  have HW3 := Lib.hid (HW2.out.read q8 q9)
  have HR3 := Lib.hid q4
  have HB2 := Lib.hid q5
  have HV2 : Hid (e3 = 0 → b = (ino l).links ∧ e2 = 0) := Lib.hid q6
  clear hh q1 q2 q3 q4 q5 q6 q8 q9 HW2 HR2
  go_wp2_with fail
  refine (ru32_any H r3 e3 W3 HW3.out.rd).mono ?_
  intro x4 W4 hh
  obtain ⟨c, r4, e4, q1, q2, q3, q4, q5, q6⟩ := HR3.out.num 4 (by omega) (by omega)
  obtain ⟨rfl, q8, q9⟩ := take_post hh q1 q2 q3
  have hw4 := HW3.out.read q8 q9
  have HR4 := Lib.hid q4
  have HV3 : Hid (e4 = 0 → c = (ino l).size ∧ e3 = 0) := Lib.hid q6
  obtain ⟨n4, hn4⟩ : ∃ n : Ino, { n1 with links := b, size := c } = n := ⟨_, rfl⟩
  have HN4 : Hid n4.OK := Lib.hid (by rw [← hn4]; exact ⟨HN1.out.kind, HB2.out, q5, HN1.out.root⟩)
  have hs3 := hw4.store (n' := { n1 with links := b }) (hw4.an.set 1 (.int .u16 (b : Int))) ((ButFor.refl _ _).set _ _)
  have hs4 : TiW w H K n4 r4 e4 ((W4.setCell ⟨w.heap.size + 1, 1, none⟩ (.int .u16 (b : Int))).setCell ⟨w.heap.size + 1, 2, none⟩ (.int .u32 (c : Int))) := hs3.store (by rw [← hn4]; exact hs3.an.set 2 (.int .u32 (c : Int))) ((ButFor.refl _ _).set _ _)
  have HS4 := Lib.hid hs4
  have HNN4 := Lib.hid hn4
  have hl1 := icells_length HN1.out
  obtain ⟨y1, hy1⟩ := hw4.an.has 1 (by omega)
  have fy1 := hw4.an.free 1
  have hn3o : ({ n1 with links := b } : Ino).OK := ⟨HN1.out.kind, HB2.out, HN1.out.size, HN1.out.root⟩
  obtain ⟨y2, hy2⟩ := hs3.an.has 2 (by rw [icells_length hn3o]; omega)
  have fy2 := hs3.an.free 2
  clear hh q1 q2 q3 q4 q5 q6 q8 q9 HW3 HR3 hw4 hs3 hs4 hn4 hl1 hn3o HN1
  go_wp2_with fail
  generalize ((W4.setCell ⟨w.heap.size + 1, 1, none⟩ (.int .u16 (b : Int))).setCell ⟨w.heap.size + 1, 2, none⟩ (.int .u32 (c : Int))) = V4 at HS4 ⊢
  clear hy1 fy1 hy2 fy2
  have hT4 : RTab V4 := HT.out.of_heap (HS4.out.bf.block _ HT.out.lt HGH.out)
  refine (ptrTake_len r4 e4 H V4 HS4.out.rd (fun g hg => Nat.lt_of_lt_of_le (HS4.out.hK g hg) HS4.out.bf.size) (Nat.le_trans HR4.out.len HL.out) hT4 HGH.out).mono ?_
  rintro x5 W5 ⟨rfl, ⟨r5, hrd5, hr5, hrl5⟩, hbf5⟩
  obtain ⟨t3, t4⟩ := HR4.out.ptr hr5 hrl5
  obtain ⟨e5, he5⟩ : ∃ x, takeE r4 e4 = x := ⟨_, rfl⟩
  obtain ⟨p, hp⟩ : ∃ x, takenP r4 e4 = x := ⟨_, rfl⟩
  have hpo : p.OK := by rw [← hp]; exact takenP_ok _ _
  rw [he5] at t3 t4 hrd5
  rw [hp] at t4 ⊢
  have hw5 := HS4.out.read hrd5 hbf5
  have hs5 := hw5.root HN4.out hpo
  have HTH : Hid (W5.there (w.heap.size + 1) 3 (pcells p).toArray.size) := Lib.hid (hw5.an.there _ _ (by rw [List.size_toArray, pcells_length hpo, icells_length HN4.out]; omega))
  have HSP := Lib.hid (size_pc hpo)
  have HS5 := Lib.hid hs5; have HPO := Lib.hid hpo; have HR5 := Lib.hid t3
  have HV4 : Hid (e5 = 0 → p = pt (l.drop 8) ∧ e4 = 0) := Lib.hid t4
  clear hT4 hrd5 hr5 hrl5 hbf5 t3 t4 he5 hp hpo hw5 hs5 HS4 HR4
  go_wp2_with (first | (refine wpList_store_mid rfl 28 (.tmp 17) (.tmp 16) rfl (w.heap.size + 1) 3 (pcells p).toArray rfl rfl HTH.out HSP.out (one_pc p) ?_) | fail)
  generalize (W5.setCells (w.heap.size + 1) 3 (pcells p)) = V5 at HS5 ⊢
  refine (noughts_any H r5 e5 56 V5 (Nat.le_trans HR5.out.len HL.out) HS5.out.rd).mono ?_
  obtain ⟨r6, e6, t1, t2, t3, t4⟩ := HR5.out.nou 56 (by omega) (by omega) (fun hz => fineI_no (by unfold quietI; rw [hz]; simp))
  rw [show ((56 : Nat) : Int) = (56 : Int) from rfl] at t1 t2
  rw [t1, t2]
  rintro x W6 ⟨rfl, hrd6, hbf6⟩
  have hw6 := HS5.out.read hrd6 hbf6
  obtain ⟨n6, hn6⟩ : ∃ n : Ino, { n4 with root := p } = n := ⟨_, rfl⟩
  have hno : n6.OK := by rw [← hn6]; exact ⟨HN4.out.kind, HN4.out.links, HN4.out.size, HPO.out⟩
  rw [hn6] at hw6
  have HW6 := Lib.hid hw6; have HN6 := Lib.hid hno
  have HZ6 : Hid ((icells zeroI).toArray.size = (icells n6).toArray.size) := Lib.hid (by rw [List.size_toArray, List.size_toArray, icells_length hno, icells_length zeroI_ok])
  have HSZ := Lib.hid (size_icI hno)
  have HFIN : Hid ((e6 = 0 ∧ e = 0 ∧ 128 ≤ l.length ∧ r6 = l.drop 128 ∧ n6 = ino l ∧ quietI l = true) ∨ (e6 ≠ 0 ∧ Bad128 l e)) := Lib.hid (by
    rcases t3 with ⟨a1, a2, a3, a4, ⟨⟨⟨-, b1⟩, b2⟩, b3⟩⟩ | ⟨a1, a2, -⟩
    · obtain ⟨v4, w4⟩ := HV4.out (t4 a1)
      obtain ⟨v3, w3⟩ := HV3.out w4
      obtain ⟨v2, w2⟩ := HV2.out w3
      obtain ⟨v1, w1⟩ := HV0.out (HV1.out w2)
      refine .inl ⟨a1, a2, a3, a4, ?_, ?_⟩
      · rw [← hn6, ← HNN4.out, ← HNN1.out, v4, v3, v2, v1]; rfl
      · unfold quietI; rw [b1, b2, b3]; rfl
    · exact .inr ⟨a1, a2⟩)
  have HLN := Lib.hid t3.len
  clear t1 t2 t3 t4 hrd6 hbf6 hw6 hn6 hno HS5 HR5 HV0 HV1 HV2 HV3 HV4 HNN1 HNN4 HN4 HPO
  have HRES := Lib.hid (HW6.out.result (icells n6).toArray)
  have HRB := Lib.hid HW6.out.res
  have HAN := Lib.hid HW6.out.an
  go_wp2_with (first | (refine wpL_valG (by rfl) (ex_ldIn HN6.out HAN.out rfl rfl) ?_) | (refine wpList_store_row rfl 32 (.tmp 2) (.tmp 20) rfl w.heap.size (icells n6).toArray rfl rfl 32 _ HRB.out HSZ.out HZ6.out (one_ic n6) ?_) | fail)
  exact bodyPost_ret (results_cell_row Tryd.results23 _ _ w.heap.size 32 _ _ _ rfl (HRB.out.row _) Tryd.underlying32 rfl HSZ.out) rfl (HQ.out _ _ ⟨⟨n6, r6, e6, rfl, HN6.out, HRES.out.1, HLN.out, HFIN.out⟩, HRES.out.2⟩)
end Go.Proofs.YtecngehkdjmjmaaDoor
