/- The pointer that a block fits: Seal. -/
import Derived.Test.YtmgagalhpkieoaaGreatDoorM12
import Derived.Test.YtmgagalhpkieoaaGreatDoorM19
import Derived.Test.YtmgagalhpkieoaaGreatDoorM02
import Derived.Test.YtmgagalhpkieoaaGreatDoorProg
import Derived.IntWalk
import Derived.Outline
import Derived.Deep.QuietTactic
import Derived.BigQuiet
import Derived.WalkSpells
namespace Go.Proofs.YtmgagalhpkieoaaGreatDoor
open Go.RowKit

def sealP (p : Pt) (bs : Bs) : Pt := { p with hash := digest (tagB p ++ bs) }
theorem sealP_ok {p : Pt} (hp : p.OK) (bs : Bs) : (sealP p bs).OK := ⟨hp.kind, hp.level, hp.obj, hp.off, hp.birth, digest_length _, hp.len, hp.ats⟩
theorem one_pc (p : Pt) : (pcells p).toArray.all (·.oneCell') = true := by
  rw [Array.all_eq_true_iff_forall_mem]
  intro v hv
  simp only [pcells, pnums, List.mem_toArray, List.mem_cons, List.mem_append, List.mem_map, List.not_mem_nil, or_false] at hv
  rcases hv with (rfl | rfl | rfl | rfl | rfl) | ⟨x, _, rfl⟩ | ⟨x, _, rfl⟩ <;> rfl
theorem size_pc {p : Pt} (hp : p.OK) : (Tryz.prog.info? 58).map (·.size) = some (pcells p).toArray.size := by rw [sizeP]; simp [pcells_length hp]
theorem pc_hash {p : Pt} (hp : p.OK) (h : Bs) (hh : h.length = 32) : (pcells p).take 5 ++ h.map V8 ++ (pcells p).drop (5 + (h.map V8).length) = pcells { p with hash := h } := by
  have e : pcells p = pnums p ++ (p.hash.map V8 ++ p.ats.map U16) := rfl
  rw [e, List.take_left' (by rfl), show 5 + (h.map V8).length = 5 + 32 by simp [hh], ← List.drop_drop, List.drop_left' (by rfl), List.drop_left' (by simp [hp.hash])]
  simp [pcells, pnums]
/-- While Seal goes: its own pointer, its result, its hash. -/
structure SlW (p : Pt) (w : World) (m : Bs) (W : World) : Prop where
  box : Blk W w.heap.size (pcells p) 58
  res : ∃ z, z.length = 41 ∧ Blk W (w.heap.size + 1) z 58
  h : HashAt W (w.heap.size + 2) m
  tab : Tab W
  bel : Below w.heap.size w W
theorem slw_start {p : Pt} {w : World} (ht : Tab w) (z : Array Value) (hz : z.size = 41) (c : Array Value) (hc : c = (hcells H0 (List.replicate 64 0#8) 0).toArray) :
    SlW p w [] (((w.alloc (.cells (pcells p).toArray 58)).alloc (.cells z 58)).alloc (.cells c 197)) ∧ (((w.alloc (.cells (pcells p).toArray 58)).alloc (.cells z 58)).alloc (.cells c 197)).heap.size = w.heap.size + 3 := by
  subst hc
  refine ⟨⟨((Blk.new _ _ _).alloc _).alloc _, ⟨z.toList, by simpa using hz, (Blk.new' _ _ _ _ _ (by simp) (by simp)).alloc _⟩, ⟨List.replicate 64 0#8, ⟨rfl, rfl⟩, Blk.new' _ _ _ _ _ (by simp) rfl⟩, ((ht.alloc _).alloc _).alloc _, (((Below.refl _ _).alloc (Nat.le_refl _) _).alloc (by simp) _).alloc (by simp; omega) _⟩, by simp⟩
theorem SlW.wrote {p : Pt} {w W W' : World} {m m' : Bs} (h : SlW p w m W) (hh : HashAt W' (w.heap.size + 2) m') (hb : ButFor (w.heap.size + 2) W W') (ht : Tab W') : SlW p w m' W' := by
  obtain ⟨z, hz, hr⟩ := h.res
  exact ⟨hb.blk h.box (by omega), ⟨z, hz, hb.blk hr (by omega)⟩, hh, ht, h.bel.trans (hb.below (by omega) h.bel.size)⟩
theorem SlW.grown {p : Pt} {w W W' : World} {m : Bs} (h : SlW p w m W) (hb : Below W.heap.size W W') : SlW p w m W' := by
  obtain ⟨z, hz, hr⟩ := h.res
  exact ⟨h.box.below hb h.box.lt, ⟨z, hz, hr.below hb hr.lt⟩, h.h.below hb h.h.lt, h.tab.below hb (Nat.le_refl _), h.bel.trans (hb.mono h.bel.size)⟩
theorem OwnB.src' {w : World} {B : Nat} {v : Value} {l : Bs} (h : OwnB w B v l) {H : Nat} (hH : H < B) : ∃ sp cap, v = .slice sp l.length cap ∧ l.length ≤ cap ∧ cap ≤ maxLen ∧ Src w H sp l := by
  obtain ⟨sp, cap, e, h1, h2, h3, _, h5⟩ := OwnB.form h
  refine ⟨sp, cap, e, h1, h2, fun h0 => ?_⟩
  obtain ⟨g, o, rfl, hg, hc⟩ := h3 h0
  have := (h5 _ rfl).1
  exact ⟨g, o, rfl, by simp at this; omega, hg, hc⟩
/-- At the end: the digest is laid into the pointer. -/
theorem slw_end {p : Pt} (hp : p.OK) {w W : World} {m bs : Bs} (h : SlW p w m W) (hm : m = tagB p ++ bs) : Blk (W.setCells w.heap.size 5 ((digest m).map V8)) w.heap.size (pcells (sealP p bs)) 58 ∧ (∃ z, z.length = 41 ∧ Blk (W.setCells w.heap.size 5 ((digest m).map V8)) (w.heap.size + 1) z 58) ∧ Below w.heap.size w (W.setCells w.heap.size 5 ((digest m).map V8)) := by
  subst hm
  obtain ⟨z, hz, hr⟩ := h.res
  have h1 := blk_setCells w.heap.size 58 ((digest (tagB p ++ bs)).map V8) 5 W _ h.box (by simp [digest_length, pcells_length hp])
  rw [pc_hash hp _ (digest_length _)] at h1
  exact ⟨h1, ⟨z, hz, blk_setCells_other (by omega) _ _ _ _ hr⟩, h.bel.trans (((ButFor.refl _ _).sets _ _ _ ).below (Nat.le_refl _) h.bel.size)⟩
set_option maxRecDepth 100000 in
set_option maxHeartbeats 4000000 in
theorem seal_any (p : Pt) (hp : p.OK) (bs : Bs) (sp : Option Addr) (cap : Nat) (w : World) (hl : bs.length ≤ 100000) (hc : bs.length ≤ cap) (hc2 : cap ≤ maxLen) (hS : SrcA w sp bs) (hT : Tab w) :
    Calls Tryz.prog 64 #[.agg (pcells p).toArray, .slice sp bs.length cap] w fun e w' => e = .returned (.agg (pcells (sealP p bs)).toArray) ∧ Below w.heap.size w w' := by
  have HP := Lib.hid hp
  have HS := Lib.hid hS
  have HT := Lib.hid hT
  have HC := Lib.hid hc
  have HC2 := Lib.hid hc2
  have HSP := Lib.hid (size_pc hp)
  have HSP2 := Lib.hid (size_pc (sealP_ok hp bs))
  have HONE := Lib.hid (one_pc (sealP p bs))
  have HLP : Hid ((pcells (sealP p bs)).length = 41) := Lib.hid (pcells_length (sealP_ok hp bs))
  obtain ⟨L, hL⟩ : ∃ L, bs.length = L := ⟨_, rfl⟩
  have HL := Lib.hid hL
  have HLL : Hid (L ≤ 100000) := Lib.hid (by omega)
  rw [hL]
  clear hp hS hT hc hc2 hl hL
  go_enter Tryz.func64, Tryz.ntmps64
  go_wp2_with fail
  refine (shaNew_any _).mono ?_
  rintro e0 W0 ⟨rfl, hw1⟩
  have hN : SlW p w [] W0 ∧ W0.heap.size = w.heap.size + 3 := by rw [hw1]; exact slw_start HT.out _ rfl _ rfl
  clear hw1
  simp only [World.size_alloc]
  have HN := Lib.hid hN.1
  have hs0 := hN.2
  have HBX : Hid (W0.heap[w.heap.size]? = some (.cells (pcells p).toArray 58 (0, 0))) := Lib.hid hN.1.box
  clear hN
  go_wp2_with (first | (refine wpList_load_row rfl 58 (.tmp 2) rfl w.heap.size rfl 58 _ _ _ HBX.out Tryz.underlying58 rfl HSP.out ?_) | fail)
  refine (tag_any p HP.out _).mono ?_
  rintro e1 W1 ⟨v1, rfl, ho1, hb1⟩
  obtain ⟨sp1, cap1, rfl, q1, q2, q3⟩ := OwnB.src' ho1 (H := w.heap.size + 2) (by omega)
  have HN1 := Lib.hid (HN.out.grown hb1)
  have HQ3 := Lib.hid q3
  have hc1 := write_any (w.heap.size + 2) [] (tagB p) sp1 cap1 W1 (by simp [tagB_length]) q1 (by unfold maxLen at q2; omega) HN1.out.h HQ3.out HN1.out.tab (by have := HT.out.lt; omega)
  have HC1 := Lib.hid hc1
  clear ho1 hb1 q1 q2 q3 hc1 HN HBX
  go_wp2_with fail
  refine HC1.out.mono ?_
  rintro e2 W2 ⟨rfl, hh2, hbf2, ht2⟩
  rw [List.nil_append] at hh2
  have HN2 := Lib.hid (HN1.out.wrote hh2 hbf2 ht2)
  clear hh2 hbf2 ht2 HC1
  have hc2 := write_any (w.heap.size + 2) (tagB p) bs sp cap W2 (by have := HLL.out; have := HL.out; simp [tagB_length]; omega) HC.out (by have := HC2.out; unfold maxLen at this; omega) HN2.out.h (fun h0 => by
    obtain ⟨g, o, e, h1, h2⟩ := HS.out h0
    exact ⟨g, o, e, by omega, Nat.lt_of_lt_of_le h1 HN2.out.bel.size, fun j hj => (HN2.out.bel.cell (p := ⟨g, o + j, none⟩) h1).trans (h2 j hj)⟩) HN2.out.tab (by have := HT.out.lt; omega)
  rw [HL.out] at hc2
  have HC2' := Lib.hid hc2
  clear hc2 HN1
  go_wp2_with fail
  refine HC2'.out.mono ?_
  rintro e3 W3 ⟨rfl, hh3, hbf3, ht3⟩
  have HN3 := Lib.hid (HN2.out.wrote hh3 hbf3 ht3)
  clear hh3 hbf3 ht3 HC2' HN2
  go_wp2_with fail
  refine (hashSum_any (w.heap.size + 2) _ W3 (by have := HLL.out; have := HL.out; simp [tagB_length]; omega) HN3.out.h HN3.out.tab).mono ?_
  rintro e4 W4 ⟨rfl, hb4⟩
  have hN4 := HN3.out.grown hb4
  have hE := slw_end HP.out hN4 (bs := bs) rfl
  have HTH : Hid (W4.there w.heap.size 5 ((digest (tagB p ++ bs)).map V8).toArray.size) := Lib.hid (hN4.box.there 5 _ (by simp [digest_length, pcells_length HP.out]))
  have HE := Lib.hid hE
  have HSD := Lib.hid (size24d (tagB p ++ bs))
  obtain ⟨z, hz, hr⟩ := hE.2.1
  have HR := Lib.hid hr
  have HZ : Hid (z.toArray.size = (pcells (sealP p bs)).toArray.size) := Lib.hid (by rw [List.size_toArray, List.size_toArray, HLP.out, hz])
  clear hb4 HN3 hN4 hE hz hr
  obtain ⟨W5, hW5⟩ : ∃ W5, W4.setCells w.heap.size 5 ((digest (tagB p ++ bs)).map V8) = W5 := ⟨_, rfl⟩
  rw [hW5] at HE HR
  have HW5 : Hid (W4.setCells w.heap.size 5 ((digest (tagB p ++ bs)).map V8).toArray.toList = W5) := Lib.hid hW5
  clear hW5
  have HBX : Hid (W5.heap[w.heap.size]? = some (.cells (pcells (sealP p bs)).toArray 58 (0, 0))) := Lib.hid HE.out.1
  go_wp2_with (first | (refine wpList_store_mid rfl 55 (.tmp 16) (.tmp 15) rfl w.heap.size 5 _ rfl rfl HTH.out HSD.out (one_ints V8 (fun _ => rfl) _) ?_; rw [HW5.out]) | (refine wpList_load_row rfl 58 (.tmp 2) rfl w.heap.size rfl 58 _ _ _ HBX.out Tryz.underlying58 rfl HSP2.out ?_) | (refine wpList_store_row rfl 58 (.tmp 4) (.tmp 17) rfl (w.heap.size + 1) _ rfl rfl 58 _ HR.out HSP2.out HZ.out HONE.out ?_) | fail)
  exact bodyPost_ret (results_cell_row Tryz.results64 _ _ (w.heap.size + 1) 58 _ _ _ rfl (HR.out.row _) Tryz.underlying58 rfl HSP2.out) rfl ⟨rfl, below_row HE.out.2.2 (by omega) _⟩
end Go.Proofs.YtmgagalhpkieoaaGreatDoor
/- Whether a block fits a pointer: Fits. -/
namespace Go.Proofs.YtmgagalhpkieoaaGreatDoor
open Go.RowKit

theorem ex_eqi {ρ : Operand → Value} {o : Oper} {x y : Operand} {k : IntKind} {a b : Int} {w : World} {ty : TypeId} (hu : Tryz.prog.underlying ty = some (.int k)) (ho : o.op = .binOp .eql ty x y ty) (hx : ρ x = .int k a) (hy : ρ y = .int k b) : (execOp ρ o).run Tryz.prog w = .ok (.value (.bool (decide (a = b)))) w := by
  have h := run_equalIn_int (P := Tryz.prog) w 9999 ty k k a b hu
  unfold execOp
  simp only [ho]
  go_simp
  by_cases h : a = b <;> simp [h]
def fitsP (p : Pt) (bs : Bs) : Bool := decide (bs.length = 512) && decide (digest (tagB p ++ bs) = p.hash)
theorem fitsP_eq (p : Pt) (bs : Bs) (h : bs.length = 512) : eqP (sealP p bs) p = fitsP p bs := by
  rw [Bool.eq_iff_iff]
  simp [eqP, sealP, fitsP, h]
  exact ⟨of_decide_eq_true, decide_eq_true⟩
def FtS (p : Pt) (w : World) (sp : Option Addr) (bs : Bs) (X : World) : Prop := Blk X w.heap.size (pcells p) 58 ∧ SrcA X sp bs ∧ Tab X ∧ Below w.heap.size w X
theorem FtS.grown {p : Pt} {w X Y : World} {sp : Option Addr} {bs : Bs} (h : FtS p w sp bs X) (hb : Below X.heap.size X Y) : FtS p w sp bs Y :=
  ⟨h.1.below hb h.1.lt, h.2.1.grown hb, h.2.2.1.below hb (Nat.le_refl _), h.2.2.2.trans (hb.mono h.2.2.2.size)⟩
theorem FtS.drew {p : Pt} {w X : World} {sp : Option Addr} {bs : Bs} (h : FtS p w sp bs X) : FtS p w sp bs X.drew := ⟨h.1, h.2.1, h.2.2.1, h.2.2.2.drew⟩
theorem fts_start {p : Pt} {w : World} {sp : Option Addr} {bs : Bs} (hS : SrcA w sp bs) (hT : Tab w) : FtS p w sp bs (w.alloc (.cells (pcells p).toArray 58)) :=
  ⟨Blk.new _ _ _, hS.grown ((Below.refl _ _).alloc (Nat.le_refl _) _), hT.alloc _, (Below.refl _ _).alloc (Nat.le_refl _) _⟩
set_option maxRecDepth 100000 in
set_option maxHeartbeats 4000000 in
theorem fits_any (p : Pt) (hp : p.OK) (bs : Bs) (sp : Option Addr) (cap : Nat) (w : World) (hl : bs.length ≤ 100000) (hc : bs.length ≤ cap) (hc2 : cap ≤ maxLen) (hS : SrcA w sp bs) (hT : Tab w) :
    Calls Tryz.prog 23 #[.agg (pcells p).toArray, .slice sp bs.length cap] w fun e w' => e = .returned (.bool (fitsP p bs)) ∧ Below w.heap.size w w' := by
  have HP := Lib.hid hp
  have HSP := Lib.hid (size_pc hp)
  have HW : Hid (FtS p w sp bs (w.alloc (.cells (pcells p).toArray 58))) := Lib.hid (fts_start hS hT)
  obtain ⟨L, hL⟩ : ∃ L, bs.length = L := ⟨_, rfl⟩
  have HL := Lib.hid hL
  have HC : Hid (L ≤ cap) := Lib.hid (by omega)
  have HC2 := Lib.hid hc2
  have HLL : Hid (L ≤ 100000) := Lib.hid (by omega)
  rw [hL]
  obtain ⟨f, hf⟩ : ∃ f, fitsP p bs = f := ⟨_, rfl⟩
  have HF := Lib.hid hf
  rw [hf]
  clear hp hS hT hc hc2 hl hL hf
  go_enter Tryz.func23, Tryz.ntmps23
  go_upto_region 1 with fail
  generalize (w.alloc (.cells (pcells p).toArray 58)) = W at HW ⊢
  by_cases h5 : L = 512
  · have ih : (L : Int) = 512 := by omega
    have hd : decide ((L : Int) = 512) = true := decide_eq_true ih
    have HD := Lib.hid hd
    have hsl := seal_any p HP.out bs sp cap W.drew (by rw [HL.out]; exact HLL.out) (by rw [HL.out]; exact HC.out) HC2.out HW.out.drew.2.1 HW.out.drew.2.2.1
    rw [HL.out] at hsl
    have HSL := Lib.hid hsl
    have hfq : f = eqP (sealP p bs) p := by rw [fitsP_eq p bs (by rw [HL.out]; exact h5)]; exact HF.out.symm
    have HFQ := Lib.hid hfq
    clear hd hsl hfq
    refine wp_region_sched (.take 0 (.take 1 (.take 2 (.take 3 (.take 4 (.take 5 (.take 7 (.step 6 (.take 8 (.take 9 (.take 10 (.nil)))))))))))) (by kernel_rfl) (by kernel_rfl) (fun d _ _ _ _ h => by cases d <;> exact h) (FtS p w sp bs) HW.out.drew ?_
    refine wpG_take _ (.slice sp L cap) rfl (by rfl) (fun X hX => by first | rfl | go_simp) ?_
    (try simp only [Act.put, List.setIfInBounds_toArray, List.set_cons_zero, List.set_cons_succ])
    refine wpG_take _ (.int .i64 (L : Int)) rfl (by rfl) (fun X hX => by first | rfl | go_simp) ?_
    (try simp only [Act.put, List.setIfInBounds_toArray, List.set_cons_zero, List.set_cons_succ])
    refine wpG_take _ (.bool true) rfl (by rfl) (fun X hX => by rw [← HD.out]; exact ex_eqi Tryz.underlying3 rfl rfl rfl) ?_
    (try simp only [Act.put, List.setIfInBounds_toArray, List.set_cons_zero, List.set_cons_succ])
    refine wpG_take _ (.bool true) rfl (by rfl) (fun X hX => by first | rfl | go_simp) ?_
    (try simp only [Act.put, List.setIfInBounds_toArray, List.set_cons_zero, List.set_cons_succ])
    refine wpG_take _ (.agg (pcells p).toArray) rfl (by rfl) (fun X hX => ex_ld (ty := 58) (cs := pcells p) rfl rfl (rng_all hX.1) Tryz.underlying58 rfl (by rw [sizeP, pcells_length HP.out])) ?_
    (try simp only [Act.put, List.setIfInBounds_toArray, List.set_cons_zero, List.set_cons_succ])
    refine wpG_take _ (.slice sp L cap) rfl (by rfl) (fun X hX => by first | rfl | go_simp) ?_
    (try simp only [Act.put, List.setIfInBounds_toArray, List.set_cons_zero, List.set_cons_succ])
    refine wpG_take _ (.agg (pcells p).toArray) rfl (by rfl) (fun X hX => ex_ld (ty := 58) (cs := pcells p) rfl rfl (rng_all hX.1) Tryz.underlying58 rfl (by rw [sizeP, pcells_length HP.out])) ?_
    (try simp only [Act.put, List.setIfInBounds_toArray, List.set_cons_zero, List.set_cons_succ])
    refine wpG_call _ rfl (by rfl) 64 #[.agg (pcells p).toArray, .slice sp L cap] (fun _ => by go_simp) (fun u w' => u = .agg (pcells (sealP p bs)).toArray) (HSL.out.mono fun e w' ⟨e1, e2⟩ => ⟨_, e1, HW.out.drew.grown e2, rfl⟩) ?_
    rintro u w3 hs3 rfl
    refine ⟨_, fun _ h => h, hs3, ?_⟩
    (try simp only [Act.put, List.setIfInBounds_toArray, List.set_cons_zero, List.set_cons_succ])
    refine wpG_take _ (.bool f) rfl (by rfl) (fun X hX => by rw [HFQ.out]; exact ex_eqP rfl rfl rfl (sealP_ok HP.out bs) HP.out) ?_
    (try simp only [Act.put, List.setIfInBounds_toArray, List.set_cons_zero, List.set_cons_succ])
    refine wpG_take _ (.bool f) rfl (by rfl) (fun X hX => by first | rfl | go_simp) ?_
    (try simp only [Act.put, List.setIfInBounds_toArray, List.set_cons_zero, List.set_cons_succ])
    refine wpG_take _ (.bool f) rfl (by rfl) (fun X hX => by first | rfl | go_simp) ?_
    (try simp only [Act.put, List.setIfInBounds_toArray, List.set_cons_zero, List.set_cons_succ])
    refine wpG_nil ?_
    have HB := Lib.hid hs3.2.2.2
    clear hs3
    go_wp2_with fail
    go_ret
    exact ⟨rfl, HB.out⟩
  · have ih : ¬ (L : Int) = 512 := by omega
    have hd : decide ((L : Int) = 512) = false := decide_eq_false ih
    have hf : f = false := by rw [← HF.out]; unfold fitsP; rw [decide_eq_false (by rw [HL.out]; exact h5)]; rfl
    have HD := Lib.hid hd
    subst hf
    clear hd
    refine wp_region_sched (.take 0 (.take 1 (.take 2 (.take 3 (.take 4 (.take 5 (.take 7 (.step 6 (.take 8 (.take 9 (.take 10 (.nil)))))))))))) (by kernel_rfl) (by kernel_rfl) (fun d _ _ _ _ h => by cases d <;> exact h) (FtS p w sp bs) HW.out.drew ?_
    refine wpG_take _ (.slice sp L cap) rfl (by rfl) (fun X hX => by first | rfl | go_simp) ?_
    (try simp only [Act.put, List.setIfInBounds_toArray, List.set_cons_zero, List.set_cons_succ])
    refine wpG_take _ (.int .i64 (L : Int)) rfl (by rfl) (fun X hX => by first | rfl | go_simp) ?_
    (try simp only [Act.put, List.setIfInBounds_toArray, List.set_cons_zero, List.set_cons_succ])
    refine wpG_take _ (.bool false) rfl (by rfl) (fun X hX => by rw [← HD.out]; exact ex_eqi Tryz.underlying3 rfl rfl rfl) ?_
    (try simp only [Act.put, List.setIfInBounds_toArray, List.set_cons_zero, List.set_cons_succ])
    refine wpG_take _ (.bool false) rfl (by rfl) (fun X hX => by first | rfl | go_simp) ?_
    (try simp only [Act.put, List.setIfInBounds_toArray, List.set_cons_zero, List.set_cons_succ])
    refine wpG_pass _ rfl (by rfl) ?_
    (try simp only [Act.put, List.setIfInBounds_toArray, List.set_cons_zero, List.set_cons_succ])
    refine wpG_pass _ rfl (by rfl) ?_
    (try simp only [Act.put, List.setIfInBounds_toArray, List.set_cons_zero, List.set_cons_succ])
    refine wpG_pass _ rfl (by rfl) ?_
    (try simp only [Act.put, List.setIfInBounds_toArray, List.set_cons_zero, List.set_cons_succ])
    refine wpG_skip _ rfl (by rfl) HW.out.drew ?_
    (try simp only [Act.put, List.setIfInBounds_toArray, List.set_cons_zero, List.set_cons_succ])
    refine wpG_pass _ rfl (by rfl) ?_
    (try simp only [Act.put, List.setIfInBounds_toArray, List.set_cons_zero, List.set_cons_succ])
    refine wpG_take _ (.bool false) rfl (by rfl) (fun X hX => by first | rfl | go_simp) ?_
    (try simp only [Act.put, List.setIfInBounds_toArray, List.set_cons_zero, List.set_cons_succ])
    refine wpG_take _ (.bool false) rfl (by rfl) (fun X hX => by first | rfl | go_simp) ?_
    (try simp only [Act.put, List.setIfInBounds_toArray, List.set_cons_zero, List.set_cons_succ])
    refine wpG_nil ?_
    have HB := Lib.hid HW.out.drew.2.2.2
    clear HW
    go_wp2_with fail
    go_ret
    exact ⟨rfl, HB.out⟩
end Go.Proofs.YtmgagalhpkieoaaGreatDoor
/- A space as plain data; the memory that holds it. -/
namespace Go.Proofs.YtmgagalhpkieoaaGreatDoor
open Go.RowKit

/-- What an address is: 0 free, 1 used, 2 held; and sick or not. -/
structure Ax where
  is : Nat
  sick : Bool
deriving DecidableEq
def acells : List Ax → List Value
  | [] => []
  | a :: l => .int .u8 (a.is : Int) :: .bool a.sick :: acells l
theorem acells_length : ∀ l : List Ax, (acells l).length = l.length * 2
  | [] => rfl
  | a :: l => by simp [acells, acells_length l]; omega
theorem acells_get : ∀ (l : List Ax) (i : Nat) (a : Ax), l[i]? = some a → (acells l)[i * 2]? = some (.int .u8 (a.is : Int)) ∧ (acells l)[i * 2 + 1]? = some (.bool a.sick)
  | [], i, a, h => by simp at h
  | b :: l, 0, a, h => by simp at h; subst h; exact ⟨rfl, rfl⟩
  | b :: l, i + 1, a, h => by
    have := acells_get l i a (by simpa using h)
    have e : (i + 1) * 2 = i * 2 + 1 + 1 := by omega
    rw [e]
    simpa [acells] using this
theorem acells_sick : ∀ (l : List Ax) (i : Nat) (a : Ax) (b : Bool), l[i]? = some a → (acells l).set (i * 2 + 1) (.bool b) = acells (l.set i { a with sick := b })
  | [], i, a, n, h => by simp at h
  | b :: l, 0, a, n, h => by simp at h; subst h; rfl
  | b :: l, i + 1, a, n, h => by
    have := acells_sick l i a n (by simpa using h)
    have e : (i + 1) * 2 = i * 2 + 1 + 1 := by omega
    rw [e]
    simpa [acells] using this
/-- What each disk's addresses are; the disks are 0 and 1. -/
abbrev Sp := Nat → List Ax
def put (sp : Sp) (d : Nat) (l : List Ax) : Sp := fun x => if x = d then l else sp x
theorem put_same (sp : Sp) (d : Nat) (l : List Ax) : put sp d l d = l := by simp [put]
theorem put_other (sp : Sp) {d x : Nat} (l : List Ax) (h : x ≠ d) : put sp d l x = sp x := by simp [put, h]
def slv (B : Nat) (n : Nat) : Value := .slice (some ⟨B, 0, none⟩) n n
/-- Block D is a space; B says where each disk's addresses lie. -/
structure SpAt (w : World) (D : Nat) (B : Nat → Nat) (sp : Sp) : Prop where
  blk : Blk w D [slv (B 0) (sp 0).length, slv (B 1) (sp 1).length] 163
  ax : ∀ d, d < 2 → Blk w (B d) (acells (sp d)) 150
  apart : B 0 ≠ B 1
  len : ∀ d, d < 2 → (sp d).length ≤ 4095
/-- The blocks that a space's calls turn. -/
def Of (B : Nat → Nat) (k : Nat) : Prop := k = B 0 ∨ k = B 1
theorem of_at (B : Nat → Nat) {d : Nat} (hd : d < 2) : Of B (B d) := by
  obtain rfl | rfl : d = 0 ∨ d = 1 := by omega
  · exact .inl rfl
  · exact .inr rfl
theorem SpAt.cell {w : World} {D : Nat} {B : Nat → Nat} {sp : Sp} (h : SpAt w D B sp) {d : Nat} (hd : d < 2) : w.cell? ⟨D, d, none⟩ = some (.slice (some ⟨B d, 0, none⟩) (sp d).length (sp d).length) := by
  obtain rfl | rfl : d = 0 ∨ d = 1 := by omega
  · exact h.blk.cell rfl
  · exact h.blk.cell rfl
theorem SpAt.chg {F : Nat → Prop} {w w' : World} {D : Nat} {B : Nat → Nat} {sp : Sp} (h : SpAt w D B sp) (hc : Chg F w w') (hD : ¬ F D) (hF : ∀ d, d < 2 → ¬ F (B d)) : SpAt w' D B sp :=
  ⟨h.blk.chg hc hD, fun d hd => (h.ax d hd).chg hc (hF d hd), h.apart, h.len⟩
theorem SpAt.below {w w' : World} {D : Nat} {B : Nat → Nat} {sp : Sp} (h : SpAt w D B sp) (hc : Below w.heap.size w w') : SpAt w' D B sp := h.chg (Chg.of_below (F := fun _ => False) hc) (fun h => h) (fun _ _ h => h)
theorem SpAt.drew {w : World} {D : Nat} {B : Nat → Nat} {sp : Sp} (h : SpAt w D B sp) : SpAt w.drew D B sp := ⟨h.blk, h.ax, h.apart, h.len⟩
theorem SpAt.not {w : World} {D : Nat} {B : Nat → Nat} {sp : Sp} (h : SpAt w D B sp) : ¬ Of B D := fun hd => by
  rcases hd with hd | hd
  · exact (h.blk.not (h.ax 0 (by omega)) (by decide)) hd
  · exact (h.blk.not (h.ax 1 (by omega)) (by decide)) hd
/-- One disk's addresses are turned. -/
theorem SpAt.turned {w w' : World} {D : Nat} {B : Nat → Nat} {sp : Sp} (h : SpAt w D B sp) {d : Nat} (hd : d < 2) {l : List Ax} (hl : l.length = (sp d).length) (hb : Blk w' (B d) (acells l) 150) (hc : Chg (fun k => k = B d) w w') : SpAt w' D B (put sp d l) := by
  have hD : ¬ D = B d := h.blk.not (h.ax d hd) (by decide)
  have hlen : ∀ x, (put sp d l x).length = (sp x).length := fun x => by
    unfold put; split
    · rename_i e; rw [hl, e]
    · rfl
  refine ⟨?_, fun x hx => ?_, h.apart, fun x hx => by rw [hlen]; exact h.len x hx⟩
  · rw [hlen, hlen]
    exact h.blk.chg hc hD
  · by_cases e : x = d
    · subst e; rw [put_same]; exact hb
    · rw [put_other sp l e]
      refine (h.ax x hx).chg hc (fun e2 => ?_)
      have hxd : (x = 0 ∧ d = 1) ∨ (x = 1 ∧ d = 0) := by omega
      rcases hxd with ⟨rfl, rfl⟩ | ⟨rfl, rfl⟩
      · exact h.apart e2
      · exact h.apart e2.symm
theorem chg_of {B : Nat → Nat} {d : Nat} (hd : d < 2) {w w' : World} (h : Chg (fun k => k = B d) w w') : Chg (Of B) w w' := h.mono (fun k hk => by rw [hk]; exact of_at B hd)
theorem SpAt.lt {w : World} {D : Nat} {B : Nat → Nat} {sp : Sp} (h : SpAt w D B sp) : ∀ k, Of B k → k < w.heap.size := fun k hk => by
  rcases hk with rfl | rfl
  · exact (h.ax 0 (by omega)).lt
  · exact (h.ax 1 (by omega)).lt
end Go.Proofs.YtmgagalhpkieoaaGreatDoor
/- The acts on one address, walked: turn's, Sick's, Is's; how many addresses a disk has. -/
namespace Go.Proofs.YtmgagalhpkieoaaGreatDoor
open Go.RowKit

def turnE (f : Nat) (a : Ax) : Nat := if a.is = f then 0 else 5
def turnA (f t : Nat) (a : Ax) : Ax := if a.is = f then { a with is := t } else a
set_option maxRecDepth 100000 in
set_option maxHeartbeats 4000000 in
theorem sick_in (B i : Nat) (l : List Ax) (a : Ax) (w : World) (hi : l[i]? = some a) (hb : Blk w B (acells l) 150) :
    Calls Tryz.prog 123 #[.pointer (some ⟨B, i * 2, none⟩)] w fun e w' => e = .returned (.int .i64 0) ∧ Blk w' B (acells (l.set i { a with sick := true })) 150 ∧ Chg (fun k => k = B) w w' := by
  have c0 := hb.cell (acells_get l i a hi).2
  have f0 := hb.free (i * 2 + 1)
  have HI := Lib.hid hi; have HB := Lib.hid hb
  clear hi hb
  go_enter Tryz.func123, Tryz.ntmps123
  go_wp2_with fail
  go_ret
  refine ⟨rfl, ?_, ?_⟩
  · rw [← acells_sick l i a true HI.out]
    exact HB.out.set _ _
  · exact chg1 _ _ _ _
set_option maxRecDepth 100000 in
set_option maxHeartbeats 4000000 in
theorem is_in (B i g : Nat) (l : List Ax) (a : Ax) (b : Bool) (w : World) (hi : l[i]? = some a) (hb : Blk w B (acells l) 150) (hg : Blk w g [.bool b] 4) :
    Calls Tryz.prog 74 #[.pointer (some ⟨B, i * 2, none⟩), .pointer (some ⟨g, 0, none⟩)] w fun e w' => e = .returned (.int .i64 0) ∧ Blk w' g [.bool a.sick] 4 ∧ Chg (fun k => k = g) w w' := by
  have c0 := hb.cell (acells_get l i a hi).2
  have cg := hg.cell (j := 0) rfl
  have fg := hg.free 0
  have HG := Lib.hid hg
  clear hi hb hg
  go_enter Tryz.func74, Tryz.ntmps74
  go_wp2_with fail
  go_ret
  exact ⟨rfl, HG.out.set 0 _, chg1 _ _ _ _⟩
theorem cfS (args : Array Value) (w : World) : (callFunc 123 args).run Tryz.prog w = .ok (.enter 123 args) w := by go_simp
theorem cfI (args : Array Value) (w : World) : (callFunc 74 args).run Tryz.prog w = .ok (.enter 74 args) w := by go_simp

set_option maxRecDepth 100000 in
set_option maxHeartbeats 4000000 in
theorem size_any (d : Nat) (w : World) (D : Nat) (B : Nat → Nat) (sp : Sp) (h : SpAt w D B sp) (hd : d < 2) : Calls Tryz.prog 104 #[.pointer (some ⟨D, 0, none⟩), .int .i64 (d : Int)] w fun e w' => e = .returned (.int .i64 ((sp d).length : Nat)) ∧ w = w' := by
  have c0 := h.cell hd
  have hd0 : ¬ (d : Int) < 0 := by omega
  have hd1 : ¬ 2 ≤ (d : Int) := by omega
  clear h
  go_enter Tryz.func104, Tryz.ntmps104
  go_wp2_with fail
  go_ret
  exact ⟨rfl, rfl⟩
end Go.Proofs.YtmgagalhpkieoaaGreatDoor
/- one, all: an act on an address, or on all of them. -/
namespace Go.Proofs.YtmgagalhpkieoaaGreatDoor
open Go.RowKit

set_option maxRecDepth 100000 in
set_option maxHeartbeats 4000000 in
theorem one_zero (d : Int) (D : Nat) (v : Value) (w : World) : Calls Tryz.prog 73 #[.pointer (some ⟨D, 0, none⟩), .int .i64 d, .int .u16 0, v] w fun e w' => e = .returned (.int .i64 1) ∧ w = w' := by
  go_enter Tryz.func73, Tryz.ntmps73
  go_wp2_with fail
  go_ret
  exact ⟨rfl, rfl⟩
set_option maxRecDepth 100000 in
set_option maxHeartbeats 4000000 in
theorem one_far (d D a : Nat) (B : Nat → Nat) (sp : Sp) (v : Value) (w : World) (h : SpAt w D B sp) (hd : d < 2) (ha : a < 65536) (hf : (sp d).length < a) : Calls Tryz.prog 73 #[.pointer (some ⟨D, 0, none⟩), .int .i64 (d : Int), .int .u16 (a : Int), v] w fun e w' => e = .returned (.int .i64 1) ∧ w = w' := by
  have wk := IntWalk.i64_in (a : Int) (by omega)
  have h1 : ¬ (a : Int) < 1 := by omega
  have H := Lib.hid h
  have HD := Lib.hid hd
  clear h hd
  obtain ⟨n, hn⟩ : ∃ n, (sp d).length = n := ⟨_, rfl⟩
  have HN := Lib.hid hn
  rw [hn] at hf
  have ht : decide (n < a) = true := by simpa using hf
  clear hn
  go_enter Tryz.func73, Tryz.ntmps73
  go_wp2_with (first | (go_at_call 104; refine (size_any _ _ _ _ _ H.out HD.out).mono ?_; rw [HN.out]; rintro e w' ⟨rfl, rfl⟩) | fail)
  go_ret
  exact ⟨rfl, rfl⟩
set_option maxRecDepth 100000 in
set_option maxHeartbeats 4000000 in
/-- An address that there is: the act answers. -/
theorem one_in (d D a f : Nat) (B : Nat → Nat) (sp : Sp) (caps : Array Value) (R : Value → World → Prop) (w : World) (h : SpAt w D B sp) (hd : d < 2) (h0 : 0 < a) (hf : a ≤ (sp d).length)
    (hcf : ∀ (args : Array Value) (w : World), (callFunc f args).run Tryz.prog w = .ok (.enter f args) w)
    (hcall : Calls Tryz.prog f (#[.pointer (some ⟨B d, (a - 1) * 2, none⟩)] ++ caps) w fun e w' => ∃ v, e = .returned v ∧ R v w') :
    Calls Tryz.prog 73 #[.pointer (some ⟨D, 0, none⟩), .int .i64 (d : Int), .int .u16 (a : Int), fval f caps] w fun e w' => ∃ v, e = .returned v ∧ R v w' := by
  have hl := h.len d hd
  obtain ⟨i, rfl⟩ : ∃ i, a = i + 1 := ⟨a - 1, by omega⟩
  rw [Nat.add_sub_cancel] at hcall
  have wk := IntWalk.i64_in ((i + 1 : Nat) : Int) (by omega)
  have h1 : ¬ ((i + 1 : Nat) : Int) < 1 := by omega
  have c0 := h.cell hd
  have H := Lib.hid h
  have HD := Lib.hid hd
  obtain ⟨n, hn⟩ : ∃ n, (sp d).length = n := ⟨_, rfl⟩
  have HN := Lib.hid hn
  rw [hn] at hf hl c0
  have HC := Lib.hid hcall
  have hi : decide ((i : Int) < (n : Int)) = true := by simp; omega
  have ht : decide (n < i + 1) = false := by simp; omega
  clear h hn hcall h0
  unfold fval
  go_enter Tryz.func73, Tryz.ntmps73
  go_wp2_with (first | (go_at_call 104; refine (size_any _ _ _ _ _ H.out HD.out).mono ?_; rw [HN.out]; rintro e w' ⟨rfl, rfl⟩) | fail)
  refine HC.out.mono ?_
  rintro e w1 ⟨v, rfl, hR⟩
  have HR := Lib.hid hR
  clear hR
  go_wp2_with fail
  go_ret
  exact ⟨_, rfl, HR.out⟩

/-- A function value that does to an address what act says; what K asks stays so. -/
structure Acts (f : Nat) (caps : Array Value) (E : Ax → Nat) (A : Ax → Ax) (K : World → Prop) : Prop where
  enter : ∀ (args : Array Value) (w : World), (callFunc f args).run Tryz.prog w = .ok (.enter f args) w
  call : ∀ (B i : Nat) (l : List Ax) (a : Ax) (w : World), l[i]? = some a → Blk w B (acells l) 150 → K w → Calls Tryz.prog f (#[.pointer (some ⟨B, i * 2, none⟩)] ++ caps) w fun e w' => e = .returned (.int .i64 (E a : Nat)) ∧ Blk w' B (acells (l.set i (A a))) 150 ∧ Chg (fun k => k = B) w w'
  keep : ∀ (w w' : World) (F : Nat → Prop), K w → (∀ k, F k → ∃ cs, Blk w k cs 150) → Chg F w w' → K w'
theorem acts_sick : Acts 123 #[] (fun _ => 0) (fun a => { a with sick := true }) (fun _ => True) :=
  ⟨cfS, fun B i l a w hi hb _ => by simpa using sick_in B i l a w hi hb, fun _ _ _ _ _ _ => trivial⟩

/-- The errno of an act on an address, and what is there behind it. -/
def oneE (sp : Sp) (d a : Nat) (E : Ax → Nat) : Nat := match (sp d)[a - 1]? with | some x => if a = 0 then 1 else E x | none => 1
def oneS (sp : Sp) (d a : Nat) (A : Ax → Ax) : Sp := match (sp d)[a - 1]? with | some x => if a = 0 then sp else put sp d ((sp d).set (a - 1) (A x)) | none => sp
theorem one_any (d D a f : Nat) (B : Nat → Nat) (sp : Sp) (caps : Array Value) (E : Ax → Nat) (A : Ax → Ax) (K : World → Prop) (w : World) (h : SpAt w D B sp) (hd : d < 2) (ha : a < 65536) (hA : Acts f caps E A K) (hK : K w) :
    Calls Tryz.prog 73 #[.pointer (some ⟨D, 0, none⟩), .int .i64 (d : Int), .int .u16 (a : Int), fval f caps] w fun e w' => e = .returned (.int .i64 (oneE sp d a E : Nat)) ∧ SpAt w' D B (oneS sp d a A) ∧ Chg (Of B) w w' := by
  unfold oneE oneS
  by_cases h0 : a = 0
  · subst h0
    refine (one_zero (d : Int) D (fval f caps) w).mono ?_
    rintro e w' ⟨rfl, rfl⟩
    cases (sp d)[0 - 1]? <;> exact ⟨rfl, h, Chg.refl _ _⟩
  · by_cases hl : a ≤ (sp d).length
    · obtain ⟨x, hx⟩ : ∃ x, (sp d)[a - 1]? = some x := ⟨_, List.getElem?_eq_getElem (by omega)⟩
      rw [hx]
      simp only [if_neg h0]
      refine (one_in d D a f B sp caps (fun v w' => v = .int .i64 (E x : Nat) ∧ Blk w' (B d) (acells ((sp d).set (a - 1) (A x))) 150 ∧ Chg (fun k => k = B d) w w') w h hd (by omega) hl hA.enter ?_).mono ?_
      · exact (hA.call (B d) (a - 1) (sp d) x w hx (h.ax d hd) hK).mono fun e w' ⟨h1, h2, h3⟩ => ⟨_, h1, rfl, h2, h3⟩
      · rintro e w' ⟨v, rfl, rfl, h2, h3⟩
        exact ⟨rfl, h.turned hd (by simp) h2 h3, chg_of hd h3⟩
    · rw [List.getElem?_eq_none (by omega)]
      refine (one_far d D a B sp (fval f caps) w h hd ha (by omega)).mono ?_
      rintro e w' ⟨rfl, rfl⟩
      exact ⟨rfl, h, Chg.refl _ _⟩
end Go.Proofs.YtmgagalhpkieoaaGreatDoor
/- all: an act on each address of both disks. -/
namespace Go.Proofs.YtmgagalhpkieoaaGreatDoor
open Go.RowKit

def k_part (A : Ax → Ax) (i : Nat) (l : List Ax) : List Ax := (l.take i).map A ++ l.drop i
theorem k_part_length (A : Ax → Ax) (i : Nat) (l : List Ax) : (k_part A i l).length = l.length := by simp [k_part]; omega
theorem k_part_get (A : Ax → Ax) : ∀ (l : List Ax) (i : Nat) (a : Ax), l[i]? = some a → (k_part A i l)[i]? = some a ∧ (k_part A i l).set i (A a) = k_part A (i + 1) l
  | [], _, _, h => by simp at h
  | b :: l, 0, a, h => by simp at h; subst h; simp [k_part]
  | b :: l, i + 1, a, h => by
    have := k_part_get A l i a (by simpa using h)
    simpa [k_part] using this
theorem SpAt.congr {w : World} {D : Nat} {B : Nat → Nat} {sp sp' : Sp} (h : SpAt w D B sp) (he : ∀ d, d < 2 → sp' d = sp d) : SpAt w D B sp' := by
  refine ⟨?_, fun d hd => by rw [he d hd]; exact h.ax d hd, h.apart, fun d hd => by rw [he d hd]; exact h.len d hd⟩
  rw [he 0 (by omega), he 1 (by omega)]
  exact h.blk
/-- What the loops keep. -/
def AllAt (w0 w : World) (D : Nat) (B : Nat → Nat) (K : World → Prop) (sp : Sp) : Prop := SpAt w D B sp ∧ K w ∧ Chg (Of B) w0 w
theorem AllAt.step {w0 w w' : World} {D : Nat} {B : Nat → Nat} {K : World → Prop} {f : Nat} {caps : Array Value} {E : Ax → Nat} {A : Ax → Ax} {sp : Sp} {d i : Nat} {a : Ax} (h : AllAt w0 w D B K (put sp d (k_part A i (sp d)))) (hA : Acts f caps E A K) (hd : d < 2) (hi : (sp d)[i]? = some a)
    (hb : Blk w' (B d) (acells ((k_part A i (sp d)).set i (A a))) 150) (hc : Chg (fun k => k = B d) w w') : AllAt w0 w' D B K (put sp d (k_part A (i + 1) (sp d))) := by
  obtain ⟨h1, h2, h3⟩ := h
  have hbd := h1.ax d hd
  rw [(k_part_get A _ i a hi).2] at hb
  refine ⟨?_, hA.keep w w' _ h2 (fun k hk => by subst hk; exact ⟨_, hbd⟩) hc, h3.trans' (chg_of hd hc)⟩
  have := h1.turned hd (l := k_part A (i + 1) (sp d)) (by rw [put_same, k_part_length, k_part_length]) hb hc
  refine this.congr fun x hx => ?_
  by_cases e : x = d
  · subst e; rw [put_same, put_same]
  · rw [put_other _ _ e, put_other _ _ e, put_other _ _ e]
end Go.Proofs.YtmgagalhpkieoaaGreatDoor
