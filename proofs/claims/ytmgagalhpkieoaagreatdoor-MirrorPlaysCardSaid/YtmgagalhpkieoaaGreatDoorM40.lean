/- The mirror that is known, walked. -/
import Derived.Test.YtmgagalhpkieoaaGreatDoorM39
namespace Go.Proofs.YtmgagalhpkieoaaGreatDoor
open Go.RowKit

attribute [local go_sem] Oper.semAt_some

structure WkS (w0 W : World) (lab : Nat → Nat) (X : Nat) (P : Pl) (Y : Nat) (L : List (Option Addr)) (x : Mi Dsk Sp) : Prop where
  mi : MiAt W lab P x
  pr : Blk W X [.pointer (some ⟨P.Q, 0, none⟩), .pointer (some ⟨P.D 0, 0, none⟩), .pointer (some ⟨P.D 1, 0, none⟩), .pointer (some ⟨P.K, 0, none⟩), .pointer (some ⟨P.M, 0, none⟩)] 33
  lx : lab X = 0
  xw : w0.heap.size ≤ X
  own : ∀ b, lab b ≠ 0 → lab b ≠ 8 → w0.heap.size ≤ b
  bel : Below w0.heap.size w0 W
  py : Blk W Y (pcells mwq) 58
  ly : lab Y = 0
  src : ∀ s ∈ L, SrcA W s mwb ∧ ∀ a, s = some a → lab a.block = 0
section
variable {w0 W W' : World} {lab lab' : Nat → Nat} {X Y : Nat} {P : Pl} {L : List (Option Addr)} {x y : Mi Dsk Sp}
theorem WkS.stp (h : WkS w0 W lab X P Y L x) (hm : MiAt W' lab' P y) (hs : Stp W lab W' lab') : WkS w0 W' lab' X P Y L y := by
  refine ⟨hm, hs.blk h.pr h.lx, hs.lab0 h.pr.lt h.lx, h.xw, fun b h1 h2 => ?_, h.bel.trans (hs.chg.below (fun k hk => h.own k hk.1 hk.2) h.bel.size), hs.blk h.py h.ly, hs.lab0 h.py.lt h.ly, fun s hs' => ?_⟩
  · by_cases hb : b < W.heap.size
    · rcases hs.eq b hb with e | e
      · rw [e] at h1 h2; exact h.own b h1 h2
      · exact absurd e h1
    · have := h.bel.size; omega
  · obtain ⟨h1, h2⟩ := h.src s hs'
    have h3 := h1.stp h2 hs
    exact ⟨h3.1, fun a e => h3.2 a (by rw [mwb_len]; omega) e⟩
theorem WkS.post (h : WkS w0 W lab X P Y L x) (hp : MiPost W lab P y W') : ∃ lab', WkS w0 W' lab' X P Y L y := by
  obtain ⟨l', h1, h2⟩ := hp
  exact ⟨l', h.stp h1 h2⟩
theorem WkS.below (h : WkS w0 W lab X P Y L x) (hb : Below W.heap.size W W') : WkS w0 W' lab X P Y L x := h.stp (h.mi.below hb) (Stp.below hb)
theorem WkS.add (h : WkS w0 W lab X P Y L x) {g : Nat} (hb : Blk W g (mwb.map V8) 5) (hl : lab g = 0) : WkS w0 W lab X P Y (some ⟨g, 0, none⟩ :: L) x := by
  refine ⟨h.mi, h.pr, h.lx, h.xw, h.own, h.bel, h.py, h.ly, fun s hs => ?_⟩
  rcases List.mem_cons.1 hs with rfl | hs
  · refine ⟨fun h0 => ⟨g, 0, rfl, hb.lt, fun j hj => hb.cell ?_⟩, fun a e => by cases e; exact hl⟩
    rw [Nat.zero_add, List.getElem?_map, List.getElem?_eq_getElem (by simpa using hj)]
    simp [List.getD_eq_getElem?_getD, List.getElem?_eq_getElem hj]
  · exact h.src s hs
theorem WkS.new (h : WkS w0 W lab X P Y L x) {g : Nat} (hg : W.heap.size ≤ g) : lab g = 0 := by
  by_cases e : lab g = 0
  · exact e
  · have := h.mi.lt g e; omega
end
theorem ownM_one {w : World} {B : Nat} {v : Value} {p : Pt} (hp : p.OK) (h : OwnM w B v [p]) : ∃ g c, v = .slice (some ⟨g, 0, none⟩) 1 (c + 1) ∧ w.rangeAt g 0 (pcells p) ∧ g < w.heap.size := by
  obtain ⟨sp, cap, e, h1, h2, h3, h4⟩ := h.src (fun q hq => by simp at hq; rw [hq]; exact hp)
  obtain ⟨g, rfl, hg, hr⟩ := h4 (by simp)
  have h1' : 1 ≤ cap := by simpa using h1
  exact ⟨g, cap - 1, by rw [e, Nat.sub_add_cancel h1']; rfl, by have := hr 0 p rfl; rwa [Nat.zero_mul] at this, hg⟩
theorem q_cvs {ρ : Operand → Value} {o : Oper} {x : Operand} {sp : Option Addr} {cap n : Nat} {l : Bs} {w : World} (ho : o.op = .convert 59 9 x) (hn : l.length = n) (hx : ρ x = .slice sp n cap) (hS : SrcA w sp l) : (execOp ρ o).run Tryz.prog w = .ok (.value (.string (bstr l))) w := by
  subst hn
  unfold execOp
  simp only [ho, hx, Sem.run_bind, conv_str hS, Result.andThen_ok, Sem.run_pure]
theorem q_eqStr {ρ : Operand → Value} {o : Oper} {x y : Operand} {l : Bs} {w : World} (ho : o.op = .binOp .eql 9 x y 9) (hx : ρ x = .string (bstr l)) (hy : ρ y = .string (bstr l)) : (execOp ρ o).run Tryz.prog w = .ok (.value (.bool true)) w := by
  unfold execOp
  simp only [ho, hx, hy]
  generalize bstr l = t
  go_simp
theorem q_eqT {ρ : Operand → Value} {o : Oper} {x y : Operand} {k : IntKind} {a : Int} {w : World} {ty : TypeId} (hu : Tryz.prog.underlying ty = some (.int k)) (ho : o.op = .binOp .eql ty x y ty) (hx : ρ x = .int k a) (hy : ρ y = .int k a) : (execOp ρ o).run Tryz.prog w = .ok (.value (.bool true)) w := by
  have h := ex_eqi (w := w) hu ho hx hy
  rw [decide_eq_true rfl] at h
  exact h
theorem q_eqCn {ρ : Operand → Value} {o : Oper} {x y : Operand} {w : World} (ho : o.op = .binOp .eql 96 x y 96) (hx : ρ x = .agg #[.int .i64 2, .int .i64 1]) (hy : ρ y = .agg #[.int .i64 2, .int .i64 1]) : (execOp ρ o).run Tryz.prog w = .ok (.value (.bool true)) w := by
  have h : ∀ w, (binOp .eql 96 (.agg #[.int .i64 2, .int .i64 1]) (.agg #[.int .i64 2, .int .i64 1])).run Tryz.prog w = .ok (.bool true) w := fun _ => by kernel_rfl
  unfold execOp
  simp only [ho, hx, hy]
  go_simp
theorem q_buildCn {ρ : Operand → Value} {o : Oper} {w : World} (ho : o.op = .build 96 #[(0, .const (.int .i64 2)), (1, .const (.int .i64 1))]) (h2 : ρ (.const (.int .i64 2)) = .int .i64 2) (h1 : ρ (.const (.int .i64 1)) = .int .i64 1) : (execOp ρ o).run Tryz.prog w = .ok (.value (.agg #[.int .i64 2, .int .i64 1])) w := by
  unfold execOp
  simp only [ho]
  go_simp
structure WkF (X Y : Nat) (P : Pl) (sp : Option Addr) (g5 g7 g9 : Nat) (Z : World) : Prop where
  c3 : Z.cell? ⟨X, 3, none⟩ = some (.pointer (some ⟨P.K, 0, none⟩))
  c4 : Z.cell? ⟨X, 4, none⟩ = some (.pointer (some ⟨P.M, 0, none⟩))
  py : Blk Z Y (pcells mwq) 58
  s0 : SrcA Z sp mwb
  s5 : SrcA Z (some ⟨g5, 0, none⟩) mwb
  s7 : SrcA Z (some ⟨g7, 0, none⟩) mwb
  r9 : Z.rangeAt g9 0 (pcells mwq)
theorem WkF.of {w0 Z : World} {lab : Nat → Nat} {X Y g5 g7 g9 : Nat} {P : Pl} {sp : Option Addr} {x : Mi Dsk Sp} (h : WkS w0 Z lab X P Y [some ⟨g7, 0, none⟩, some ⟨g5, 0, none⟩, sp] x) (hr : Z.rangeAt g9 0 (pcells mwq)) : WkF X Y P sp g5 g7 g9 Z :=
  ⟨h.pr.cell rfl, h.pr.cell rfl, h.py, (h.src _ (by simp)).1, (h.src _ (by simp)).1, (h.src _ (by simp)).1, hr⟩
theorem look_is {D Q : Nat} {S : Nat → Prop} {s : Dsk} {ad : Nat} {b : Bs} (hl : look s ad = some b) (ha : ad < 65536) (w : World) (h : DkAt w D Q S s) (hcn : s.cache.length < 1000000) :
    Calls Tryz.prog 28 #[.pointer (some ⟨D, 0, none⟩), .int .u16 (ad : Int)] w fun e w' => ∃ g, e = .returned (.tuple #[.slice (some ⟨g, 0, none⟩) 512 512, .bool true]) ∧ Blk w' g (b.map V8) 5 ∧ w.heap.size ≤ g ∧ Below w.heap.size w w' :=
  (look_any D Q S s ad ha w h hcn).mono fun e w' hh => by
    rw [hl] at hh
    obtain ⟨v, e1, ⟨g, e2, h1, h2, h3⟩, h4⟩ := hh
    subst e2
    exact ⟨g, e1, h2, h3, h4⟩
theorem read_is {p : Pt} (hp : p.OK) {w : World} {lab : Nat → Nat} {P : Pl} {x x' : Mi Dsk Sp} {b : Bs} {n : Nat} (h : MiAt w lab P x) (hl : Lim x n) (hn : n < 600000) (hs : healS kinD x p false = x') (hb : healB kinD x p false = some b) (he : healE kinD x p false = 0) :
    Calls Tryz.prog 9 #[.pointer (some ⟨P.M, 0, none⟩), .agg (pcells p).toArray] w fun e w' => ∃ g lab', e = .returned (.tuple #[.slice (some ⟨g, 0, none⟩) 512 512, .int .i64 0]) ∧ MiAt w' lab' P x' ∧ Stp w lab w' lab' ∧ Blk w' g (b.map V8) 5 ∧ lab' g = 0 :=
  (read_any8 p hp w lab P x n h hl hn).mono fun e w' hh => by
    obtain ⟨v, e1, lab', h1, h2, h3⟩ := hh
    rw [hs] at h1
    rw [hb] at h3
    rw [he] at e1
    obtain ⟨g, e2, -, h4, h5, -⟩ := h3
    subst e2
    exact ⟨g, lab', e1, h1, h2, h4, h5⟩
theorem check_is {p : Pt} (hp : p.OK) {w : World} {lab : Nat → Nat} {P : Pl} {x x' : Mi Dsk Sp} {n : Nat} (h : MiAt w lab P x) (hl : Lim x n) (hn : n < 600000) (hs : healS kinD x p true = x') (he : healE kinD x p true = 0) :
    Calls Tryz.prog 11 #[.pointer (some ⟨P.M, 0, none⟩), .agg (pcells p).toArray] w fun e w' => e = .returned (.int .i64 0) ∧ MiPost w lab P x' w' :=
  (check_any8 p hp w lab P x n h hl hn).mono fun e w' hh => by
    obtain ⟨e1, v, lab', h1, h2, h3⟩ := hh
    rw [hs] at h1
    rw [he] at e1
    exact ⟨e1, lab', h1, h2⟩
theorem write_is {p : Pt} (hp : p.OK) {b : Bs} {sp : Option Addr} {k cap : Nat} {w : World} {lab : Nat → Nat} {P : Pl} {x x' : Mi Dsk Sp} {n : Nat} (h : MiAt w lab P x) (hl : Lim x n) (hn : n < 600000) (hbk : b.length = k) (hk : k ≤ 1000) (hkc : k ≤ cap) (hcm : cap ≤ maxLen) (hS : SrcA w sp b) (hsp : ∀ a, sp = some a → lab a.block = 0) (he : (writeR kinD x p b).1 = 0) (hs : (writeR kinD x p b).2 = x') :
    Calls Tryz.prog 12 #[.pointer (some ⟨P.M, 0, none⟩), .agg (pcells p).toArray, .slice sp k cap] w fun e w' => e = .returned (.int .i64 0) ∧ MiPost w lab P x' w' :=
  (write_any8 p hp b sp k cap w lab P x n h hl hn hbk hk hkc hcm hS hsp).mono fun e w' hh => by
    rw [he, hs] at hh
    exact hh
theorem mx_lim0 : Lim (start 9) 0 := ⟨fun k _ => Nat.le_refl _, fun _ => Nat.le_refl _, fun _ => Nat.le_refl _, Nat.le_refl _⟩
theorem others_len (l : List (Nat × d_Bs)) (a : Nat) : (others l a).length ≤ l.length := List.length_filter_le _ _
theorem ailed_lim (s : Dsk) (a n : Nat) (ft : Bk → Bk) : (ailed s a n ft).2.cache.length ≤ s.cache.length := by
  unfold ailed
  split
  · exact others_len _ _
  · exact Nat.le_refl _
theorem Lim.ail {x : Mi Dsk Sp} {n : Nat} (h : Lim x n) (k a m : Nat) (ft : Bk → Bk) (hk : k < 2) : Lim { x with d := upk x.d k (ailed (x.d k) a m ft).2 } n := by
  refine ⟨fun i hi => ?_, h.f, h.g, h.mv⟩
  show (upk x.d k (ailed (x.d k) a m ft).2 i).cache.length ≤ n
  by_cases e : i = k
  · subst e; rw [upk_same]; exact Nat.le_trans (ailed_lim _ _ _ _) (h.c i hi)
  · rw [upk_other _ _ e]; exact h.c i hi
theorem mx_lim1 : Lim mx1 8 := by
  have h := mx_lim0.write mwq_ok mwb
  rw [mx1s] at h
  exact h.mono (by omega)
theorem mx_lim2 : Lim mx2 8 := mx_lim1.ail 0 1 512 (rotK mwz) (by omega)
theorem mx_lim3 : Lim mx3 16 := by
  have h := mx_lim2.heal mwq_ok false
  rw [mx3s] at h
  exact h.mono (by omega)
theorem mx_lim4 : Lim mx4 16 := mx_lim3.ail 0 2 512 (fun k => { k with stuck := true }) (by omega)
theorem mx_lim5 : Lim mx5 24 := by
  have h := mx_lim4.heal mwq_ok true
  rw [mx5s] at h
  exact h.mono (by omega)
set_option maxRecDepth 100000 in
set_option maxHeartbeats 8000000 in
theorem mwakes_any (w : World) (ht : Tab w) (hr : RTab w) : Calls Tryz.prog 6 #[] w fun e w' => e = .returned (.bool true) ∧ Below w.heap.size w w' := by
  have HT := Lib.hid ht; have HR := Lib.hid hr
  have HZQ : Hid ((Tryz.prog.info? 58).map (·.size) = some (pcells mwq).length) := Lib.hid (by rw [sizeP, pcells_length mwq_ok])
  have HSP := Lib.hid (size_pc mwq_ok)
  have HLQ : Hid ((pcells mwq).length = 41) := Lib.hid (pcells_length mwq_ok)
  have HONE := Lib.hid (one_pc mwq)
  clear ht hr
  go_enter Tryz.func6, Tryz.ntmps6
  go_wp2_with fail
  refine (begun_any 9 (by omega) (by omega) w HT.out HR.out).mono ?_
  rintro e W0 ⟨X, P, lab, rfl, hbeg⟩
  have HB := Lib.hid hbeg
  clear hbeg
  obtain ⟨W9, hW9⟩ : ∃ W9, W0.alloc (.cells #[.int .u8 7] 5) = W9 := ⟨_, rfl⟩
  have hsr : SrcA W9 (some ⟨W0.heap.size, 0, none⟩) [7#8] := fun _ => ⟨W0.heap.size, 0, rfl, by rw [← hW9]; simp, fun j hj => by
    have hj0 : j = 0 := by simpa using hj
    subst hj0
    rw [← hW9]
    exact (Blk.new W0 [.int .u8 7] 5).cell rfl⟩
  have hsl : Calls Tryz.prog 8 #[.agg (actC 0 mw0 (.slice (some ⟨W0.heap.size, 0, none⟩) 1 1) false [.int .u8 0, .int .u8 0, .int .u16 0, .slice none 0 0, .bool false, .int .i64 0, .slice none 0 0]).toArray] W9 (fun e w' => ∃ v, e = .returned (.tuple #[.agg (pcells mwq).toArray, v]) ∧ OwnB w' W9.heap.size v mwb ∧ Below W9.heap.size W9 w') :=
    sealed_any 0 mw0 mw0_ok [7#8] (some ⟨W0.heap.size, 0, none⟩) 1 1 rfl (by omega) false [.int .u8 0, .int .u8 0, .int .u16 0, .slice none 0 0, .bool false, .int .i64 0, .slice none 0 0] rfl W9 hsr
  have HSL := Lib.hid hsl
  have HW9 := Lib.hid hW9
  clear hsr hsl hW9
  go_wp2_with fail
  rw [HW9.out]
  refine HSL.out.mono ?_
  rintro e W1 ⟨v, rfl, ho, hb⟩
  obtain ⟨sp, cap, rfl, q1, q2, q3, q4, q5⟩ := OwnB.form ho
  rw [mwb_len] at q1 ⊢
  have HC : Hid (512 ≤ cap ∧ cap ≤ maxLen) := Lib.hid ⟨q1, q2⟩
  have hb9 : Below W0.heap.size W0 W9 := by rw [← HW9.out]; exact (Below.refl _ _).alloc (Nat.le_refl _) _
  have HST : Hid (∀ Z : Array Value, WkS w ((W1.alloc (.cells Z 58)).setRow W1.heap.size (pcells mwq).toArray) lab X P W1.heap.size [sp] (start 9)) := Lib.hid (fun Z => by
    have hb1 : Below W1.heap.size W1 ((W1.alloc (.cells Z 58)).setRow W1.heap.size (pcells mwq).toArray) := below_row ((Below.refl _ _).alloc (Nat.le_refl _) _) (Nat.le_refl _) _
    have hbb := (hb9.trans (hb.mono hb9.size)).trans (hb1.mono (Nat.le_trans hb9.size hb.size))
    have z : ∀ g, W0.heap.size ≤ g → lab g = 0 := fun g hg => by
      by_cases e : lab g = 0
      · exact e
      · have := HB.out.mi.lt g e; omega
    refine ⟨HB.out.mi.below hbb, HB.out.pr.below hbb HB.out.pr.lt, HB.out.lx, HB.out.xw, HB.out.own, HB.out.bel.trans (hbb.mono HB.out.bel.size), (Blk.new' W1 Z Z.toList _ _ rfl (by simp)).row _, z _ (Nat.le_trans hb9.size hb.size), fun s hs => ?_⟩
    simp only [List.mem_cons, List.not_mem_nil, or_false] at hs
    subst hs
    exact ⟨q3.below hb1 (Nat.le_refl _), fun a e => z _ (Nat.le_trans hb9.size (q5 a e).1)⟩)
  clear q1 q2 q3 q4 q5 ho hb hb9 HSL HW9
  go_upto_region 3 with (first | (refine wpList_store_row rfl 58 (.tmp 2) (.tmp 18) rfl W1.heap.size _ rfl rfl 58 _ (heap_alloc_new _ _) HSP.out (by show 41 = (pcells mwq).toArray.size; rw [List.size_toArray, HLQ.out]) HONE.out ?_) | fail)
  refine (fun (k : ∀ W, WkS w W lab X P W1.heap.size [sp] (start 9) → Code.wp _ _ _ _ W) => k _ (HST.out _)) ?_
  intro Wa hNa
  generalize W1.heap.size = Y at hNa ⊢
  have HSa := Lib.hid (hNa.below (Below.refl _ _).drew)
  clear HST hNa HB W9

  refine gS (.take 0 (.take 1 (.take 2 (.take 3 (.take 4 (.take 5 (.step 6 (.take 7 (.nil))))))))) (fun Z => Z.cell? ⟨X, 4, none⟩ = some (.pointer (some ⟨P.M, 0, none⟩)) ∧ Blk Z Y (pcells mwq) 58) ⟨HSa.out.pr.cell rfl, HSa.out.py⟩ ?_
  refine gT (.pointer (some ⟨X, 0, none⟩)) ?_; try simp only [pS]
  refine wpG_take _ (.pointer (some ⟨X, 0, none⟩)) rfl (by rfl) (fun X hX => ex_nc rfl rfl) ?_; try simp only [pS]
  refine gT (.pointer (some ⟨X, 4, none⟩)) ?_; try simp only [pS]
  refine wpG_take _ (.pointer (some ⟨P.M, 0, none⟩)) rfl (by rfl) (fun X hX => q_ldM rfl rfl (hX.1)) ?_; try simp only [pS]
  refine wpG_take _ (.agg (pcells mwq).toArray) rfl (by rfl) (fun X hX => ex_ld (ty := 58) (cs := pcells mwq) rfl rfl (rng_all hX.2) Tryz.underlying58 rfl HZQ.out) ?_; try simp only [pS]
  refine gT (.slice sp 512 cap) ?_; try simp only [pS]
  refine wpG_call _ rfl (by rfl) 12 #[.pointer (some ⟨P.M, 0, none⟩), .agg (pcells mwq).toArray, .slice sp 512 cap] (fun _ => by go_simp) (fun u w' => u = .int .i64 0 ∧ ∃ lab', WkS w w' lab' X P Y [sp] mx1)
    ((write_is mwq_ok HSa.out.mi mx_lim0 (by omega) mwb_len (by omega) HC.out.1 HC.out.2 (HSa.out.src sp (by simp)).1 (HSa.out.src sp (by simp)).2 mx1e mx1s).mono fun e w' hh => by
      obtain ⟨e1, h1⟩ := hh
      obtain ⟨lab', h'⟩ := HSa.out.post h1
      exact ⟨_, e1, ⟨h'.pr.cell rfl, h'.py⟩, rfl, lab', h'⟩) ?_
  rintro u Wb hs1 ⟨rfl, lb, h1⟩
  refine ⟨_, fun _ h => h, hs1, ?_⟩; try simp only [pS]
  refine gT (.int .i64 0) ?_; try simp only [pS]
  refine wpG_nil ?_
  have HNb := Lib.hid h1
  clear h1 hs1 HSa
  go_upto_region 4 with fail
  have HSb := Lib.hid (HNb.out.below (Below.refl _ _).drew)
  refine gS (.take 0 (.take 1 (.take 2 (.take 3 (.take 4 (.step 5 (.step 6 (.nil)))))))) (fun Z => Z.cell? ⟨X, 1, none⟩ = some (.pointer (some ⟨P.D 0, 0, none⟩))) (HSb.out.pr.cell rfl) ?_
  refine gT (.pointer (some ⟨X, 0, none⟩)) ?_; try simp only [pS]
  refine wpG_take _ (.pointer (some ⟨X, 0, none⟩)) rfl (by rfl) (fun X hX => ex_nc rfl rfl) ?_; try simp only [pS]
  refine gT (.pointer (some ⟨X, 1, none⟩)) ?_; try simp only [pS]
  refine gT (.pointer (some ⟨X, 1, none⟩)) ?_; try simp only [pS]
  refine wpG_take _ (.pointer (some ⟨P.D 0, 0, none⟩)) rfl (by rfl) (fun X hX => q_ldD rfl rfl (hX)) ?_; try simp only [pS]
  refine wpG_call _ rfl (by rfl) 32 #[.slice none 0 0] (fun _ => by go_simp) (fun u w' => ∃ spz capz, u = .slice spz 512 capz ∧ SrcA w' spz mwz ∧ WkS w w' lb X P Y [sp] mx1)
    ((full_any [] none 0 0 rfl (by omega) Wb.drew (fun h0 => absurd h0 (by simp))).mono fun e w' hh => by
      obtain ⟨v, e1, ho, hb⟩ := hh
      obtain ⟨spz, capz, e2, -, -, h3, -, -⟩ := OwnB.form ho
      have h' := HSb.out.below hb
      have el : (d_full []).length = 512 := full_length _
      rw [el] at e2
      exact ⟨v, e1, h'.pr.cell rfl, spz, capz, e2, h3, h'⟩) ?_
  rintro u Wb1 hs1 ⟨spz, capz, rfl, hz1, h1⟩
  refine ⟨_, fun _ h => h, hs1, ?_⟩; try simp only [pS]
  have HS1 := Lib.hid h1
  have HZ1 := Lib.hid hz1
  refine wpG_call _ rfl (by rfl) 31 #[.pointer (some ⟨P.D 0, 0, none⟩), .int .u16 1, .slice spz 512 capz] (fun _ => by go_simp) (fun u w' => ∃ lb', WkS w w' lb' X P Y [sp] mx2)
    ((rot_any (P.D 0) P.Q _ (mx1.d 0) 1 mwz spz 512 capz Wb1 (by omega) mwz_len HZ1.out (HS1.out.mi.dk 0 (by omega)) (HS1.out.mi.lt _ (by rw [HS1.out.mi.lq]; omega)) (by have := mx_lim1.c 0 (by omega); omega)).mono fun e w' hh => by
      obtain ⟨e1, h1, h2⟩ := hh
      obtain ⟨lb', h'⟩ := HS1.out.post (HS1.out.mi.stepD (k := 0) (by omega) h1 (HS1.out.mi.pw.chg h2 (by show ¬ lb P.Q = 0 + 1; rw [HS1.out.mi.lq]; omega)) (h2.mono (fun b hb => .inl hb)))
      exact ⟨_, e1, h'.pr.cell rfl, lb', h'⟩) ?_
  rintro u Wc hs2 ⟨lc, h2⟩
  refine ⟨_, fun _ h => h, hs2, ?_⟩; try simp only [pS]
  refine wpG_nil ?_
  have HNc := Lib.hid h2
  clear h1 h2 hs1 hs2 HSb HNb hz1 HS1 HZ1
  go_upto_region 5 with fail
  have HSc := Lib.hid (HNc.out.below (Below.refl _ _).drew)
  refine gS (.take 0 (.take 1 (.take 2 (.take 3 (.take 4 (.step 5 (.take 6 (.take 7 (.take 8 (.take 9 (.take 10 (.nil)))))))))))) (fun Z => Z.cell? ⟨X, 4, none⟩ = some (.pointer (some ⟨P.M, 0, none⟩)) ∧ Blk Z Y (pcells mwq) 58) ⟨HSc.out.pr.cell rfl, HSc.out.py⟩ ?_
  refine gT (.pointer (some ⟨X, 0, none⟩)) ?_; try simp only [pS]
  refine wpG_take _ (.pointer (some ⟨X, 0, none⟩)) rfl (by rfl) (fun X hX => ex_nc rfl rfl) ?_; try simp only [pS]
  refine gT (.pointer (some ⟨X, 4, none⟩)) ?_; try simp only [pS]
  refine wpG_take _ (.pointer (some ⟨P.M, 0, none⟩)) rfl (by rfl) (fun X hX => q_ldM rfl rfl (hX.1)) ?_; try simp only [pS]
  refine wpG_take _ (.agg (pcells mwq).toArray) rfl (by rfl) (fun X hX => ex_ld (ty := 58) (cs := pcells mwq) rfl rfl (rng_all hX.2) Tryz.underlying58 rfl HZQ.out) ?_; try simp only [pS]
  refine wpG_call _ rfl (by rfl) 9 #[.pointer (some ⟨P.M, 0, none⟩), .agg (pcells mwq).toArray] (fun _ => by go_simp) (fun u w' => ∃ g5 lc', u = .tuple #[.slice (some ⟨g5, 0, none⟩) 512 512, .int .i64 0] ∧ WkS w w' lc' X P Y [some ⟨g5, 0, none⟩, sp] mx3)
    ((read_is mwq_ok HSc.out.mi mx_lim2 (by omega) mx3s mx3b mx3e).mono fun e w' hh => by
      obtain ⟨g5, lc', e1, h1, h2, hb5, hl5⟩ := hh
      have h' := (HSc.out.stp h1 h2).add hb5 hl5
      exact ⟨_, e1, ⟨h'.pr.cell rfl, h'.py⟩, g5, lc', rfl, h'⟩) ?_
  rintro u Wd hs1 ⟨g5, ld, rfl, h1⟩
  refine ⟨_, fun _ h => h, hs1, ?_⟩; try simp only [pS]
  refine gT (.tuple #[.slice (some ⟨g5, 0, none⟩) 512 512, .int .i64 0]) ?_; try simp only [pS]
  refine gT (.slice (some ⟨g5, 0, none⟩) 512 512) ?_; try simp only [pS]
  refine gT (.int .i64 0) ?_; try simp only [pS]
  refine gT (.slice (some ⟨g5, 0, none⟩) 512 512) ?_; try simp only [pS]
  refine gT (.int .i64 0) ?_; try simp only [pS]
  refine wpG_nil ?_
  have HNd := Lib.hid h1
  clear h1 hs1 HSc HNc
  have c1 := HNd.out.pr.cell (j := 1) rfl
  go_wp2_with fail
  refine (look_is mx3l (by omega) Wd (HNd.out.mi.dk 0 (by omega)) (by have := mx_lim3.c 0 (by omega); omega)).mono ?_
  rintro e We ⟨g7, rfl, hb7, hg7, hb⟩
  have HNe := Lib.hid ((HNd.out.below hb).add hb7 (HNd.out.new hg7))
  clear hb hb7 hg7 HNd c1
  have c1 := HNe.out.pr.cell (j := 1) rfl
  go_wp2_with fail
  refine (stick_any (P.D 0) P.Q _ (mx3.d 0) 2 We (by omega) (HNe.out.mi.dk 0 (by omega)) (HNe.out.mi.lt _ (by rw [HNe.out.mi.lq]; omega)) (by have := mx_lim3.c 0 (by omega); omega)).mono ?_
  rintro e Wf ⟨rfl, hf1, hf2⟩
  obtain ⟨lf, hf⟩ := HNe.out.post (HNe.out.mi.stepD (k := 0) (by omega) hf1 (HNe.out.mi.pw.chg hf2 (by show ¬ ld P.Q = 0 + 1; rw [HNe.out.mi.lq]; omega)) (hf2.mono (fun b hb => .inl hb)))
  have HNf : Hid (WkS w Wf lf X P Y [some ⟨g7, 0, none⟩, some ⟨g5, 0, none⟩, sp] mx4) := Lib.hid hf
  clear hf hf1 hf2 HNe c1
  go_upto_region 8 with fail
  have HSf := Lib.hid (HNf.out.below (Below.refl _ _).drew)
  refine gS (.take 0 (.take 1 (.take 2 (.take 3 (.take 4 (.step 5 (.take 6 (.nil)))))))) (fun Z => Z.cell? ⟨X, 4, none⟩ = some (.pointer (some ⟨P.M, 0, none⟩)) ∧ Blk Z Y (pcells mwq) 58) ⟨HSf.out.pr.cell rfl, HSf.out.py⟩ ?_
  refine gT (.pointer (some ⟨X, 0, none⟩)) ?_; try simp only [pS]
  refine wpG_take _ (.pointer (some ⟨X, 0, none⟩)) rfl (by rfl) (fun X hX => ex_nc rfl rfl) ?_; try simp only [pS]
  refine gT (.pointer (some ⟨X, 4, none⟩)) ?_; try simp only [pS]
  refine wpG_take _ (.pointer (some ⟨P.M, 0, none⟩)) rfl (by rfl) (fun X hX => q_ldM rfl rfl (hX.1)) ?_; try simp only [pS]
  refine wpG_take _ (.agg (pcells mwq).toArray) rfl (by rfl) (fun X hX => ex_ld (ty := 58) (cs := pcells mwq) rfl rfl (rng_all hX.2) Tryz.underlying58 rfl HZQ.out) ?_; try simp only [pS]
  refine wpG_call _ rfl (by rfl) 11 #[.pointer (some ⟨P.M, 0, none⟩), .agg (pcells mwq).toArray] (fun _ => by go_simp) (fun u w' => u = .int .i64 0 ∧ ∃ lf', WkS w w' lf' X P Y [some ⟨g7, 0, none⟩, some ⟨g5, 0, none⟩, sp] mx5)
    ((check_is mwq_ok HSf.out.mi mx_lim4 (by omega) mx5s mx5e).mono fun e w' hh => by
      obtain ⟨e1, lf', h1, h2⟩ := hh
      have h' := HSf.out.stp h1 h2
      exact ⟨_, e1, ⟨h'.pr.cell rfl, h'.py⟩, rfl, lf', h'⟩) ?_
  rintro u Wg hs1 ⟨rfl, lg, h1⟩
  refine ⟨_, fun _ h => h, hs1, ?_⟩; try simp only [pS]
  refine gT (.int .i64 0) ?_; try simp only [pS]
  refine wpG_nil ?_
  have HNg := Lib.hid h1
  clear h1 hs1 HSf HNf
  have c4 := HNg.out.pr.cell (j := 4) rfl
  go_wp2_with fail
  refine (moves_any8 Wg lg P mx5 HNg.out.mi (by have := mx_lim5.mv; omega)).mono ?_
  rintro e Wh ⟨v9, rfl, ho9, hb9⟩
  rw [mx5v] at ho9
  obtain ⟨g9, c9, rfl, hr9, hr9l⟩ := ownM_one mwq_ok ho9
  have HNh := Lib.hid (HNg.out.below hb9)
  have HR9 := Lib.hid hr9
  have hlt9 : g9 < Wh.heap.size := hr9l
  have c3 := HNh.out.pr.cell (j := 3) rfl
  clear ho9 hb9 hr9 hr9l HNg c4
  clear c3
  go_upto_region 10 with fail
  have HL9 : Hid (g9 < Wh.heap.size) := Lib.hid hlt9
  clear hlt9
  have HSh := Lib.hid (HNh.out.below (Below.refl _ _).drew)
  have HRh : Hid (Wh.drew.rangeAt g9 0 (pcells mwq) ∧ g9 < Wh.drew.heap.size) := Lib.hid ⟨HR9.out, HL9.out⟩
  clear HNh HR9 HL9
  refine gS (.take 0 (.take 1 (.take 2 (.take 3 (.take 4 (.take 5 (.take 6 (.take 7 (.take 8 (.take 9 (.take 10 (.take 11 (.take 12 (.take 13 (.take 14 (.take 15 (.take 16 (.take 17 (.take 18 (.take 19 (.take 20 (.take 21 (.take 22 (.take 23 (.take 24 (.take 25 (.take 26 (.take 27 (.take 28 (.take 29 (.take 30 (.take 31 (.take 32 (.take 33 (.take 34 (.take 35 (.take 36 (.take 37 (.take 38 (.take 39 (.take 40 (.step 41 (.take 42 (.take 43 (.take 44 (.take 45 (.take 46 (.take 47 (.take 49 (.step 48 (.take 50 (.take 51 (.take 52 (.take 53 (.take 54 (.take 55 (.take 56 (.step 57 (.take 58 (.take 59 (.take 60 (.take 61 (.take 62 (.take 63 (.take 64 (.step 65 (.take 66 (.take 67 (.take 68 (.nil)))))))))))))))))))))))))))))))))))))))))))))))))))))))))))))))))))))) (WkF X Y P sp g5 g7 g9) (WkF.of HSh.out HRh.out.1) ?_
  refine gT (.int .i64 0) ?_; try simp only [pS]
  refine wpG_take _ (.bool true) rfl (by rfl) (fun X hX => q_eqT Tryz.underlying67 rfl rfl rfl) ?_; try simp only [pS]
  refine gT (.bool true) ?_; try simp only [pS]
  refine gT (.int .i64 0) ?_; try simp only [pS]
  refine wpG_take _ (.bool true) rfl (by rfl) (fun X hX => q_eqT Tryz.underlying67 rfl rfl rfl) ?_; try simp only [pS]
  refine gT (.bool true) ?_; try simp only [pS]
  refine gT (.bool true) ?_; try simp only [pS]
  refine gT (.slice (some ⟨g5, 0, none⟩) 512 512) ?_; try simp only [pS]
  refine wpG_take _ (.string (bstr mwb)) rfl (by rfl) (fun X hX => q_cvs rfl mwb_len rfl hX.s5) ?_; try simp only [pS]
  refine gT (.slice sp 512 cap) ?_; try simp only [pS]
  refine wpG_take _ (.string (bstr mwb)) rfl (by rfl) (fun X hX => q_cvs rfl mwb_len rfl hX.s0) ?_; try simp only [pS]
  refine wpG_take _ (.bool true) rfl (by rfl) (fun X hX => q_eqStr rfl rfl rfl) ?_; try simp only [pS]
  refine gT (.bool true) ?_; try simp only [pS]
  refine gT (.bool true) ?_; try simp only [pS]
  refine gT (.slice (some ⟨g7, 0, none⟩) 512 512) ?_; try simp only [pS]
  refine wpG_take _ (.string (bstr mwb)) rfl (by rfl) (fun X hX => q_cvs rfl mwb_len rfl hX.s7) ?_; try simp only [pS]
  refine gT (.slice sp 512 cap) ?_; try simp only [pS]
  refine wpG_take _ (.string (bstr mwb)) rfl (by rfl) (fun X hX => q_cvs rfl mwb_len rfl hX.s0) ?_; try simp only [pS]
  refine wpG_take _ (.bool true) rfl (by rfl) (fun X hX => q_eqStr rfl rfl rfl) ?_; try simp only [pS]
  refine gT (.bool true) ?_; try simp only [pS]
  refine gT (.bool true) ?_; try simp only [pS]
  refine gT (.int .i64 0) ?_; try simp only [pS]
  refine wpG_take _ (.bool true) rfl (by rfl) (fun X hX => q_eqT Tryz.underlying67 rfl rfl rfl) ?_; try simp only [pS]
  refine gT (.bool true) ?_; try simp only [pS]
  refine gT (.bool true) ?_; try simp only [pS]
  refine gT (.slice (some ⟨g9, 0, none⟩) 1 (c9 + 1)) ?_; try simp only [pS]
  refine gT (.int .i64 1) ?_; try simp only [pS]
  refine wpG_take _ (.bool true) rfl (by rfl) (fun X hX => q_eqT Tryz.underlying3 rfl rfl rfl) ?_; try simp only [pS]
  refine gT (.bool true) ?_; try simp only [pS]
  refine gT (.bool true) ?_; try simp only [pS]
  refine gT (.slice (some ⟨g9, 0, none⟩) 1 (c9 + 1)) ?_; try simp only [pS]
  refine gT (.pointer (some ⟨g9, 0, none⟩)) ?_; try simp only [pS]
  refine wpG_take _ (.agg (pcells mwq).toArray) rfl (by rfl) (fun X hX => ex_ld (ty := 58) (cs := pcells mwq) rfl rfl hX.r9 Tryz.underlying58 rfl HZQ.out) ?_; try simp only [pS]
  refine wpG_take _ (.agg (pcells mwq).toArray) rfl (by rfl) (fun X hX => ex_ld (ty := 58) (cs := pcells mwq) rfl rfl (rng_all hX.py) Tryz.underlying58 rfl HZQ.out) ?_; try simp only [pS]
  refine wpG_take _ (.bool true) rfl (by rfl) (fun X hX => ex_eqPs rfl rfl rfl mwq_ok) ?_; try simp only [pS]
  refine gT (.bool true) ?_; try simp only [pS]
  refine gT (.bool true) ?_; try simp only [pS]
  refine gT (.pointer (some ⟨X, 0, none⟩)) ?_; try simp only [pS]
  refine wpG_take _ (.pointer (some ⟨X, 0, none⟩)) rfl (by rfl) (fun X hX => ex_nc rfl rfl) ?_; try simp only [pS]
  refine gT (.pointer (some ⟨X, 3, none⟩)) ?_; try simp only [pS]
  refine wpG_take _ (.pointer (some ⟨P.K, 0, none⟩)) rfl (by rfl) (fun X hX => q_ldK rfl rfl hX.c3) ?_; try simp only [pS]
  refine wpG_call _ rfl (by rfl) 29 #[.pointer (some ⟨P.K, 0, none⟩), .int .i64 0, .int .u16 2] (fun _ => by go_simp) (fun u w' => u = .bool true ∧ WkS w w' lg X P Y [some ⟨g7, 0, none⟩, some ⟨g5, 0, none⟩, sp] mx5 ∧ w'.rangeAt g9 0 (pcells mwq) ∧ g9 < w'.heap.size)
    ((is_any 0 P.K 2 P.B mx5.s Wh.drew HSh.out.mi.sp (by omega) (by omega)).mono fun e w' hh => by
      obtain ⟨e1, hb⟩ := hh
      rw [mx5i] at e1
      have h' := HSh.out.below hb
      have r' := rng_below HRh.out.1 hb HRh.out.2
      exact ⟨_, e1, WkF.of h' r', rfl, h', r', Nat.lt_of_lt_of_le HRh.out.2 hb.size⟩) ?_
  rintro u Wi1 hs1 ⟨rfl, h1⟩
  refine ⟨_, fun _ h => h, hs1, ?_⟩; try simp only [pS]
  have HS1 := Lib.hid h1.1
  have HR1 := Lib.hid h1.2
  refine gT (.bool true) ?_; try simp only [pS]
  refine gT (.bool true) ?_; try simp only [pS]
  refine gT (.pointer (some ⟨X, 0, none⟩)) ?_; try simp only [pS]
  refine wpG_take _ (.pointer (some ⟨X, 0, none⟩)) rfl (by rfl) (fun X hX => ex_nc rfl rfl) ?_; try simp only [pS]
  refine gT (.pointer (some ⟨X, 4, none⟩)) ?_; try simp only [pS]
  refine wpG_take _ (.pointer (some ⟨P.M, 0, none⟩)) rfl (by rfl) (fun X hX => q_ldM rfl rfl hX.c4) ?_; try simp only [pS]
  refine wpG_take _ (.agg #[.int .i64 2, .int .i64 1]) rfl (by rfl) (fun X hX => q_buildCn rfl rfl rfl) ?_; try simp only [pS]
  refine wpG_call _ rfl (by rfl) 35 #[.pointer (some ⟨P.M, 0, none⟩), .int .i64 0] (fun _ => by go_simp) (fun u w' => u = .agg #[.int .i64 2, .int .i64 1] ∧ WkS w w' lg X P Y [some ⟨g7, 0, none⟩, some ⟨g5, 0, none⟩, sp] mx5 ∧ w'.rangeAt g9 0 (pcells mwq) ∧ g9 < w'.heap.size)
    ((count0_any8 Wi1 lg P mx5 HS1.out.mi).mono fun e w' hh => by
      obtain ⟨e1, hb⟩ := hh
      rw [mx5f, mx5g] at e1
      have h' := HS1.out.below hb
      have r' := rng_below HR1.out.1 hb HR1.out.2
      exact ⟨_, e1, WkF.of h' r', rfl, h', r', Nat.lt_of_lt_of_le HR1.out.2 hb.size⟩) ?_
  rintro u Wi2 hs2 ⟨rfl, h2⟩
  refine ⟨_, fun _ h => h, hs2, ?_⟩; try simp only [pS]
  have HS2 := Lib.hid h2.1
  have HR2 := Lib.hid h2.2
  refine wpG_take _ (.bool true) rfl (by rfl) (fun X hX => q_eqCn rfl rfl rfl) ?_; try simp only [pS]
  refine gT (.bool true) ?_; try simp only [pS]
  refine gT (.bool true) ?_; try simp only [pS]
  refine gT (.pointer (some ⟨X, 0, none⟩)) ?_; try simp only [pS]
  refine wpG_take _ (.pointer (some ⟨X, 0, none⟩)) rfl (by rfl) (fun X hX => ex_nc rfl rfl) ?_; try simp only [pS]
  refine gT (.pointer (some ⟨X, 4, none⟩)) ?_; try simp only [pS]
  refine wpG_take _ (.pointer (some ⟨P.M, 0, none⟩)) rfl (by rfl) (fun X hX => q_ldM rfl rfl hX.c4) ?_; try simp only [pS]
  refine wpG_call _ rfl (by rfl) 36 #[.pointer (some ⟨P.M, 0, none⟩), .int .i64 0] (fun _ => by go_simp) (fun u w' => u = .int .u8 1 ∧ WkS w w' lg X P Y [some ⟨g7, 0, none⟩, some ⟨g5, 0, none⟩, sp] mx5 ∧ w'.rangeAt g9 0 (pcells mwq) ∧ g9 < w'.heap.size)
    ((health0_any8 Wi2 lg P mx5 HS2.out.mi).mono fun e w' hh => by
      obtain ⟨e1, e2⟩ := hh
      have hb : Below Wi2.heap.size Wi2 w' := by rw [← e2]; exact Below.refl _ _
      rw [mx5h0] at e1
      have h' := HS2.out.below hb
      have r' := rng_below HR2.out.1 hb HR2.out.2
      exact ⟨_, e1, WkF.of h' r', rfl, h', r', Nat.lt_of_lt_of_le HR2.out.2 hb.size⟩) ?_
  rintro u Wi3 hs3 ⟨rfl, h3⟩
  refine ⟨_, fun _ h => h, hs3, ?_⟩; try simp only [pS]
  have HS3 := Lib.hid h3.1
  have HR3 := Lib.hid h3.2
  refine wpG_take _ (.bool true) rfl (by rfl) (fun X hX => q_eqT Tryz.underlying5 rfl rfl rfl) ?_; try simp only [pS]
  refine gT (.bool true) ?_; try simp only [pS]
  refine gT (.bool true) ?_; try simp only [pS]
  refine gT (.pointer (some ⟨X, 0, none⟩)) ?_; try simp only [pS]
  refine wpG_take _ (.pointer (some ⟨X, 0, none⟩)) rfl (by rfl) (fun X hX => ex_nc rfl rfl) ?_; try simp only [pS]
  refine gT (.pointer (some ⟨X, 4, none⟩)) ?_; try simp only [pS]
  refine wpG_take _ (.pointer (some ⟨P.M, 0, none⟩)) rfl (by rfl) (fun X hX => q_ldM rfl rfl hX.c4) ?_; try simp only [pS]
  refine wpG_call _ rfl (by rfl) 36 #[.pointer (some ⟨P.M, 0, none⟩), .int .i64 1] (fun _ => by go_simp) (fun u w' => u = .int .u8 0 ∧ WkS w w' lg X P Y [some ⟨g7, 0, none⟩, some ⟨g5, 0, none⟩, sp] mx5 ∧ w'.rangeAt g9 0 (pcells mwq) ∧ g9 < w'.heap.size)
    ((health1_any8 Wi3 lg P mx5 HS3.out.mi).mono fun e w' hh => by
      obtain ⟨e1, e2⟩ := hh
      have hb : Below Wi3.heap.size Wi3 w' := by rw [← e2]; exact Below.refl _ _
      rw [mx5h1] at e1
      have h' := HS3.out.below hb
      have r' := rng_below HR3.out.1 hb HR3.out.2
      exact ⟨_, e1, WkF.of h' r', rfl, h', r', Nat.lt_of_lt_of_le HR3.out.2 hb.size⟩) ?_
  rintro u Wi4 hs4 ⟨rfl, h4⟩
  refine ⟨_, fun _ h => h, hs4, ?_⟩; try simp only [pS]
  have HS4 := Lib.hid h4.1
  have HR4 := Lib.hid h4.2
  refine wpG_take _ (.bool true) rfl (by rfl) (fun X hX => q_eqT Tryz.underlying5 rfl rfl rfl) ?_; try simp only [pS]
  refine gT (.bool true) ?_; try simp only [pS]
  refine gT (.bool true) ?_; try simp only [pS]
  refine wpG_nil ?_
  have HEND := Lib.hid h4.1.bel
  clear h1 h2 h3 h4 hs1 hs2 hs3 hs4
  go_wp2_with fail
  go_ret
  exact ⟨rfl, HEND.out⟩
end Go.Proofs.YtmgagalhpkieoaaGreatDoor
