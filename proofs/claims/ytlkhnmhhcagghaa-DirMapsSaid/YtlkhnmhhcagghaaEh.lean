/- Entries: one that is read; Take. -/
import Derived.Test.YtlkhnmhhcagghaaEg
namespace Go.Proofs.Ytlkhnmhhcagghaa
open Go.RowKit

attribute [local go_sem] Oper.semAt_some

def un (b : List (BitVec 8)) : List UInt8 := b.map (fun x => UInt8.ofNat x.toNat)
theorem un_str (b : List (BitVec 8)) : bstr b = str (un b) := rfl
theorem un_length (b : List (BitVec 8)) : (un b).length = b.length := by simp [un]
def tkE (l : List (BitVec 8)) (e : Nat) : Ent × List (BitVec 8) × Nat :=
  (⟨un (nextRes (nextRes l e 1).2.1 (nextRes l e 1).2.2 (val (nextRes l e 1).1 : Int)).1,
    val (nextRes (nextRes (nextRes l e 1).2.1 (nextRes l e 1).2.2 (val (nextRes l e 1).1 : Int)).2.1 (nextRes (nextRes l e 1).2.1 (nextRes l e 1).2.2 (val (nextRes l e 1).1 : Int)).2.2 2).1,
    val (nextRes (nextRes (nextRes (nextRes l e 1).2.1 (nextRes l e 1).2.2 (val (nextRes l e 1).1 : Int)).2.1 (nextRes (nextRes l e 1).2.1 (nextRes l e 1).2.2 (val (nextRes l e 1).1 : Int)).2.2 2).2.1 (nextRes (nextRes (nextRes l e 1).2.1 (nextRes l e 1).2.2 (val (nextRes l e 1).1 : Int)).2.1 (nextRes (nextRes l e 1).2.1 (nextRes l e 1).2.2 (val (nextRes l e 1).1 : Int)).2.2 2).2.2 1).1⟩,
   (nextRes (nextRes (nextRes (nextRes l e 1).2.1 (nextRes l e 1).2.2 (val (nextRes l e 1).1 : Int)).2.1 (nextRes (nextRes l e 1).2.1 (nextRes l e 1).2.2 (val (nextRes l e 1).1 : Int)).2.2 2).2.1 (nextRes (nextRes (nextRes l e 1).2.1 (nextRes l e 1).2.2 (val (nextRes l e 1).1 : Int)).2.1 (nextRes (nextRes l e 1).2.1 (nextRes l e 1).2.2 (val (nextRes l e 1).1 : Int)).2.2 2).2.2 1).2)
theorem butFor_out {H g : Nat} {w W : World} (h : ButFor H w W) (hg : w.heap.size ≤ g) (o : Nat) (v : Value) : ButFor H w (W.setCell ⟨g, o, none⟩ v) :=
  have hc := chg1 W g o v
  ⟨hc.os.trans h.os, hc.tape.trans h.tape, hc.output.trans h.output, Nat.le_trans h.size hc.size, fun k hk hne => (hc.block k (Nat.lt_of_lt_of_le hk h.size) (by omega)).trans (h.block k hk hne)⟩
theorem butForE_row (w : World) (g : Nat) (cs : Array Value) : ButFor g w (w.setRow g cs) := ⟨rfl, rfl, rfl, by simp, fun k _ hk => setRow_other w g k cs hk⟩
theorem butFor_outR {H g : Nat} {w W : World} (h : ButFor H w W) (hg : w.heap.size ≤ g) (cs : Array Value) : ButFor H w (W.setRow g cs) :=
  have hc := butForE_row W g cs
  ⟨hc.os.trans h.os, hc.tape.trans h.tape, hc.output.trans h.output, Nat.le_trans h.size hc.size, fun k hk hne => (hc.block k (Nat.lt_of_lt_of_le hk h.size) (by omega)).trans (h.block k hk hne)⟩
section
variable {ρ : Operand → Value} {o : Oper} {x y : Operand} {w : World}
theorem ex_strB {sp : Option Addr} {n cap : Nat} {b : List (BitVec 8)} (hs : SrcA w sp b) (hn : b.length = n) (ho : o.op = .convert 23 9 x) (hx : ρ x = .slice sp n cap) : (execOp ρ o).run Try.prog w = .ok (.value (.string (str (un b)))) w := by
  subst hn
  have := conv_str (cap := cap) hs
  unfold execOp
  simp only [ho]
  simp only [hx, Sem.run_bind, this, Result.andThen_ok, Sem.run_pure]
  rfl
end
def TkPost (H : Nat) (K : Nat → Prop) (l : List (BitVec 8)) (e : Nat) (w : World) (x : Ending) (w' : World) : Prop :=
  x = .returned (.agg (ecells (tkE l e).1).toArray) ∧ RdAt w' H K (tkE l e).2.1 (tkE l e).2.2 ∧ ButFor H w w'
set_option maxRecDepth 100000 in
set_option maxHeartbeats 8000000 in
theorem enTakeE_any (H : Nat) (l : List (BitVec 8)) (e : Nat) (w : World) {K : Nat → Prop} (hl : l.length ≤ 100000) (hR : RdAt w H K l e) (hK : ∀ g, w.heap.size ≤ g → ¬ K g) :
    Calls Try.prog 26 #[.pointer (some ⟨H, 0, none⟩)] w (TkPost H K l e w) := by
  have hHlt := hR.lt
  obtain ⟨Z, hZ⟩ : ∃ Z : Array Value, #[Value.string ⟨#[]⟩, .int .u16 0, .int .u8 0] = Z := ⟨_, rfl⟩
  have hb1 : Below w.heap.size w ((w.alloc (.cells Z 46)).alloc (.cells Z 46)) := ((Below.refl _ _).alloc (Nat.le_refl _) _).alloc (by simp) _
  have hk2 : Blk ((w.alloc (.cells Z 46)).alloc (.cells Z 46)) w.heap.size (ecells zeroEnt) 46 := (Blk.new' _ _ _ _ _ rfl (by rw [← hZ]; rfl)).alloc _
  have hk3 : Blk ((w.alloc (.cells Z 46)).alloc (.cells Z 46)) (w.heap.size + 1) (ecells zeroEnt) 46 := Blk.new' _ _ _ _ _ (by simp) (by rw [← hZ]; rfl)
  have hR1 := hR.below hb1 (Nat.le_refl _)
  obtain ⟨W1, hW1⟩ : ∃ W, (w.alloc (.cells Z 46)).alloc (.cells Z 46) = W := ⟨_, rfl⟩
  obtain ⟨g2, hg2⟩ : ∃ g, w.heap.size = g := ⟨_, rfl⟩
  obtain ⟨g3, hg3⟩ : ∃ g, g2 + 1 = g := ⟨_, rfl⟩
  rw [hW1] at hb1 hk2 hk3 hR1
  rw [hg2] at hk2 hk3
  rw [hg3] at hk3
  have HK2 := Lib.hid hk2; have HK3 := Lib.hid hk3; have HR1 := Lib.hid hR1; have HB1 := Lib.hid hb1; have HW1 := Lib.hid hW1; have HG2 := Lib.hid hg2; have HG3 := Lib.hid hg3; have HZ := Lib.hid hZ
  have HN2 : Hid (H ≠ g2 ∧ H ≠ g3 ∧ g2 ≠ g3 ∧ ¬ K g2 ∧ ¬ K g3 ∧ w.heap.size ≤ g2 ∧ w.heap.size ≤ g3) := Lib.hid ⟨by omega, by omega, by omega, hK g2 (by omega), hK g3 (by omega), by omega, by omega⟩
  have HL := Lib.hid hl
  generalize hPost : TkPost H K l e w = Post
  have HP : Hid (∀ w', RdAt w' H K (tkE l e).2.1 (tkE l e).2.2 → ButFor H w w' → Post (.returned (.agg (ecells (tkE l e).1).toArray)) w') := Lib.hid fun w' h1 h2 => by rw [← hPost]; exact ⟨rfl, h1, h2⟩
  unfold tkE at HP
  obtain ⟨a, l1, e1, ha⟩ : ∃ a l1 e1, nextRes l e 1 = (a, l1, e1) := ⟨_, _, _, rfl⟩
  rw [ha] at HP
  obtain ⟨n, hn⟩ : ∃ n, val a = n := ⟨_, rfl⟩
  have ha1 : a.length ≤ 1 := by have := nextRes_len l e 1; rw [show ((1 : Nat) : Int) = 1 from rfl, ha] at this; exact this
  have hn256 : n < 256 := by
    rw [← hn]
    have := val_lt a
    have h2 : 2 ^ (8 * a.length) ≤ 2 ^ (8 * 1) := Nat.pow_le_pow_right (by omega) (by omega)
    omega
  have hl1 : l1.length ≤ 100000 := by
    have := congrArg (fun r => r.2.1.length) ha
    simp only at this
    rw [← this]
    unfold nextRes
    split
    · exact hl
    · split
      · exact hl
      · simp; omega
  obtain ⟨b, l2, e2, hb⟩ : ∃ b l2 e2, nextRes l1 e1 (n : Int) = (b, l2, e2) := ⟨_, _, _, rfl⟩
  obtain ⟨c, l3, e3, hc⟩ : ∃ c l3 e3, nextRes l2 e2 2 = (c, l3, e3) := ⟨_, _, _, rfl⟩
  obtain ⟨d, l4, e4, hd⟩ : ∃ d l4 e4, nextRes l3 e3 1 = (d, l4, e4) := ⟨_, _, _, rfl⟩
  simp only [hn, hb, hc, hd] at HP
  have HA := Lib.hid ha; have HN := Lib.hid hn; have HBB := Lib.hid hb; have HCC := Lib.hid hc; have HDD := Lib.hid hd; have HL1 := Lib.hid hl1
  have wn := IntWalk.i64_in (n : Int) (by omega)
  clear hl hR hK hHlt hb1 hk2 hk3 hR1 hW1 hg2 hg3 hPost ha hn ha1 hn256 hb hc hd hl1 hZ
  go_enter Try.func26, Try.ntmps26
  go_upto_region 2 with fail
  rw [HZ.out, HW1.out, HG2.out, HG3.out]
  go_wp2_with fail
  refine (ru8_any H l e W1 HR1.out).mono ?_
  rintro x W2 ⟨rfl, hr2, hbf2⟩
  rw [HA.out] at hr2 ⊢
  rw [HN.out]
  have HK22 := Lib.hid (hbf2.blk HK2.out (Ne.symm HN2.out.1)); have HK32 := Lib.hid (hbf2.blk HK3.out (Ne.symm HN2.out.2.1))
  have HR2 := Lib.hid hr2; have HBF2 : Hid (ButFor H w W2) := Lib.hid ((ButFor.of_below HB1.out).trans hbf2)
  clear hr2 hbf2 HK2 HK3 HR1
  go_wp2_with fail
  refine (raw_any H l1 e1 (n : Int) W2 HL1.out HR2.out).mono ?_
  rintro x W3 ⟨v, rfl, hov, hr3, hbf3⟩
  rw [HBB.out] at hov hr3
  obtain ⟨spv, capv, rfl, -, -, hsv, -, -⟩ := hov.form
  have HK23 := Lib.hid (hbf3.blk HK22.out (Ne.symm HN2.out.1)); have HK33 := Lib.hid (hbf3.blk HK32.out (Ne.symm HN2.out.2.1))
  have HR3 := Lib.hid hr3; have HBF3 : Hid (ButFor H w W3) := Lib.hid (HBF2.out.trans hbf3); have HSV := Lib.hid hsv
  clear hov hr3 hbf3 hsv HK22 HK32 HR2 HBF2
  have c0 : W3.cell? ⟨g3, 0, none⟩ = some (.string (str zeroEnt.n)) := HK33.out.cell (j := 0) rfl
  have fz := HK33.out.free 0
  go_upto_region 3 with (first | (refine e_val rfl (ex_strB HSV.out rfl rfl rfl) ?_) | fail)
  have hr4 := HR3.out.other (J := g3) ((ButFor.refl g3 W3).set 0 (.string (str (un b)))) HN2.out.2.1 HN2.out.2.2.2.2.1
  have HK34 := Lib.hid (HK33.out.set 0 (.string (str (un b))))
  have HK24 := Lib.hid (HK23.out.other (a := ⟨g3, 0, none⟩) HN2.out.2.2.1 (.string (str (un b))))
  have HBF4 := Lib.hid (butFor_out HBF3.out HN2.out.2.2.2.2.2.2 0 (.string (str (un b))))
  obtain ⟨W4, hW4⟩ : ∃ W, W3.setCell ⟨g3, 0, none⟩ (.string (str (un b))) = W := ⟨_, rfl⟩
  rw [hW4] at hr4 HK34 HK24 HBF4 ⊢
  have HR4 := Lib.hid hr4
  clear hr4 hW4 c0 fz HK33 HK23 HBF3 HR3 HSV
  go_wp2_with fail
  refine (ru16_any H l2 e2 W4 HR4.out).mono ?_
  rintro x W5 ⟨rfl, hr5, hbf5⟩
  rw [HCC.out] at hr5 ⊢
  have HK25 := Lib.hid (hbf5.blk HK24.out (Ne.symm HN2.out.1)); have HK35 := Lib.hid (hbf5.blk HK34.out (Ne.symm HN2.out.2.1))
  have HR5 := Lib.hid hr5; have HBF5 : Hid (ButFor H w W5) := Lib.hid (HBF4.out.trans hbf5)
  clear hr5 hbf5 HK24 HK34 HR4 HBF4
  go_wp2_with fail
  refine (ru8_any H l3 e3 W5 HR5.out).mono ?_
  rintro x W6 ⟨rfl, hr6, hbf6⟩
  rw [HDD.out] at hr6 ⊢
  have HK26 := Lib.hid (hbf6.blk HK25.out (Ne.symm HN2.out.1)); have HK36 := Lib.hid (hbf6.blk HK35.out (Ne.symm HN2.out.2.1))
  have HBF6 : Hid (ButFor H w W6) := Lib.hid (HBF5.out.trans hbf6)
  have hbg : ButFor g3 W6 ((W6.setCell ⟨g3, 1, none⟩ (.int .u16 (val c : Int))).setCell ⟨g3, 2, none⟩ (.int .u8 (val d : Int))) := ((ButFor.refl g3 W6).set 1 _).set 2 _
  have hr8 := hr6.other (J := g3) hbg HN2.out.2.1 HN2.out.2.2.2.2.1
  have hk38 := (HK36.out.set 1 (.int .u16 (val c : Int))).set 2 (.int .u8 (val d : Int))
  have hk28 := hbg.blk HK26.out HN2.out.2.2.1
  have hbf8 := butFor_out (butFor_out HBF6.out HN2.out.2.2.2.2.2.2 1 (.int .u16 (val c : Int))) HN2.out.2.2.2.2.2.2 2 (.int .u8 (val d : Int))
  have c1 : W6.cell? ⟨g3, 1, none⟩ = some (.int .u16 0) := HK36.out.cell (j := 1) rfl
  have c2 := (HK36.out.set 1 (.int .u16 (val c : Int))).has 2 (by simp)
  have c3 : W6.cell? ⟨g3, 2, none⟩ = some (.int .u8 0) := HK36.out.cell (j := 2) rfl
  have fz1 := HK36.out.free 1
  have fz3 := HK36.out.free 2
  have fz2 := (HK36.out.set 1 (.int .u16 (val c : Int))).free 2
  clear hr6 hbf6 hbg HK25 HK35 HR5 HBF5
  go_upto_region 4 with fail
  obtain ⟨W8, hW8⟩ : ∃ W, (W6.setCell ⟨g3, 1, none⟩ (.int .u16 (val c : Int))).setCell ⟨g3, 2, none⟩ (.int .u8 (val d : Int)) = W := ⟨_, rfl⟩
  rw [hW8] at hr8 hk38 hk28 hbf8 ⊢
  clear c1 c2 c3 fz1 fz2 fz3 hW8
  have hk38' : Blk W8 g3 (ecells ⟨un b, val c, val d⟩) 46 := hk38
  have HRNG : Hid (W8.rangeAt g3 0 (ecells ⟨un b, val c, val d⟩)) := Lib.hid (fun j v hv => by rw [Nat.zero_add]; exact hk38'.cell hv)
  have HK28 := Lib.hid hk28
  have hkf := blk_row (new := ecells ⟨un b, val c, val d⟩) hk28
  have hrf : RdAt (W8.setRow g2 (ecells ⟨un b, val c, val d⟩).toArray) H K l4 e4 := hr8.other (J := g2) (butForE_row _ _ _) HN2.out.1 HN2.out.2.2.2.1
  have hbff : ButFor H w (W8.setRow g2 (ecells ⟨un b, val c, val d⟩).toArray) := butFor_outR hbf8 HN2.out.2.2.2.2.2.1 _
  have HFIN : Hid (_ ∧ _ ∧ _) := Lib.hid ⟨hkf, hrf, hbff⟩
  have q0 := hk38'.cell (j := 0) rfl
  have q1 := hk38'.cell (j := 1) rfl
  have q2 := hk38'.cell (j := 2) rfl
  clear hr8 hk38 hk38' hk28 hbf8 hkf hrf hbff
  go_wp2_with (first | (refine e_val rfl (ex_ldE HRNG.out rfl rfl) ?_) | (refine wpList_store_row rfl 46 (.tmp 2) (.tmp 17) rfl g2 (ecells ⟨un b, val c, val d⟩).toArray rfl rfl 46 _ HK28.out (sizeEc _) rfl (all_ec _) ?_) | fail)
  obtain ⟨hkf, hrf, hbff⟩ := HFIN.out
  generalize W8.setRow g2 (ecells ⟨un b, val c, val d⟩).toArray = W9 at hkf hrf hbff ⊢
  have C0 := hkf.cell (j := 0) rfl
  have C1 := hkf.cell (j := 1) rfl
  have C2 := hkf.cell (j := 2) rfl
  have HQ := Lib.hid (HP.out W9 hrf hbff)
  clear hkf hrf hbff
  first | exact HQ.out | exact bodyPost_ret (v := .agg (ecells ⟨un b, val c, val d⟩).toArray) (by simp [results, Try.f26, go_sem, C0, C1, C2]) rfl HQ.out
end Go.Proofs.Ytlkhnmhhcagghaa
