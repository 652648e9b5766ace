/- The document's mirror: does a block fit; is a copy good. -/
import Derived.Test.YtmgagalhpkieoaaGreatDoorM42
import Derived.Test.YtmgagalhpkieoaaGreatDoorM37
import Derived.Test.YtmgagalhpkieoaaGreatDoorM27
import Derived.Test.YtmgagalhpkieoaaGreatDoorM38
import Derived.Lib.ConvBytes
namespace Go.Proofs.YtmgagalhpkieoaaGreatDoor
open Go.RowKit

theorem w_conv (A : d_Bs) (W : World) : (convert 9 59 (.string (bstr A))).run Tryz.prog W = .ok (.slice (some ⟨W.heap.size, 0, none⟩) A.length (grownCap W A.length 0 5)) (Lib.bytesWorld W 5 (bstr A)) := by
  have := Lib.run_convert_string_bytes (P := Tryz.prog) W 9 59 5 (bstr A) Tryz.underlying9 Tryz.underlying59 Tryz.underlying5
  rw [bstr_size] at this
  exact this
theorem w_bytes_below (W : World) (s : ByteArray) : Below W.heap.size W (Lib.bytesWorld W 5 s) := by
  refine ⟨?_, ?_, ?_, by rw [Lib.bytesWorld_size]; omega, fun k hk => Lib.bytesWorld_at_old W 5 s k hk⟩ <;> rfl
theorem w_bytes_src (A : d_Bs) (W : World) : SrcA (Lib.bytesWorld W 5 (bstr A)) (some ⟨W.heap.size, 0, none⟩) A := fun _ => by
  refine ⟨W.heap.size, 0, rfl, by rw [Lib.bytesWorld_size]; omega, fun j hj => ?_⟩
  rw [Nat.zero_add, Lib.bytesWorld_cell W 5 (bstr A) j (by rw [bstr_size]; exact hj)]
  rw [← u8v]
  simp [bstr, List.getD_eq_getElem?_getD, List.getElem?_map, hj]
section
variable {ρ : Operand → Value} {o : Oper} {x y : Operand} {w : World}
theorem ex_scv {A : d_Bs} {n : Nat} (ho : o.op = .convert 9 59 x) (hx : ρ x = .string (bstr A)) (hn : A.length = n) : (execOp ρ o).run Tryz.prog w = .ok (.value (.slice (some ⟨w.heap.size, 0, none⟩) n (grownCap w n 0 5))) (Lib.bytesWorld w 5 (bstr A)) := by
  subst hn
  unfold execOp
  simp only [ho, hx, Sem.run_bind, w_conv, Result.andThen_ok, Sem.run_pure]
theorem w_eqH {a b : d_Bs} (ho : o.op = .binOp .eql 55 x y 55) (hx : ρ x = .agg (a.map V8).toArray) (hy : ρ y = .agg (b.map V8).toArray) (ha : a.length = 32) (hb : b.length = 32) : (execOp ρ o).run Tryz.prog w = .ok (.value (.bool (decide (a = b)))) w := by
  have h := eq_hash ha hb 9998 w
  unfold execOp
  simp only [ho]
  go_simp
end
structure WfS (p : Pt) (w X : World) : Prop where
  b : Blk X w.heap.size (pcells p) 58
  bel : Below w.heap.size w X
theorem WfS.below {p : Pt} {w X Y : World} (h : WfS p w X) (hb : Below X.heap.size X Y) : WfS p w Y := ⟨h.b.below hb h.b.lt, h.bel.trans (hb.mono h.bel.size)⟩
theorem WfS.drew {p : Pt} {w X : World} (h : WfS p w X) : WfS p w X.drew := h.below (Below.refl _ _).drew
set_option maxRecDepth 100000 in
set_option maxHeartbeats 8000000 in
theorem wfits_any (p : Pt) (hp : p.OK) (b : d_Bs) (hb : b.length < 1000000) (w : World) :
    Calls Tryz.prog 50 #[.agg (pcells p).toArray, .string (bstr b)] w fun e w' => e = .returned (.bool (fitsP p b)) ∧ Below w.heap.size w w' := by
  have HP := Lib.hid hp
  have HW : Hid (WfS p w (w.alloc (.cells (pcells p).toArray 58))) := Lib.hid ⟨Blk.new _ _ _, (Below.refl _ _).alloc (Nat.le_refl _) _⟩
  obtain ⟨L, hL⟩ : ∃ L, b.length = L := ⟨_, rfl⟩
  have HL := Lib.hid hL
  have hsz : (bstr b).size = L := by rw [bstr_size]; exact hL
  obtain ⟨s, hs⟩ : ∃ s, bstr b = s := ⟨_, rfl⟩
  have HS := Lib.hid hs
  rw [hs] at hsz ⊢
  rw [hL] at hb
  obtain ⟨f, hf⟩ : ∃ f, fitsP p b = f := ⟨_, rfl⟩
  have HF := Lib.hid hf
  rw [hf]
  clear hp hL hs hf
  go_enter Tryz.func50, Tryz.ntmps50
  go_upto_region 1 with fail
  generalize (w.alloc (.cells (pcells p).toArray 58)) = W at HW ⊢
  by_cases h5 : L = 512
  · subst h5
    have HD : Hid (decide ((s.size : Int) = 512) = true) := Lib.hid (decide_eq_true (by omega))
    have HFQ : Hid (f = decide (digest (tagB p ++ b) = p.hash)) := Lib.hid (by rw [← HF.out]; unfold fitsP; rw [decide_eq_true HL.out]; rfl)
    clear hsz
    refine gS (.take 0 (.take 1 (.take 2 (.take 3 (.take 4 (.take 5 (.take 8 (.take 9 (.step 6 (.step 7 (.take 10 (.take 11 (.take 12 (.nil)))))))))))))) (WfS p w) HW.out.drew ?_
    refine gT (.string s) ?_; try simp only [pS]
    refine gT (.int .i64 (s.size : Int)) ?_; try simp only [pS]
    refine wpG_take _ (.bool true) rfl (by rfl) (fun X hX => by rw [← HD.out]; exact ex_eqi Tryz.underlying3 rfl rfl rfl) ?_; try simp only [pS]
    refine gT (.bool true) ?_; try simp only [pS]
    refine wpG_take _ (.agg (pcells p).toArray) rfl (by rfl) (fun X hX => ex_ldPq HP.out hX.b rfl rfl) ?_; try simp only [pS]
    refine gT (.string s) ?_; try simp only [pS]
    refine wpG_take _ (.pointer (some ⟨w.heap.size, 5, none⟩)) rfl (by rfl) (fun X hX => ex_faP 5 5 (by omega) rfl rfl) ?_; try simp only [pS]
    refine wpG_take _ (.agg (p.hash.map V8).toArray) rfl (by rfl) (fun X hX => ex_ld (ty := 55) (cs := p.hash.map V8) rfl rfl (rng_hash hX.b) Tryz.underlying55 rfl (by rw [sizeA32, List.length_map, HP.out.hash])) ?_; try simp only [pS]
    refine wpG_mk _ rfl (by rfl) (.slice (some ⟨W.drew.heap.size, 0, none⟩) 512 (grownCap W.drew 512 0 5)) (Lib.bytesWorld W.drew 5 (bstr b)) (ex_scv rfl (congrArg Value.string HS.out.symm) HL.out) (fun X => WfS p w X ∧ SrcA X (some ⟨W.drew.heap.size, 0, none⟩) b) ⟨HW.out.drew.below (w_bytes_below W.drew (bstr b)), w_bytes_src b W.drew⟩ (fun _ h => h.1) ?_; try simp only [pS]
    have hd := qdigest_any p HP.out b (some ⟨W.drew.heap.size, 0, none⟩) (grownCap W.drew 512 0 5) (Lib.bytesWorld W.drew 5 (bstr b)) (by rw [HL.out]; omega) (fun h => by cases h) (w_bytes_src b W.drew)
    rw [HL.out] at hd
    refine wpG_call _ rfl (by rfl) 41 #[.agg (pcells p).toArray, .slice (some ⟨W.drew.heap.size, 0, none⟩) 512 (grownCap W.drew 512 0 5)] (fun _ => by go_simp) (fun u _ => u = .agg ((digest (tagB p ++ b)).map V8).toArray) (hd.mono fun e w' ⟨e1, e2⟩ => ⟨_, e1, ⟨(HW.out.drew.below (w_bytes_below W.drew (bstr b))).below e2, (w_bytes_src b W.drew).grown e2⟩, rfl⟩) ?_
    rintro u W6 hs6 rfl
    refine ⟨_, fun _ h => h, hs6, ?_⟩; try simp only [pS]
    refine wpG_take _ (.bool f) rfl (by rfl) (fun X hX => by rw [HFQ.out]; exact w_eqH rfl rfl rfl (digest_length _) HP.out.hash) ?_; try simp only [pS]
    refine gT (.bool f) ?_; try simp only [pS]
    refine gT (.bool f) ?_; try simp only [pS]
    refine wpG_nil ?_
    have HZ := Lib.hid hs6.1.bel
    clear hs6 hd
    go_wp2_with fail
    go_ret
    exact ⟨rfl, HZ.out⟩
  · have HD : Hid (decide ((s.size : Int) = 512) = false) := Lib.hid (decide_eq_false (by omega))
    have HFQ : Hid (f = false) := Lib.hid (by rw [← HF.out]; unfold fitsP; rw [decide_eq_false (by rw [HL.out]; exact h5)]; rfl)
    obtain rfl := HFQ.out
    clear h5 hsz
    refine gS (.take 0 (.take 1 (.take 2 (.take 3 (.take 4 (.take 5 (.take 6 (.take 8 (.take 9 (.step 7 (.take 10 (.take 11 (.take 12 (.nil)))))))))))))) (WfS p w) HW.out.drew ?_
    refine gT (.string s) ?_; try simp only [pS]
    refine gT (.int .i64 (s.size : Int)) ?_; try simp only [pS]
    refine wpG_take _ (.bool false) rfl (by rfl) (fun X hX => by rw [← HD.out]; exact ex_eqi Tryz.underlying3 rfl rfl rfl) ?_; try simp only [pS]
    refine gT (.bool false) ?_; try simp only [pS]
    refine wpG_pass _ rfl (by rfl) ?_; try simp only [pS]
    refine wpG_pass _ rfl (by rfl) ?_; try simp only [pS]
    refine wpG_pass _ rfl (by rfl) ?_; try simp only [pS]
    refine wpG_pass _ rfl (by rfl) ?_; try simp only [pS]
    refine wpG_pass _ rfl (by rfl) ?_; try simp only [pS]
    refine wpG_skip _ rfl (by rfl) HW.out.drew ?_; try simp only [pS]
    refine wpG_pass _ rfl (by rfl) ?_; try simp only [pS]
    refine gT (.bool false) ?_; try simp only [pS]
    refine gT (.bool false) ?_; try simp only [pS]
    refine wpG_nil ?_
    go_wp2_with fail
    go_ret
    exact ⟨rfl, HW.out.drew.bel⟩
theorem w_isAggP {t e : TypeId} (h : Tryz.prog.underlying t = some (.pointer e)) (W : World) : (isAgg t).run Tryz.prog W = .ok false W := by
  unfold isAgg
  rw [Sem.run_bind, run_underlying h W]; rfl
theorem w_ldP {ρ : Operand → Value} {o : Oper} {x : Operand} {ad : Addr} {v : Value} {w : World} {ty e : TypeId} (hu : Tryz.prog.underlying ty = some (.pointer e)) (ho : o.op = .load ty x) (hx : ρ x = .pointer (some ad)) (hc : w.cell? ad = some v) : (execOp ρ o).run Tryz.prog w = .ok (.value v) w := by
  have h := w_isAggP hu w
  unfold execOp
  simp only [ho]
  go_simp
structure WgW (w : World) (lab : Nat → Nat) (V : Rl) (y : Wi) (p : Pt) (c : Cpy) (Z : World) : Prop where
  pt : Blk Z w.heap.size (pcells p) 58
  cp : Blk Z (w.heap.size + 1) (plc c) 121
  m : WmAt Z lab V y
  bel : Below w.heap.size w Z
theorem WgW.below {w : World} {lab : Nat → Nat} {V : Rl} {y : Wi} {p : Pt} {c : Cpy} {Z Z' : World} (h : WgW w lab V y p c Z) (hb : Below Z.heap.size Z Z') : WgW w lab V y p c Z' := ⟨h.pt.below hb h.pt.lt, h.cp.below hb h.cp.lt, h.m.below hb, h.bel.trans (hb.mono h.bel.size)⟩
theorem WgW.drew {w : World} {lab : Nat → Nat} {V : Rl} {y : Wi} {p : Pt} {c : Cpy} {Z : World} (h : WgW w lab V y p c Z) : WgW w lab V y p c Z.drew := h.below (Below.refl _ _).drew
def Gdd (y : Wi) (p : Pt) (c : Cpy) (e : Ending) : Prop := ∃ b : d_Bs, e = .returned (.tuple #[.string (bstr b), .bool (gd kinR y p c).isSome]) ∧ ∀ b', gd kinR y p c = some b' → b = b'
set_option maxRecDepth 100000 in
set_option maxHeartbeats 8000000 in
theorem wgood_any (p : Pt) (hp : p.OK) (c : Cpy) (hc : c.1 < 2 ∧ 0 < c.2 ∧ c.2 < 65536) (w : World) (lab : Nat → Nat) (V : Rl) (y : Wi) (n : Nat) (h : WmAt w lab V y) (hb : Bw y n) (hn : n < 900) :
    Calls Tryz.prog 47 #[.pointer (some ⟨V.M, 0, none⟩), .agg (pcells p).toArray, .agg (plc c).toArray] w fun e w' => Gdd y p c e ∧ Below w.heap.size w w' := by
  obtain ⟨j, a⟩ := c
  obtain ⟨hj, h0, ha⟩ := hc
  have HP := Lib.hid hp
  have HJ := Lib.hid hj
  have HBD := Lib.hid (hb.d j hj)
  have hsm := ((hb.d j hj).room (by omega)).small
  have HSM := Lib.hid hsm
  have HW : Hid (WgW w lab V y p (j, a) ((w.alloc (.cells (pcells p).toArray 58)).alloc (.cells (plc (j, a)).toArray 121))) := Lib.hid ⟨(Blk.new _ _ _).alloc _, by have := Blk.new (w.alloc (.cells (pcells p).toArray 58)) (plc (j, a)) 121; simpa using this, (h.below ((Below.refl _ _).alloc (Nat.le_refl _) _)).below ((Below.refl _ _).alloc (Nat.le_refl _) _), ((Below.refl _ _).alloc (Nat.le_refl _) _).alloc (by simp) _⟩
  have h0q : (0 : Int) ≤ (j : Int) := by omega
  have hq2 : (j : Int) < 2 := by omega
  have HA := Lib.hid ha
  clear hp h hb hn hsm hj h0 ha
  have EQ : Hid (gd kinR y p (j, a) = if rreadE (y.d j) y.p a = 0 then (if fitsP p (rreadB (y.d j) y.p a) then some (rreadB (y.d j) y.p a) else none) else none) := Lib.hid (by
    unfold gd kinR
    simp only
    by_cases e : rreadE (y.d j) y.p a = 0
    · rw [if_pos e, if_pos e]
    · rw [if_neg e, if_neg e])
  go_enter Tryz.func47, Tryz.ntmps47
  go_upto_region 1 with fail
  generalize ((w.alloc (.cells (pcells p).toArray 58)).alloc (.cells _ 121)) = W at HW ⊢
  refine gS (.take 0 (.take 1 (.take 2 (.take 3 (.take 4 (.take 5 (.take 6 (.take 7 (.take 8 (.step 9 (.take 10 (.take 11 (.take 12 (.take 13 (.take 14 (.nil)))))))))))))))) (WgW w lab V y p (j, a)) HW.out.drew ?_
  refine gT (.pointer (some ⟨V.M, 0, none⟩)) ?_; try simp only [pS]
  refine gT (.pointer (some ⟨w.heap.size + 1, 0, none⟩)) ?_; try simp only [pS]
  refine wpG_take _ (.int .i64 (j : Int)) rfl (by rfl) (fun X hX => ex_ld1 Tryz.underlying3 rfl rfl (hX.cp.cell rfl)) ?_; try simp only [pS]
  refine gT (.pointer (some ⟨V.M, 0, none⟩)) ?_; try simp only [pS]
  refine gT (.pointer (some ⟨V.M, 0, none⟩)) ?_; try simp only [pS]
  refine gT (.pointer (some ⟨V.M, j, none⟩)) ?_; try simp only [pS]
  refine wpG_take _ (.pointer (some ⟨V.D j, 0, none⟩)) rfl (by rfl) (fun X hX => w_ldP Tryz.underlying38 rfl rfl (hX.m.cell.1 j HJ.out)) ?_; try simp only [pS]
  refine gT (.pointer (some ⟨w.heap.size + 1, 1, none⟩)) ?_; try simp only [pS]
  refine wpG_take _ (.int .u16 (a : Int)) rfl (by rfl) (fun X hX => ex_ld1 Tryz.underlying52 rfl rfl (hX.cp.cell rfl)) ?_; try simp only [pS]
  have hrd := rread_any (V.D j) V.q (fun b => lab b = j + 1) (y.d j) y.p a HA.out W.drew (HW.out.drew.m.dk j HJ.out) HW.out.drew.m.pw HSM.out
  refine wpG_call _ rfl (by rfl) 87 #[.pointer (some ⟨V.D j, 0, none⟩), .int .u16 (a : Int)] (fun _ => by go_simp) (fun u _ => u = .tuple #[.string (bstr (rreadB (y.d j) y.p a)), .int .i64 (rreadE (y.d j) y.p a)]) (hrd.mono fun e w' ⟨e1, e2⟩ => ⟨_, e1, HW.out.drew.below e2, rfl⟩) ?_
  rintro u W6 hs6 rfl
  refine ⟨_, fun _ h => h, hs6, ?_⟩; try simp only [pS]
  refine gT (.tuple #[.string (bstr (rreadB (y.d j) y.p a)), .int .i64 (rreadE (y.d j) y.p a)]) ?_; try simp only [pS]
  refine gT (.string (bstr (rreadB (y.d j) y.p a))) ?_; try simp only [pS]
  refine gT (.int .i64 (rreadE (y.d j) y.p a)) ?_; try simp only [pS]
  refine gT (.string (bstr (rreadB (y.d j) y.p a))) ?_; try simp only [pS]
  refine gT (.int .i64 (rreadE (y.d j) y.p a)) ?_; try simp only [pS]
  refine wpG_nil ?_
  have HZ := Lib.hid hs6
  clear hs6 hrd HW
  have hlen := HBD.out.readB y.p a
  obtain ⟨B, hB⟩ : ∃ B, rreadB (y.d j) y.p a = B := ⟨_, rfl⟩
  obtain ⟨E, hE⟩ : ∃ E, rreadE (y.d j) y.p a = E := ⟨_, rfl⟩
  rw [hB, hE] at EQ
  rw [hB] at hlen
  rw [hB, hE]
  have HLN := Lib.hid hlen
  clear hB hE hlen HBD HSM
  by_cases e0 : E = 0
  · subst e0
    rw [if_pos rfl] at EQ
    have HF := Lib.hid (wfits_any p HP.out B (by have := HLN.out; omega) W6)
    obtain ⟨s, hs⟩ : ∃ s, bstr B = s := ⟨_, rfl⟩
    have HS := Lib.hid hs
    rw [hs] at HF ⊢
    clear hs
    go_wp2_with (first | (refine q_valG (by rfl) (ex_ldPq HP.out HZ.out.pt rfl rfl) ?_) | fail)
    refine HF.out.mono ?_
    rintro e w7 ⟨rfl, hb7⟩
    have HZ7 := Lib.hid (HZ.out.below hb7)
    clear hb7 HZ
    obtain ⟨f, hf⟩ : ∃ f, fitsP p B = f := ⟨_, rfl⟩
    rw [hf] at EQ
    rw [hf]
    have HQ : Hid (∀ w', Below w.heap.size w w' → (Gdd y p (j, a) (.returned (.tuple #[.string s, .bool f])) ∧ Below w.heap.size w w')) := Lib.hid (fun w' hw' => ⟨⟨B, by
      rw [EQ.out, HS.out]
      cases f <;> rfl, fun b' hb' => by
      rw [EQ.out] at hb'
      cases f
      · cases hb'
      · cases hb'; rfl⟩, hw'⟩)
    clear EQ HF hf HS
    go_wp2_with fail
    go_ret2
    exact HQ.out _ HZ7.out.bel
  · rw [if_neg e0] at EQ
    have hq : ((E : Int) == 0) = false := by simpa using e0
    have HQ : Hid (∀ w', Below w.heap.size w w' → (Gdd y p (j, a) (.returned (.tuple #[.string (bstr B), .bool false])) ∧ Below w.heap.size w w')) := Lib.hid (fun w' hw' => ⟨⟨B, by rw [EQ.out]; rfl, fun b' hb' => by rw [EQ.out] at hb'; cases hb'⟩, hw'⟩)
    obtain ⟨s, hs⟩ : ∃ s, bstr B = s := ⟨_, rfl⟩
    rw [hs] at HQ ⊢
    clear hs EQ e0
    go_wp2_with fail
    go_ret2
    exact HQ.out _ HZ.out.bel
end Go.Proofs.YtmgagalhpkieoaaGreatDoor
