/- One ask, of a reader and of the document's: they answer alike. -/
import Derived.Test.YtfamohnbaelccaaRfMore
namespace Go.Proofs.Ytfamohnbaelccaa
open Go.RowKit

/-- What the document's reader has left, where the program's has l left. -/
def lwOf (l : List (BitVec 8)) (e : Nat) : List (BitVec 8) := if e = 0 then l else []
theorem rel_res (l : List (BitVec 8)) (e : Nat) (n : Int) : (refRes (lwOf l e) e n).1 = (nextRes l e n).1 ∧ (refRes (lwOf l e) e n).2.2 = (nextRes l e n).2.2 ∧ (refRes (lwOf l e) e n).2.1 = lwOf (nextRes l e n).2.1 (nextRes l e n).2.2 := by
  unfold refRes nextRes lwOf
  by_cases he : e = 0
  · subst he
    by_cases hn : n ≤ 0
    · have h1 : ¬ (l.length : Int) < n := by omega
      have h2 : n.toNat = 0 := by omega
      simp [h1, h2, hn]
    · by_cases hs : (l.length : Int) < n
      · simp [hs, hn]
      · simp [hs, hn]
  · simp [he]
theorem lwOf_le (l : List (BitVec 8)) (e : Nat) : (lwOf l e).length ≤ l.length := by
  unfold lwOf; split <;> simp
theorem nextRes_left (l : List (BitVec 8)) (e : Nat) (n : Int) : (nextRes l e n).2.1.length ≤ l.length := by
  unfold nextRes
  split
  · simp
  · split
    · simp
    · simp
/-- What an ask leaves. -/
def AskPost (H : Nat) (K0 K : Nat → Prop) (l : List (BitVec 8)) (w : World) (x : Ending) (w' : World) : Prop :=
  ∃ l1 e1 sp1 cap1, x = .returned (.tuple #[.bool true, .agg #[.slice sp1 (lwOf l1 e1).length cap1, .int .i64 (e1 : Int)]]) ∧ RdAt w' H K0 l1 e1 ∧ RefIs w' K sp1 (lwOf l1 e1) cap1 ∧ ButFor H w w' ∧ l1.length ≤ l.length
theorem RefIs.keep {w w' : World} {K : Nat → Prop} {B H : Nat} {sp : Option Addr} {l : List (BitVec 8)} {cap : Nat} (h : RefIs w (fun g => K g ∧ g < B) sp l cap) (hs : w.heap.size ≤ w'.heap.size) (hb : ∀ g, g < B → g ≠ H → w'.heap[g]? = w.heap[g]?) (hK : ¬ K H) : RefIs w' K sp l cap :=
  ⟨h.1, h.2.1, fun h0 => by
    obtain ⟨g, o, e, hk, hg, hc⟩ := h.2.2 h0
    have hgH : g ≠ H := fun e => hK (by rw [← e]; exact hk.1)
    exact ⟨g, o, e, hk.1, Nat.lt_of_lt_of_le hg hs, fun j hj => (World.cell?_of_block (hb g hk.2 hgH)).trans (hc j hj)⟩⟩
theorem wpG_unit {P : Program} {ops : Array Oper} {Q : Exit → Act → World → Prop} {S : World → Prop} {i : Nat} {r : Tr} {a : Act} {w : World} (o : Oper) (hi : ops.toList[i]? = some o) (hw : Region.wanted o (yielded ops a.tmps) = true) (w1 : World) (hrun : (execOp a.eval o).run P w = .ok .skip w1)
    (hS : S w1) (h : wpG P ops Q r S (a.put o.dst undef) w1) : wpG P ops Q (.step i r) S a w := by
  show wpOp P ops Q i _ a w
  unfold wpOp
  simp only [of_list hi]
  rw [if_pos hw]
  refine .inl ?_
  unfold Oper.wp
  rw [hrun]
  exact ⟨hS, S, fun _ h => h, hS, h⟩
theorem ex_eqU {ρ : Operand → Value} {o : Oper} {x y : Operand} {k : TypeId} {n : Int} {w : World} (ho : o.op = .binOp .eql 23 x y k) (hx : ρ x = .int .u64 n) (hy : ρ y = .int .u64 n) :
    (execOp ρ o).run Try.prog w = .ok (.value (.bool true)) w := by
  unfold execOp
  simp [go_sem, ho, hx, hy]
theorem ex_up8 {ρ : Operand → Value} {o : Oper} {x : Operand} {n : Nat} {w : World} (ho : o.op = .convert 5 23 x) (hx : ρ x = .int .u8 (n : Int)) (hn : n < 18446744073709551616) :
    (execOp ρ o).run Try.prog w = .ok (.value (.int .u64 (n : Int))) w := by
  have e := u64_in n hn
  unfold execOp
  simp [go_sem, ho, hx, e]
theorem ex_up16 {ρ : Operand → Value} {o : Oper} {x : Operand} {n : Nat} {w : World} (ho : o.op = .convert 26 23 x) (hx : ρ x = .int .u16 (n : Int)) (hn : n < 18446744073709551616) :
    (execOp ρ o).run Try.prog w = .ok (.value (.int .u64 (n : Int))) w := by
  have e := u64_in n hn
  unfold execOp
  simp [go_sem, ho, hx, e]
theorem ex_up32 {ρ : Operand → Value} {o : Oper} {x : Operand} {n : Nat} {w : World} (ho : o.op = .convert 29 23 x) (hx : ρ x = .int .u32 (n : Int)) (hn : n < 18446744073709551616) :
    (execOp ρ o).run Try.prog w = .ok (.value (.int .u64 (n : Int))) w := by
  have e := u64_in n hn
  unfold execOp
  simp [go_sem, ho, hx, e]
/-- A block of two cells holds this. -/
def Two (g : Nat) (v0 v1 : Value) (W : World) : Prop := W.cell? ⟨g, 0, none⟩ = some v0 ∧ W.cell? ⟨g, 1, none⟩ = some v1
theorem ex_two {ρ : Operand → Value} {o : Oper} {x : Operand} {g : Nat} {v0 v1 : Value} {w : World} (ho : o.op = .load 38 x) (hx : ρ x = .pointer (some ⟨g, 0, none⟩)) (h : Two g v0 v1 w) :
    (execOp ρ o).run Try.prog w = .ok (.value (.agg #[v0, v1])) w := by
  obtain ⟨h0, h1⟩ := h
  unfold execOp
  simp [go_sem, ho, hx, h0, h1]
theorem ra8 (H : Nat) {K : Nat → Prop} {l out : List (BitVec 8)} {e : Nat} {q : List (BitVec 8) × Nat} {w : World} (hR : RdAt w H K l e) (hn : nextRes l e 1 = (out, q)) :
    Calls Try.prog 20 #[.pointer (some ⟨H, 0, none⟩)] w fun x w' => x = .returned (.int .u8 (val out : Int)) ∧ RdAt w' H K q.1 q.2 ∧ ButFor H w w' :=
  (ru8_any H l e w hR).mono fun _ _ h => by unfold TakePost at h; rw [hn] at h; exact h
theorem ra16 (H : Nat) {K : Nat → Prop} {l out : List (BitVec 8)} {e : Nat} {q : List (BitVec 8) × Nat} {w : World} (hR : RdAt w H K l e) (hn : nextRes l e 2 = (out, q)) :
    Calls Try.prog 21 #[.pointer (some ⟨H, 0, none⟩)] w fun x w' => x = .returned (.int .u16 (val out : Int)) ∧ RdAt w' H K q.1 q.2 ∧ ButFor H w w' :=
  (ru16_any H l e w hR).mono fun _ _ h => by unfold TakePost at h; rw [hn] at h; exact h
theorem ra32 (H : Nat) {K : Nat → Prop} {l out : List (BitVec 8)} {e : Nat} {q : List (BitVec 8) × Nat} {w : World} (hR : RdAt w H K l e) (hn : nextRes l e 4 = (out, q)) :
    Calls Try.prog 22 #[.pointer (some ⟨H, 0, none⟩)] w fun x w' => x = .returned (.int .u32 (val out : Int)) ∧ RdAt w' H K q.1 q.2 ∧ ButFor H w w' :=
  (ru32_any H l e w hR).mono fun _ _ h => by unfold TakePost at h; rw [hn] at h; exact h
theorem ra64 (H : Nat) {K : Nat → Prop} {l out : List (BitVec 8)} {e : Nat} {q : List (BitVec 8) × Nat} {w : World} (hR : RdAt w H K l e) (hn : nextRes l e 8 = (out, q)) :
    Calls Try.prog 23 #[.pointer (some ⟨H, 0, none⟩)] w fun x w' => x = .returned (.int .u64 (val out : Int)) ∧ RdAt w' H K q.1 q.2 ∧ ButFor H w w' :=
  (ru64_any H l e w hR).mono fun _ _ h => by unfold TakePost at h; rw [hn] at h; exact h
theorem size2 : (Try.prog.info? 38).map (·.size) = some 2 := by kernel_rfl
theorem ex_put2 {ρ : Operand → Value} {o : Oper} {x y : Operand} {g : Nat} {v0 v1 u0 u1 : Value} {w : World} (ho : o.op = .store 38 x y) (hx : ρ x = .pointer (some ⟨g, 0, none⟩)) (hy : ρ y = .agg #[v0, v1]) (hB : Blk w g [u0, u1] 38) (h0 : v0.oneCell' = true) (h1 : v1.oneCell' = true) :
    (execOp ρ o).run Try.prog w = .ok .skip (w.setRow g #[v0, v1]) := by
  unfold execOp
  simp only [ho, hx, hy, Instr.storeAt, Instr.sureAddr, Sem.run_bind, Sem.run_pure, Result.andThen_ok, run_storeVar_row w g 38 38 #[u0, u1] #[v0, v1] hB size2 rfl (by simp [h0, h1])]
theorem butFor_row (w : World) (g : Nat) (cs : Array Value) : ButFor g w (w.setRow g cs) := ⟨rfl, rfl, rfl, by simp, fun k _ hk => setRow_other w g k cs hk⟩
theorem ask_fin {H : Nat} {K0 K : Nat → Prop} {l l1 : List (BitVec 8)} {e1 : Nat} {w w1 w3 : World} {sp1 : Option Addr} {cap1 A : Nat} {cs : Array Value} (hr : RefIs w1 (fun g => K g ∧ g < w.heap.size) sp1 (lwOf l1 e1) cap1) (hB : Below w.heap.size w w1) (hbf : ButFor H w1 w3) (hrd : RdAt w3 H K0 l1 e1)
    (hA : w.heap.size ≤ A) (hH : H < w.heap.size) (hK : ¬ K H) (hK0 : ∀ g, K0 g → g < w.heap.size) (hl : l1.length ≤ l.length) :
    AskPost H K0 K l w (.returned (.tuple #[.bool true, .agg #[.slice sp1 (lwOf l1 e1).length cap1, .int .i64 (e1 : Int)]])) (w3.setRow A cs) := by
  have hrow := butFor_row w3 A cs
  refine ⟨l1, e1, sp1, cap1, rfl, hrd.other hrow (by omega) (fun h => by have := hK0 _ h; omega), hr.keep (Nat.le_trans hbf.size hrow.size) (fun g hg hgH => ?_) hK, ?_, hl⟩
  · rw [setRow_other w3 A g cs (by omega), hbf.block g (Nat.lt_of_lt_of_le hg hB.size) hgH]
  · have h1 : ButFor H w w3 := (ButFor.of_below hB).trans hbf
    exact ⟨h1.os, h1.tape, h1.output, Nat.le_trans h1.size hrow.size, fun k hk hkH => by rw [setRow_other w3 A k cs (by omega)]; exact h1.block k hk hkH⟩
theorem two_butFor {H A : Nat} {v0 v1 : Value} {w w' : World} (h : Two A v0 v1 w) (hA : A < w.heap.size) (hb : ButFor H w w') (hn : A ≠ H) : Two A v0 v1 w' :=
  ⟨(hb.cell (p := ⟨A, 0, none⟩) hA hn).trans h.1, (hb.cell (p := ⟨A, 1, none⟩) hA hn).trans h.2⟩
theorem two_row {A G : Nat} {v0 v1 : Value} {w : World} (h : Two A v0 v1 w) (hA : A < w.heap.size) (hn : A ≠ G) (cs : Array Value) : Two A v0 v1 (w.setRow G cs) := two_butFor h hA (butFor_row w G cs) hn

/-- What the takes of 'Raw' lean on. -/
structure SRaw (A4 : Nat) (v0 v1 : Value) (A2 : Nat) (n : Int) (K : Nat → Prop) (B : Nat) (so : Option Addr) (out : List (BitVec 8)) (W : World) : Prop where
  two : Two A4 v0 v1 W
  c : W.cell? ⟨A2, 1, none⟩ = some (.int .i64 n)
  s : SrcX W (fun g => K g ∧ g < B) so out
  h4 : A4 < W.heap.size
  h2 : B < A2 ∨ B ≤ A2
theorem SRaw.butFor {A4 : Nat} {v0 v1 : Value} {n : Int} {K : Nat → Prop} {B H : Nat} {so : Option Addr} {out : List (BitVec 8)} {W W' : World} (h : SRaw A4 v0 v1 (B + 1) n K B so out W) (hb : ButFor H W W') (hH : H < B) (hK : ¬ K H) (hB : B + 1 < A4 := by omega) : SRaw A4 v0 v1 (B + 1) n K B so out W' :=
  ⟨two_butFor h.two h.h4 hb (by omega), (hb.cell (p := ⟨B + 1, 1, none⟩) (by have := h.h4; simp; omega) (by simp; omega)).trans h.c, h.s.butFor (fun hh => hK hh.1) hb, Nat.lt_of_lt_of_le h.h4 hb.size, h.h2⟩
theorem SRaw.row {A4 : Nat} {v0 v1 : Value} {n : Int} {K : Nat → Prop} {B : Nat} {so : Option Addr} {out : List (BitVec 8)} {W : World} {cs : Array Value} (h : SRaw A4 v0 v1 (B + 1) n K B so out W) (hB : B + 2 < A4) (_h2 : B + 2 < A4) : SRaw A4 v0 v1 (B + 1) n K B so out (W.setRow (B + 2) cs) :=
  ⟨two_row h.two h.h4 (by omega) _, ((butFor_row W (B + 2) cs).cell (p := ⟨B + 1, 1, none⟩) (by have := h.h4; simp; omega) (by simp)).trans h.c, h.s.butFor (fun hh => by omega) (butFor_row W (B + 2) cs), Nat.lt_of_lt_of_le h.h4 (butFor_row W (B + 2) cs).size, h.h2⟩
theorem raw_c (H : Nat) {K : Nat → Prop} {l out : List (BitVec 8)} {e : Nat} (n : Int) {q : List (BitVec 8) × Nat} {w : World} (hl : l.length ≤ 100000) (hR : RdAt w H K l e) (hn : nextRes l e n = (out, q)) :
    Calls Try.prog 24 #[.pointer (some ⟨H, 0, none⟩), .int .i64 n] w fun x w' => ∃ v, x = .returned v ∧ OwnB w' w.heap.size v out ∧ RdAt w' H K q.1 q.2 ∧ ButFor H w w' :=
  (raw_any H l e n w hl hR).mono fun _ _ h => by unfold RawPost at h; rw [hn] at h; exact h


set_option maxRecDepth 100000 in
set_option maxHeartbeats 2000000 in
theorem asked_8 (H : Nat) (K0 K : Nat → Prop) (l : List (BitVec 8)) (e : Nat) (sp : Option Addr) (cap : Nat) (n : Int) (w : World) (hl : l.length ≤ 100000) (hR : RdAt w H K0 l e) (hF : RefIs w K sp (lwOf l e) cap) (hK : ¬ K H) (hK0 : ∀ g, K0 g → g < w.heap.size) :
    Calls Try.prog 15 #[.pointer (some ⟨H, 0, none⟩), .agg #[.slice sp (lwOf l e).length cap, .int .i64 (e : Int)], .agg #[.int .u8 0, .int .i64 n]] w (AskPost H K0 K l w) := by
  have HR := Lib.hid hR
  have HF := Lib.hid hF
  have HK := Lib.hid hK
  have HK0 := Lib.hid hK0
  have hH : H < w.heap.size := hR.lt
  obtain ⟨q1, q2, q3⟩ := rel_res l e 1
  obtain ⟨out, hout⟩ : ∃ o, (nextRes l e 1).1 = o := ⟨_, rfl⟩
  obtain ⟨l1, hl1⟩ : ∃ o, (nextRes l e 1).2.1 = o := ⟨_, rfl⟩
  obtain ⟨e1, he1⟩ : ∃ o, (nextRes l e 1).2.2 = o := ⟨_, rfl⟩
  rw [hout] at q1
  rw [he1] at q2
  rw [hl1, he1] at q3
  have HQ := Lib.hid (And.intro q1 (And.intro q2 q3))
  have hll : l1.length ≤ l.length := by rw [← hl1]; exact nextRes_left l e 1
  have HNX : Hid (nextRes l e 1 = (out, (l1, e1))) := Lib.hid (by rw [← hout, ← hl1, ← he1])
  have hov : val out < 18446744073709551616 := by
    have h1 := val_lt out
    have h2 : out.length ≤ 1 := by rw [← hout]; exact nextRes_len l e 1
    exact Nat.lt_of_lt_of_le h1 (Nat.pow_le_pow_right (by omega) (show 8 * out.length ≤ 64 by omega))
  have HOV := Lib.hid hov
  have HLE := Lib.hid (lwOf_le l e)
  obtain ⟨L, hL⟩ : ∃ L, lwOf l e = L := ⟨_, rfl⟩
  rw [hL] at HF HQ HLE ⊢
  clear hR hF hK hK0 q1 q2 q3 hL hout hl1 he1 hov
  go_enter Try.func15, Try.ntmps15
  go_wp2_with fail
  refine (refNum_any L sp cap e 1 _ (K := fun g => K g ∧ g < w.heap.size) (by omega) (HF.out.up.below ((((Below.refl _ _).alloc (Nat.le_refl _) _).alloc (by simp) _).alloc (by simp; omega) _))).mono ?_
  rintro x w1 ⟨sp1, cap1, hx, hr1, hb⟩
  rw [show (((1 : Nat) : Int)) = 1 from rfl, HQ.out.1, HQ.out.2.1, HQ.out.2.2] at hx
  rw [show (((1 : Nat) : Int)) = 1 from rfl, HQ.out.2.2] at hr1
  subst hx
  have HR1 := Lib.hid hr1
  have b3 : Blk w1 (w.heap.size + 2) [.slice none 0 0, .int .i64 0] 38 := (Blk.new' _ _ _ 38 (w.heap.size + 2) (by simp) rfl).below hb (by simp)
  have hsz : w.heap.size + 2 < w1.heap.size := b3.lt
  have HB0 : Hid (Below w.heap.size w w1) := Lib.hid (((((Below.refl _ _).alloc (Nat.le_refl _) _).alloc (by simp) _).alloc (by simp; omega) _).trans (hb.mono (by simp; omega)))
  have B3 := Lib.hid b3
  have HRD : Hid (RdAt (w1.alloc (.cells #[.slice sp1 (lwOf l1 e1).length cap1, .int .i64 (e1 : Int)] 38)).drew H K0 l e) := Lib.hid ((HR.out.below HB0.out (Nat.le_refl _)).below ((Below.refl _ _).alloc (Nat.le_refl _) _).drew (Nat.le_refl _))
  have HS0 : Hid (Two w1.heap.size (.slice sp1 (lwOf l1 e1).length cap1) (.int .i64 (e1 : Int)) (w1.alloc (.cells #[.slice sp1 (lwOf l1 e1).length cap1, .int .i64 (e1 : Int)] 38)).drew) := Lib.hid ⟨(Blk.new w1 [_, _] 38).cell (j := 0) rfl, (Blk.new w1 [_, _] 38).cell (j := 1) rfl⟩
  clear b3 hb hr1
  go_wp2
  refine wp_region_sched (.take 0 (.take 3 (.take 5 (.step 1 (.take 2 (.take 4 (.take 6 (.step 7 (.nil))))))))) (by kernel_rfl) (by kernel_rfl) (fun d _ _ _ _ h => by cases d <;> exact h) (Two w1.heap.size (.slice sp1 (lwOf l1 e1).length cap1) (.int .i64 (e1 : Int))) HS0.out ?_
  refine wpG_take _ (.pointer (some ⟨H, 0, none⟩)) rfl (by rfl) (fun W hW => by rfl) ?_
  (try simp only [Act.put, List.setIfInBounds_toArray, List.set_cons_zero, List.set_cons_succ])
  refine wpG_take _ (.int .u64 (val out : Int)) rfl (by rfl) (fun W hW => by rfl) ?_
  (try simp only [Act.put, List.setIfInBounds_toArray, List.set_cons_zero, List.set_cons_succ])
  refine wpG_take _ (.agg #[.slice sp1 (lwOf l1 e1).length cap1, .int .i64 (e1 : Int)]) rfl (by rfl) (fun W hW => ex_two rfl rfl hW) ?_
  (try simp only [Act.put, List.setIfInBounds_toArray, List.set_cons_zero, List.set_cons_succ])
  refine wpG_call _ rfl (by rfl) 20 #[.pointer (some ⟨H, 0, none⟩)] (fun _ => by go_simp) (fun v w3 => v = .int .u8 (val out : Int) ∧ RdAt w3 H K0 l1 e1 ∧ ButFor H (w1.alloc (.cells #[.slice sp1 (lwOf l1 e1).length cap1, .int .i64 (e1 : Int)] 38)).drew w3)
    ((ra8 H (q := (l1, e1)) HRD.out HNX.out).mono fun x w3 ⟨hx, h1, h2⟩ => ⟨_, hx, two_butFor HS0.out (by simp) h2 (by omega), rfl, h1, h2⟩) ?_
  rintro v w3 hS3 ⟨rfl, hr3, hb3⟩
  have HS3 := Lib.hid hS3
  have HR3 := Lib.hid hr3
  have HB3 : Hid (ButFor H w1 w3) := Lib.hid ((ButFor.of_below ((Below.refl _ _).alloc (Nat.le_refl _) _).drew).trans hb3)
  have hsz3 : w1.heap.size < w3.heap.size := by have := hb3.size; simp at this; omega
  clear hS3 hr3 hb3
  refine ⟨_, fun _ h => h, HS3.out, ?_⟩
  (try simp only [Act.put, List.setIfInBounds_toArray, List.set_cons_zero, List.set_cons_succ])
  refine wpG_take _ (.int .u64 (val out : Int)) rfl (by rfl) (fun W hW => ex_up8 rfl rfl HOV.out) ?_
  (try simp only [Act.put, List.setIfInBounds_toArray, List.set_cons_zero, List.set_cons_succ])
  refine wpG_take _ (.bool true) rfl (by rfl) (fun W hW => ex_eqU rfl rfl rfl) ?_
  (try simp only [Act.put, List.setIfInBounds_toArray, List.set_cons_zero, List.set_cons_succ])
  refine wpG_take _ (.bool true) rfl (by rfl) (fun W hW => by rfl) ?_
  (try simp only [Act.put, List.setIfInBounds_toArray, List.set_cons_zero, List.set_cons_succ])
  refine wpG_unit _ rfl (by rfl) (w3.setRow (w.heap.size + 2) #[.slice sp1 (lwOf l1 e1).length cap1, .int .i64 (e1 : Int)]) (ex_put2 rfl rfl rfl (HB3.out.blk B3.out (by omega)) rfl rfl) (two_row HS3.out (by omega) (by omega) _) ?_
  (try simp only [Act.put, List.setIfInBounds_toArray, List.set_cons_zero, List.set_cons_succ])
  refine wpG_nil ?_
  have hB7 : Blk (w3.setRow (w.heap.size + 2) #[.slice sp1 (lwOf l1 e1).length cap1, .int .i64 (e1 : Int)]) (w.heap.size + 2) [.slice sp1 (lwOf l1 e1).length cap1, .int .i64 (e1 : Int)] 38 := (HB3.out.blk B3.out (by omega)).row [_, _]
  have C0 := hB7.cell (j := 0) rfl
  have C1 := hB7.cell (j := 1) rfl
  clear hB7
  go_wp2
  exact bodyPost_ret (v := .tuple #[.bool true, .agg #[.slice sp1 (lwOf l1 e1).length cap1, .int .i64 (e1 : Int)]]) (by simp [results, Try.results15, go_sem, C0, C1]) rfl (ask_fin HR1.out HB0.out HB3.out HR3.out (by omega) hH HK.out HK0.out hll)

set_option maxRecDepth 100000 in
set_option maxHeartbeats 2000000 in
theorem asked_16 (H : Nat) (K0 K : Nat → Prop) (l : List (BitVec 8)) (e : Nat) (sp : Option Addr) (cap : Nat) (n : Int) (w : World) (hl : l.length ≤ 100000) (hR : RdAt w H K0 l e) (hF : RefIs w K sp (lwOf l e) cap) (hK : ¬ K H) (hK0 : ∀ g, K0 g → g < w.heap.size) :
    Calls Try.prog 15 #[.pointer (some ⟨H, 0, none⟩), .agg #[.slice sp (lwOf l e).length cap, .int .i64 (e : Int)], .agg #[.int .u8 1, .int .i64 n]] w (AskPost H K0 K l w) := by
  have HR := Lib.hid hR
  have HF := Lib.hid hF
  have HK := Lib.hid hK
  have HK0 := Lib.hid hK0
  have hH : H < w.heap.size := hR.lt
  obtain ⟨q1, q2, q3⟩ := rel_res l e 2
  obtain ⟨out, hout⟩ : ∃ o, (nextRes l e 2).1 = o := ⟨_, rfl⟩
  obtain ⟨l1, hl1⟩ : ∃ o, (nextRes l e 2).2.1 = o := ⟨_, rfl⟩
  obtain ⟨e1, he1⟩ : ∃ o, (nextRes l e 2).2.2 = o := ⟨_, rfl⟩
  rw [hout] at q1
  rw [he1] at q2
  rw [hl1, he1] at q3
  have HQ := Lib.hid (And.intro q1 (And.intro q2 q3))
  have hll : l1.length ≤ l.length := by rw [← hl1]; exact nextRes_left l e 2
  have HNX : Hid (nextRes l e 2 = (out, (l1, e1))) := Lib.hid (by rw [← hout, ← hl1, ← he1])
  have hov : val out < 18446744073709551616 := by
    have h1 := val_lt out
    have h2 : out.length ≤ 2 := by rw [← hout]; exact nextRes_len l e 2
    exact Nat.lt_of_lt_of_le h1 (Nat.pow_le_pow_right (by omega) (show 8 * out.length ≤ 64 by omega))
  have HOV := Lib.hid hov
  have HLE := Lib.hid (lwOf_le l e)
  obtain ⟨L, hL⟩ : ∃ L, lwOf l e = L := ⟨_, rfl⟩
  rw [hL] at HF HQ HLE ⊢
  clear hR hF hK hK0 q1 q2 q3 hL hout hl1 he1 hov
  go_enter Try.func15, Try.ntmps15
  go_wp2_with fail
  refine (refNum_any L sp cap e 2 _ (K := fun g => K g ∧ g < w.heap.size) (by omega) (HF.out.up.below ((((Below.refl _ _).alloc (Nat.le_refl _) _).alloc (by simp) _).alloc (by simp; omega) _))).mono ?_
  rintro x w1 ⟨sp1, cap1, hx, hr1, hb⟩
  rw [show (((2 : Nat) : Int)) = 2 from rfl, HQ.out.1, HQ.out.2.1, HQ.out.2.2] at hx
  rw [show (((2 : Nat) : Int)) = 2 from rfl, HQ.out.2.2] at hr1
  subst hx
  have HR1 := Lib.hid hr1
  have b3 : Blk w1 (w.heap.size + 2) [.slice none 0 0, .int .i64 0] 38 := (Blk.new' _ _ _ 38 (w.heap.size + 2) (by simp) rfl).below hb (by simp)
  have hsz : w.heap.size + 2 < w1.heap.size := b3.lt
  have HB0 : Hid (Below w.heap.size w w1) := Lib.hid (((((Below.refl _ _).alloc (Nat.le_refl _) _).alloc (by simp) _).alloc (by simp; omega) _).trans (hb.mono (by simp; omega)))
  have B3 := Lib.hid b3
  have HRD : Hid (RdAt (w1.alloc (.cells #[.slice sp1 (lwOf l1 e1).length cap1, .int .i64 (e1 : Int)] 38)).drew H K0 l e) := Lib.hid ((HR.out.below HB0.out (Nat.le_refl _)).below ((Below.refl _ _).alloc (Nat.le_refl _) _).drew (Nat.le_refl _))
  have HS0 : Hid (Two w1.heap.size (.slice sp1 (lwOf l1 e1).length cap1) (.int .i64 (e1 : Int)) (w1.alloc (.cells #[.slice sp1 (lwOf l1 e1).length cap1, .int .i64 (e1 : Int)] 38)).drew) := Lib.hid ⟨(Blk.new w1 [_, _] 38).cell (j := 0) rfl, (Blk.new w1 [_, _] 38).cell (j := 1) rfl⟩
  clear b3 hb hr1
  go_wp2
  refine wp_region_sched (.take 0 (.take 3 (.take 5 (.step 1 (.take 2 (.take 4 (.take 6 (.step 7 (.nil))))))))) (by kernel_rfl) (by kernel_rfl) (fun d _ _ _ _ h => by cases d <;> exact h) (Two w1.heap.size (.slice sp1 (lwOf l1 e1).length cap1) (.int .i64 (e1 : Int))) HS0.out ?_
  refine wpG_take _ (.pointer (some ⟨H, 0, none⟩)) rfl (by rfl) (fun W hW => by rfl) ?_
  (try simp only [Act.put, List.setIfInBounds_toArray, List.set_cons_zero, List.set_cons_succ])
  refine wpG_take _ (.int .u64 (val out : Int)) rfl (by rfl) (fun W hW => by rfl) ?_
  (try simp only [Act.put, List.setIfInBounds_toArray, List.set_cons_zero, List.set_cons_succ])
  refine wpG_take _ (.agg #[.slice sp1 (lwOf l1 e1).length cap1, .int .i64 (e1 : Int)]) rfl (by rfl) (fun W hW => ex_two rfl rfl hW) ?_
  (try simp only [Act.put, List.setIfInBounds_toArray, List.set_cons_zero, List.set_cons_succ])
  refine wpG_call _ rfl (by rfl) 21 #[.pointer (some ⟨H, 0, none⟩)] (fun _ => by go_simp) (fun v w3 => v = .int .u16 (val out : Int) ∧ RdAt w3 H K0 l1 e1 ∧ ButFor H (w1.alloc (.cells #[.slice sp1 (lwOf l1 e1).length cap1, .int .i64 (e1 : Int)] 38)).drew w3)
    ((ra16 H (q := (l1, e1)) HRD.out HNX.out).mono fun x w3 ⟨hx, h1, h2⟩ => ⟨_, hx, two_butFor HS0.out (by simp) h2 (by omega), rfl, h1, h2⟩) ?_
  rintro v w3 hS3 ⟨rfl, hr3, hb3⟩
  have HS3 := Lib.hid hS3
  have HR3 := Lib.hid hr3
  have HB3 : Hid (ButFor H w1 w3) := Lib.hid ((ButFor.of_below ((Below.refl _ _).alloc (Nat.le_refl _) _).drew).trans hb3)
  have hsz3 : w1.heap.size < w3.heap.size := by have := hb3.size; simp at this; omega
  clear hS3 hr3 hb3
  refine ⟨_, fun _ h => h, HS3.out, ?_⟩
  (try simp only [Act.put, List.setIfInBounds_toArray, List.set_cons_zero, List.set_cons_succ])
  refine wpG_take _ (.int .u64 (val out : Int)) rfl (by rfl) (fun W hW => ex_up16 rfl rfl HOV.out) ?_
  (try simp only [Act.put, List.setIfInBounds_toArray, List.set_cons_zero, List.set_cons_succ])
  refine wpG_take _ (.bool true) rfl (by rfl) (fun W hW => ex_eqU rfl rfl rfl) ?_
  (try simp only [Act.put, List.setIfInBounds_toArray, List.set_cons_zero, List.set_cons_succ])
  refine wpG_take _ (.bool true) rfl (by rfl) (fun W hW => by rfl) ?_
  (try simp only [Act.put, List.setIfInBounds_toArray, List.set_cons_zero, List.set_cons_succ])
  refine wpG_unit _ rfl (by rfl) (w3.setRow (w.heap.size + 2) #[.slice sp1 (lwOf l1 e1).length cap1, .int .i64 (e1 : Int)]) (ex_put2 rfl rfl rfl (HB3.out.blk B3.out (by omega)) rfl rfl) (two_row HS3.out (by omega) (by omega) _) ?_
  (try simp only [Act.put, List.setIfInBounds_toArray, List.set_cons_zero, List.set_cons_succ])
  refine wpG_nil ?_
  have hB7 : Blk (w3.setRow (w.heap.size + 2) #[.slice sp1 (lwOf l1 e1).length cap1, .int .i64 (e1 : Int)]) (w.heap.size + 2) [.slice sp1 (lwOf l1 e1).length cap1, .int .i64 (e1 : Int)] 38 := (HB3.out.blk B3.out (by omega)).row [_, _]
  have C0 := hB7.cell (j := 0) rfl
  have C1 := hB7.cell (j := 1) rfl
  clear hB7
  go_wp2
  exact bodyPost_ret (v := .tuple #[.bool true, .agg #[.slice sp1 (lwOf l1 e1).length cap1, .int .i64 (e1 : Int)]]) (by simp [results, Try.results15, go_sem, C0, C1]) rfl (ask_fin HR1.out HB0.out HB3.out HR3.out (by omega) hH HK.out HK0.out hll)

set_option maxRecDepth 100000 in
set_option maxHeartbeats 2000000 in
theorem asked_32 (H : Nat) (K0 K : Nat → Prop) (l : List (BitVec 8)) (e : Nat) (sp : Option Addr) (cap : Nat) (n : Int) (w : World) (hl : l.length ≤ 100000) (hR : RdAt w H K0 l e) (hF : RefIs w K sp (lwOf l e) cap) (hK : ¬ K H) (hK0 : ∀ g, K0 g → g < w.heap.size) :
    Calls Try.prog 15 #[.pointer (some ⟨H, 0, none⟩), .agg #[.slice sp (lwOf l e).length cap, .int .i64 (e : Int)], .agg #[.int .u8 2, .int .i64 n]] w (AskPost H K0 K l w) := by
  have HR := Lib.hid hR
  have HF := Lib.hid hF
  have HK := Lib.hid hK
  have HK0 := Lib.hid hK0
  have hH : H < w.heap.size := hR.lt
  obtain ⟨q1, q2, q3⟩ := rel_res l e 4
  obtain ⟨out, hout⟩ : ∃ o, (nextRes l e 4).1 = o := ⟨_, rfl⟩
  obtain ⟨l1, hl1⟩ : ∃ o, (nextRes l e 4).2.1 = o := ⟨_, rfl⟩
  obtain ⟨e1, he1⟩ : ∃ o, (nextRes l e 4).2.2 = o := ⟨_, rfl⟩
  rw [hout] at q1
  rw [he1] at q2
  rw [hl1, he1] at q3
  have HQ := Lib.hid (And.intro q1 (And.intro q2 q3))
  have hll : l1.length ≤ l.length := by rw [← hl1]; exact nextRes_left l e 4
  have HNX : Hid (nextRes l e 4 = (out, (l1, e1))) := Lib.hid (by rw [← hout, ← hl1, ← he1])
  have hov : val out < 18446744073709551616 := by
    have h1 := val_lt out
    have h2 : out.length ≤ 4 := by rw [← hout]; exact nextRes_len l e 4
    exact Nat.lt_of_lt_of_le h1 (Nat.pow_le_pow_right (by omega) (show 8 * out.length ≤ 64 by omega))
  have HOV := Lib.hid hov
  have HLE := Lib.hid (lwOf_le l e)
  obtain ⟨L, hL⟩ : ∃ L, lwOf l e = L := ⟨_, rfl⟩
  rw [hL] at HF HQ HLE ⊢
  clear hR hF hK hK0 q1 q2 q3 hL hout hl1 he1 hov
  go_enter Try.func15, Try.ntmps15
  go_wp2_with fail
  refine (refNum_any L sp cap e 4 _ (K := fun g => K g ∧ g < w.heap.size) (by omega) (HF.out.up.below ((((Below.refl _ _).alloc (Nat.le_refl _) _).alloc (by simp) _).alloc (by simp; omega) _))).mono ?_
  rintro x w1 ⟨sp1, cap1, hx, hr1, hb⟩
  rw [show (((4 : Nat) : Int)) = 4 from rfl, HQ.out.1, HQ.out.2.1, HQ.out.2.2] at hx
  rw [show (((4 : Nat) : Int)) = 4 from rfl, HQ.out.2.2] at hr1
  subst hx
  have HR1 := Lib.hid hr1
  have b3 : Blk w1 (w.heap.size + 2) [.slice none 0 0, .int .i64 0] 38 := (Blk.new' _ _ _ 38 (w.heap.size + 2) (by simp) rfl).below hb (by simp)
  have hsz : w.heap.size + 2 < w1.heap.size := b3.lt
  have HB0 : Hid (Below w.heap.size w w1) := Lib.hid (((((Below.refl _ _).alloc (Nat.le_refl _) _).alloc (by simp) _).alloc (by simp; omega) _).trans (hb.mono (by simp; omega)))
  have B3 := Lib.hid b3
  have HRD : Hid (RdAt (w1.alloc (.cells #[.slice sp1 (lwOf l1 e1).length cap1, .int .i64 (e1 : Int)] 38)).drew H K0 l e) := Lib.hid ((HR.out.below HB0.out (Nat.le_refl _)).below ((Below.refl _ _).alloc (Nat.le_refl _) _).drew (Nat.le_refl _))
  have HS0 : Hid (Two w1.heap.size (.slice sp1 (lwOf l1 e1).length cap1) (.int .i64 (e1 : Int)) (w1.alloc (.cells #[.slice sp1 (lwOf l1 e1).length cap1, .int .i64 (e1 : Int)] 38)).drew) := Lib.hid ⟨(Blk.new w1 [_, _] 38).cell (j := 0) rfl, (Blk.new w1 [_, _] 38).cell (j := 1) rfl⟩
  clear b3 hb hr1
  go_wp2
  refine wp_region_sched (.take 0 (.take 3 (.take 5 (.step 1 (.take 2 (.take 4 (.take 6 (.step 7 (.nil))))))))) (by kernel_rfl) (by kernel_rfl) (fun d _ _ _ _ h => by cases d <;> exact h) (Two w1.heap.size (.slice sp1 (lwOf l1 e1).length cap1) (.int .i64 (e1 : Int))) HS0.out ?_
  refine wpG_take _ (.pointer (some ⟨H, 0, none⟩)) rfl (by rfl) (fun W hW => by rfl) ?_
  (try simp only [Act.put, List.setIfInBounds_toArray, List.set_cons_zero, List.set_cons_succ])
  refine wpG_take _ (.int .u64 (val out : Int)) rfl (by rfl) (fun W hW => by rfl) ?_
  (try simp only [Act.put, List.setIfInBounds_toArray, List.set_cons_zero, List.set_cons_succ])
  refine wpG_take _ (.agg #[.slice sp1 (lwOf l1 e1).length cap1, .int .i64 (e1 : Int)]) rfl (by rfl) (fun W hW => ex_two rfl rfl hW) ?_
  (try simp only [Act.put, List.setIfInBounds_toArray, List.set_cons_zero, List.set_cons_succ])
  refine wpG_call _ rfl (by rfl) 22 #[.pointer (some ⟨H, 0, none⟩)] (fun _ => by go_simp) (fun v w3 => v = .int .u32 (val out : Int) ∧ RdAt w3 H K0 l1 e1 ∧ ButFor H (w1.alloc (.cells #[.slice sp1 (lwOf l1 e1).length cap1, .int .i64 (e1 : Int)] 38)).drew w3)
    ((ra32 H (q := (l1, e1)) HRD.out HNX.out).mono fun x w3 ⟨hx, h1, h2⟩ => ⟨_, hx, two_butFor HS0.out (by simp) h2 (by omega), rfl, h1, h2⟩) ?_
  rintro v w3 hS3 ⟨rfl, hr3, hb3⟩
  have HS3 := Lib.hid hS3
  have HR3 := Lib.hid hr3
  have HB3 : Hid (ButFor H w1 w3) := Lib.hid ((ButFor.of_below ((Below.refl _ _).alloc (Nat.le_refl _) _).drew).trans hb3)
  have hsz3 : w1.heap.size < w3.heap.size := by have := hb3.size; simp at this; omega
  clear hS3 hr3 hb3
  refine ⟨_, fun _ h => h, HS3.out, ?_⟩
  (try simp only [Act.put, List.setIfInBounds_toArray, List.set_cons_zero, List.set_cons_succ])
  refine wpG_take _ (.int .u64 (val out : Int)) rfl (by rfl) (fun W hW => ex_up32 rfl rfl HOV.out) ?_
  (try simp only [Act.put, List.setIfInBounds_toArray, List.set_cons_zero, List.set_cons_succ])
  refine wpG_take _ (.bool true) rfl (by rfl) (fun W hW => ex_eqU rfl rfl rfl) ?_
  (try simp only [Act.put, List.setIfInBounds_toArray, List.set_cons_zero, List.set_cons_succ])
  refine wpG_take _ (.bool true) rfl (by rfl) (fun W hW => by rfl) ?_
  (try simp only [Act.put, List.setIfInBounds_toArray, List.set_cons_zero, List.set_cons_succ])
  refine wpG_unit _ rfl (by rfl) (w3.setRow (w.heap.size + 2) #[.slice sp1 (lwOf l1 e1).length cap1, .int .i64 (e1 : Int)]) (ex_put2 rfl rfl rfl (HB3.out.blk B3.out (by omega)) rfl rfl) (two_row HS3.out (by omega) (by omega) _) ?_
  (try simp only [Act.put, List.setIfInBounds_toArray, List.set_cons_zero, List.set_cons_succ])
  refine wpG_nil ?_
  have hB7 : Blk (w3.setRow (w.heap.size + 2) #[.slice sp1 (lwOf l1 e1).length cap1, .int .i64 (e1 : Int)]) (w.heap.size + 2) [.slice sp1 (lwOf l1 e1).length cap1, .int .i64 (e1 : Int)] 38 := (HB3.out.blk B3.out (by omega)).row [_, _]
  have C0 := hB7.cell (j := 0) rfl
  have C1 := hB7.cell (j := 1) rfl
  clear hB7
  go_wp2
  exact bodyPost_ret (v := .tuple #[.bool true, .agg #[.slice sp1 (lwOf l1 e1).length cap1, .int .i64 (e1 : Int)]]) (by simp [results, Try.results15, go_sem, C0, C1]) rfl (ask_fin HR1.out HB0.out HB3.out HR3.out (by omega) hH HK.out HK0.out hll)

set_option maxRecDepth 100000 in
set_option maxHeartbeats 2000000 in
theorem asked_64 (H : Nat) (K0 K : Nat → Prop) (l : List (BitVec 8)) (e : Nat) (sp : Option Addr) (cap : Nat) (n : Int) (w : World) (hl : l.length ≤ 100000) (hR : RdAt w H K0 l e) (hF : RefIs w K sp (lwOf l e) cap) (hK : ¬ K H) (hK0 : ∀ g, K0 g → g < w.heap.size) :
    Calls Try.prog 15 #[.pointer (some ⟨H, 0, none⟩), .agg #[.slice sp (lwOf l e).length cap, .int .i64 (e : Int)], .agg #[.int .u8 3, .int .i64 n]] w (AskPost H K0 K l w) := by
  have HR := Lib.hid hR
  have HF := Lib.hid hF
  have HK := Lib.hid hK
  have HK0 := Lib.hid hK0
  have hH : H < w.heap.size := hR.lt
  obtain ⟨q1, q2, q3⟩ := rel_res l e 8
  obtain ⟨out, hout⟩ : ∃ o, (nextRes l e 8).1 = o := ⟨_, rfl⟩
  obtain ⟨l1, hl1⟩ : ∃ o, (nextRes l e 8).2.1 = o := ⟨_, rfl⟩
  obtain ⟨e1, he1⟩ : ∃ o, (nextRes l e 8).2.2 = o := ⟨_, rfl⟩
  rw [hout] at q1
  rw [he1] at q2
  rw [hl1, he1] at q3
  have HQ := Lib.hid (And.intro q1 (And.intro q2 q3))
  have hll : l1.length ≤ l.length := by rw [← hl1]; exact nextRes_left l e 8
  have HNX : Hid (nextRes l e 8 = (out, (l1, e1))) := Lib.hid (by rw [← hout, ← hl1, ← he1])
  have hov : val out < 18446744073709551616 := by
    have h1 := val_lt out
    have h2 : out.length ≤ 8 := by rw [← hout]; exact nextRes_len l e 8
    exact Nat.lt_of_lt_of_le h1 (Nat.pow_le_pow_right (by omega) (show 8 * out.length ≤ 64 by omega))
  have HOV := Lib.hid hov
  have HLE := Lib.hid (lwOf_le l e)
  obtain ⟨L, hL⟩ : ∃ L, lwOf l e = L := ⟨_, rfl⟩
  rw [hL] at HF HQ HLE ⊢
  clear hR hF hK hK0 q1 q2 q3 hL hout hl1 he1 hov
  go_enter Try.func15, Try.ntmps15
  go_wp2_with fail
  refine (refNum_any L sp cap e 8 _ (K := fun g => K g ∧ g < w.heap.size) (by omega) (HF.out.up.below ((((Below.refl _ _).alloc (Nat.le_refl _) _).alloc (by simp) _).alloc (by simp; omega) _))).mono ?_
  rintro x w1 ⟨sp1, cap1, hx, hr1, hb⟩
  rw [show (((8 : Nat) : Int)) = 8 from rfl, HQ.out.1, HQ.out.2.1, HQ.out.2.2] at hx
  rw [show (((8 : Nat) : Int)) = 8 from rfl, HQ.out.2.2] at hr1
  subst hx
  have HR1 := Lib.hid hr1
  have b3 : Blk w1 (w.heap.size + 2) [.slice none 0 0, .int .i64 0] 38 := (Blk.new' _ _ _ 38 (w.heap.size + 2) (by simp) rfl).below hb (by simp)
  have hsz : w.heap.size + 2 < w1.heap.size := b3.lt
  have HB0 : Hid (Below w.heap.size w w1) := Lib.hid (((((Below.refl _ _).alloc (Nat.le_refl _) _).alloc (by simp) _).alloc (by simp; omega) _).trans (hb.mono (by simp; omega)))
  have B3 := Lib.hid b3
  have HRD : Hid (RdAt (w1.alloc (.cells #[.slice sp1 (lwOf l1 e1).length cap1, .int .i64 (e1 : Int)] 38)).drew H K0 l e) := Lib.hid ((HR.out.below HB0.out (Nat.le_refl _)).below ((Below.refl _ _).alloc (Nat.le_refl _) _).drew (Nat.le_refl _))
  have HS0 : Hid (Two w1.heap.size (.slice sp1 (lwOf l1 e1).length cap1) (.int .i64 (e1 : Int)) (w1.alloc (.cells #[.slice sp1 (lwOf l1 e1).length cap1, .int .i64 (e1 : Int)] 38)).drew) := Lib.hid ⟨(Blk.new w1 [_, _] 38).cell (j := 0) rfl, (Blk.new w1 [_, _] 38).cell (j := 1) rfl⟩
  clear b3 hb hr1
  go_wp2
  refine wp_region_sched (.take 0 (.take 2 (.take 4 (.step 1 (.take 3 (.take 5 (.step 6 (.nil)))))))) (by kernel_rfl) (by kernel_rfl) (fun d _ _ _ _ h => by cases d <;> exact h) (Two w1.heap.size (.slice sp1 (lwOf l1 e1).length cap1) (.int .i64 (e1 : Int))) HS0.out ?_
  refine wpG_take _ (.pointer (some ⟨H, 0, none⟩)) rfl (by rfl) (fun W hW => by rfl) ?_
  (try simp only [Act.put, List.setIfInBounds_toArray, List.set_cons_zero, List.set_cons_succ])
  refine wpG_take _ (.int .u64 (val out : Int)) rfl (by rfl) (fun W hW => by rfl) ?_
  (try simp only [Act.put, List.setIfInBounds_toArray, List.set_cons_zero, List.set_cons_succ])
  refine wpG_take _ (.agg #[.slice sp1 (lwOf l1 e1).length cap1, .int .i64 (e1 : Int)]) rfl (by rfl) (fun W hW => ex_two rfl rfl hW) ?_
  (try simp only [Act.put, List.setIfInBounds_toArray, List.set_cons_zero, List.set_cons_succ])
  refine wpG_call _ rfl (by rfl) 23 #[.pointer (some ⟨H, 0, none⟩)] (fun _ => by go_simp) (fun v w3 => v = .int .u64 (val out : Int) ∧ RdAt w3 H K0 l1 e1 ∧ ButFor H (w1.alloc (.cells #[.slice sp1 (lwOf l1 e1).length cap1, .int .i64 (e1 : Int)] 38)).drew w3)
    ((ra64 H (q := (l1, e1)) HRD.out HNX.out).mono fun x w3 ⟨hx, h1, h2⟩ => ⟨_, hx, two_butFor HS0.out (by simp) h2 (by omega), rfl, h1, h2⟩) ?_
  rintro v w3 hS3 ⟨rfl, hr3, hb3⟩
  have HS3 := Lib.hid hS3
  have HR3 := Lib.hid hr3
  have HB3 : Hid (ButFor H w1 w3) := Lib.hid ((ButFor.of_below ((Below.refl _ _).alloc (Nat.le_refl _) _).drew).trans hb3)
  have hsz3 : w1.heap.size < w3.heap.size := by have := hb3.size; simp at this; omega
  clear hS3 hr3 hb3
  refine ⟨_, fun _ h => h, HS3.out, ?_⟩
  (try simp only [Act.put, List.setIfInBounds_toArray, List.set_cons_zero, List.set_cons_succ])
  refine wpG_take _ (.bool true) rfl (by rfl) (fun W hW => ex_eqU rfl rfl rfl) ?_
  (try simp only [Act.put, List.setIfInBounds_toArray, List.set_cons_zero, List.set_cons_succ])
  refine wpG_take _ (.bool true) rfl (by rfl) (fun W hW => by rfl) ?_
  (try simp only [Act.put, List.setIfInBounds_toArray, List.set_cons_zero, List.set_cons_succ])
  refine wpG_unit _ rfl (by rfl) (w3.setRow (w.heap.size + 2) #[.slice sp1 (lwOf l1 e1).length cap1, .int .i64 (e1 : Int)]) (ex_put2 rfl rfl rfl (HB3.out.blk B3.out (by omega)) rfl rfl) (two_row HS3.out (by omega) (by omega) _) ?_
  (try simp only [Act.put, List.setIfInBounds_toArray, List.set_cons_zero, List.set_cons_succ])
  refine wpG_nil ?_
  have hB7 : Blk (w3.setRow (w.heap.size + 2) #[.slice sp1 (lwOf l1 e1).length cap1, .int .i64 (e1 : Int)]) (w.heap.size + 2) [.slice sp1 (lwOf l1 e1).length cap1, .int .i64 (e1 : Int)] 38 := (HB3.out.blk B3.out (by omega)).row [_, _]
  have C0 := hB7.cell (j := 0) rfl
  have C1 := hB7.cell (j := 1) rfl
  clear hB7
  go_wp2
  exact bodyPost_ret (v := .tuple #[.bool true, .agg #[.slice sp1 (lwOf l1 e1).length cap1, .int .i64 (e1 : Int)]]) (by simp [results, Try.results15, go_sem, C0, C1]) rfl (ask_fin HR1.out HB0.out HB3.out HR3.out (by omega) hH HK.out HK0.out hll)

set_option maxRecDepth 100000 in
set_option maxHeartbeats 2000000 in
theorem asked_raw (H : Nat) (K0 K : Nat → Prop) (l : List (BitVec 8)) (e : Nat) (sp : Option Addr) (cap : Nat) (n : Int) (w : World) (hl : l.length ≤ 100000) (hR : RdAt w H K0 l e) (hF : RefIs w K sp (lwOf l e) cap) (hK : ¬ K H) (hK0 : ∀ g, K0 g → g < w.heap.size) :
    Calls Try.prog 15 #[.pointer (some ⟨H, 0, none⟩), .agg #[.slice sp (lwOf l e).length cap, .int .i64 (e : Int)], .agg #[.int .u8 4, .int .i64 n]] w (AskPost H K0 K l w) := by
  have HR := Lib.hid hR
  have HF := Lib.hid hF
  have HK := Lib.hid hK
  have HK0 := Lib.hid hK0
  have hH : H < w.heap.size := hR.lt
  obtain ⟨q1, q2, q3⟩ := rel_res l e n
  obtain ⟨out, hout⟩ : ∃ o, (nextRes l e n).1 = o := ⟨_, rfl⟩
  obtain ⟨l1, hl1⟩ : ∃ o, (nextRes l e n).2.1 = o := ⟨_, rfl⟩
  obtain ⟨e1, he1⟩ : ∃ o, (nextRes l e n).2.2 = o := ⟨_, rfl⟩
  rw [hout] at q1
  rw [he1] at q2
  rw [hl1, he1] at q3
  have HQ := Lib.hid (And.intro q1 (And.intro q2 q3))
  have hll : l1.length ≤ l.length := by rw [← hl1]; exact nextRes_left l e n
  have HNX : Hid (nextRes l e n = (out, (l1, e1))) := Lib.hid (by rw [← hout, ← hl1, ← he1])
  obtain ⟨L, hL⟩ : ∃ L, lwOf l e = L := ⟨_, rfl⟩
  rw [hL] at HF HQ ⊢
  clear hR hF hK hK0 q1 q2 q3 hL hout hl1 he1
  go_enter Try.func15, Try.ntmps15
  go_wp2_with fail
  refine (refRaw_any L sp cap e n _ (K := fun g => K g ∧ g < w.heap.size) (HF.out.up.below ((((Below.refl _ _).alloc (Nat.le_refl _) _).alloc (by simp) _).alloc (by simp; omega) _))).mono ?_
  rintro x w1 ⟨so, co, sp1, cap1, hx, ho, hr1, hb⟩
  rw [HQ.out.1, HQ.out.2.1, HQ.out.2.2] at hx
  rw [HQ.out.2.2] at hr1
  rw [HQ.out.1] at ho
  subst hx
  have HR1 := Lib.hid hr1
  have b3 : Blk w1 (w.heap.size + 2) [.slice none 0 0, .int .i64 0] 38 := (Blk.new' _ _ _ 38 (w.heap.size + 2) (by simp) rfl).below hb (by simp)
  have hsz : w.heap.size + 2 < w1.heap.size := b3.lt
  have HB0 : Hid (Below w.heap.size w w1) := Lib.hid (((((Below.refl _ _).alloc (Nat.le_refl _) _).alloc (by simp) _).alloc (by simp; omega) _).trans (hb.mono (by simp; omega)))
  have B3 := Lib.hid b3
  have b2 : Blk w1 (w.heap.size + 1) [.int .u8 4, .int .i64 n] 42 := ((Blk.new' _ _ _ 42 (w.heap.size + 1) (by simp) rfl).alloc _).below hb (by simp)
  obtain ⟨w2, hw2⟩ : ∃ W, (w1.alloc (.cells #[.slice sp1 (lwOf l1 e1).length cap1, .int .i64 (e1 : Int)] 38)).drew = W := ⟨_, rfl⟩
  have hb12 : Below w1.heap.size w1 w2 := by rw [← hw2]; exact ((Below.refl _ _).alloc (Nat.le_refl _) _).drew
  have hs2 : w2.heap.size = w1.heap.size + 1 := by rw [← hw2]; simp
  have HRD : Hid (RdAt w2 H K0 l e) := Lib.hid ((HR.out.below HB0.out (Nat.le_refl _)).below hb12 (Nat.le_refl _))
  have HS0 : Hid (SRaw w1.heap.size (.slice sp1 (lwOf l1 e1).length cap1) (.int .i64 (e1 : Int)) (w.heap.size + 1) n K w.heap.size so out w2) := Lib.hid ⟨by rw [← hw2]; exact ⟨(Blk.new w1 [_, _] 38).cell (j := 0) rfl, (Blk.new w1 [_, _] 38).cell (j := 1) rfl⟩, (b2.below hb12 (by omega)).cell rfl, ho.2.2.below hb12 (Nat.le_refl _), by omega, by omega⟩
  have HC12 := Lib.hid hb12
  clear b3 b2 hb hr1 ho hb12
  go_wp2
  refine wp_region_sched (.take 0 (.take 1 (.take 2 (.take 5 (.take 6 (.take 8 (.step 3 (.take 4 (.take 7 (.take 9 (.step 10 (.nil)))))))))))) (by kernel_rfl) (by kernel_rfl) (fun d _ _ _ _ h => by cases d <;> exact h) (SRaw w1.heap.size (.slice sp1 (lwOf l1 e1).length cap1) (.int .i64 (e1 : Int)) (w.heap.size + 1) n K w.heap.size so out) (by rw [hw2]; exact HS0.out) ?_
  rw [hw2]
  clear hw2
  refine wpG_take _ (.pointer (some ⟨H, 0, none⟩)) rfl (by rfl) (fun W hW => by rfl) ?_
  (try simp only [Act.put, List.setIfInBounds_toArray, List.set_cons_zero, List.set_cons_succ])
  refine wpG_take _ (.pointer (some ⟨w.heap.size + 1, 1, none⟩)) rfl (by rfl) (fun W hW => by go_simp) ?_
  (try simp only [Act.put, List.setIfInBounds_toArray, List.set_cons_zero, List.set_cons_succ])
  refine wpG_take _ (.int .i64 n) rfl (by rfl) (fun W hW => by have hc := hW.c; go_simp) ?_
  (try simp only [Act.put, List.setIfInBounds_toArray, List.set_cons_zero, List.set_cons_succ])
  refine wpG_take _ (.slice so out.length co) rfl (by rfl) (fun W hW => by rfl) ?_
  (try simp only [Act.put, List.setIfInBounds_toArray, List.set_cons_zero, List.set_cons_succ])
  refine wpG_str _ rfl (by rfl) (.tmp 86) rfl so co out rfl (fun _ h => h.s.srcA) ?_
  (try simp only [Act.put, List.setIfInBounds_toArray, List.set_cons_zero, List.set_cons_succ])
  refine wpG_take _ (.agg #[.slice sp1 (lwOf l1 e1).length cap1, .int .i64 (e1 : Int)]) rfl (by rfl) (fun W hW => ex_two rfl rfl hW.two) ?_
  (try simp only [Act.put, List.setIfInBounds_toArray, List.set_cons_zero, List.set_cons_succ])
  refine wpG_call _ rfl (by rfl) 24 #[.pointer (some ⟨H, 0, none⟩), .int .i64 n] (fun _ => by go_simp) (fun v w3 => OwnB w3 w2.heap.size v out ∧ RdAt w3 H K0 l1 e1 ∧ ButFor H w2 w3)
    ((raw_c H n hl HRD.out HNX.out).mono fun x w3 ⟨v, hx, h0, h1, h2⟩ => ⟨v, hx, HS0.out.butFor h2 hH HK.out, h0, h1, h2⟩) ?_
  rintro v w3 hS3 ⟨hown3, hr3, hb3⟩
  obtain ⟨sp3, cap3, rfl, _, _, hs3, _, ha3⟩ := OwnB.form hown3
  have HX3 : Hid (SrcX w3 (fun g => w2.heap.size ≤ g) sp3 out) := Lib.hid (fun h0 => by
    obtain ⟨g, o, e, hg, hc⟩ := hs3 h0
    exact ⟨g, o, e, (ha3 _ e).1, hg, hc⟩)
  have HS3 := Lib.hid hS3
  have HR3 := Lib.hid hr3
  have HB3 : Hid (ButFor H w1 w3) := Lib.hid ((ButFor.of_below HC12.out).trans hb3)
  have hsz3 : w1.heap.size < w3.heap.size := by have := hb3.size; omega
  clear hS3 hr3 hb3 hown3 hs3 ha3
  refine ⟨fun W => SRaw w1.heap.size (.slice sp1 (lwOf l1 e1).length cap1) (.int .i64 (e1 : Int)) (w.heap.size + 1) n K w.heap.size so out W ∧ SrcX W (fun g => w2.heap.size ≤ g) sp3 out, fun _ h => h.1, ⟨HS3.out, HX3.out⟩, ?_⟩
  (try simp only [Act.put, List.setIfInBounds_toArray, List.set_cons_zero, List.set_cons_succ])
  refine wpG_str _ rfl (by rfl) (.tmp 84) rfl sp3 cap3 out rfl (fun _ h => h.2.srcA) ?_
  (try simp only [Act.put, List.setIfInBounds_toArray, List.set_cons_zero, List.set_cons_succ])
  refine wpG_take _ (.bool true) rfl (by rfl) (fun W hW => by rw [ex_eql rfl rfl rfl]; simp) ?_
  (try simp only [Act.put, List.setIfInBounds_toArray, List.set_cons_zero, List.set_cons_succ])
  refine wpG_take _ (.bool true) rfl (by rfl) (fun W hW => by rfl) ?_
  (try simp only [Act.put, List.setIfInBounds_toArray, List.set_cons_zero, List.set_cons_succ])
  refine wpG_unit _ rfl (by rfl) (w3.setRow (w.heap.size + 2) #[.slice sp1 (lwOf l1 e1).length cap1, .int .i64 (e1 : Int)]) (ex_put2 rfl rfl rfl (HB3.out.blk B3.out (by omega)) rfl rfl) ⟨HS3.out.row hsz (by omega), HX3.out.butFor (by simp; omega) (butFor_row _ _ _)⟩ ?_
  (try simp only [Act.put, List.setIfInBounds_toArray, List.set_cons_zero, List.set_cons_succ])
  refine wpG_nil ?_
  have hB7 : Blk (w3.setRow (w.heap.size + 2) #[.slice sp1 (lwOf l1 e1).length cap1, .int .i64 (e1 : Int)]) (w.heap.size + 2) [.slice sp1 (lwOf l1 e1).length cap1, .int .i64 (e1 : Int)] 38 := (HB3.out.blk B3.out (by omega)).row [_, _]
  have C0 := hB7.cell (j := 0) rfl
  have C1 := hB7.cell (j := 1) rfl
  clear hB7
  go_wp2
  exact bodyPost_ret (v := .tuple #[.bool true, .agg #[.slice sp1 (lwOf l1 e1).length cap1, .int .i64 (e1 : Int)]]) (by simp [results, Try.results15, go_sem, C0, C1]) rfl (ask_fin HR1.out HB0.out HB3.out HR3.out (by omega) hH HK.out HK0.out hll)

theorem rel_nou (l : List (BitVec 8)) (e : Nat) (n : Int) : refNou (lwOf l e) e n = (lwOf (nouOf l e n).1 (nouOf l e n).2, (nouOf l e n).2) := by
  obtain ⟨q1, q2, q3⟩ := rel_res l e n
  unfold refNou nouOf
  rw [q1, q2, q3]
  split
  · rfl
  · rfl
theorem nou_le (l : List (BitVec 8)) (e : Nat) (n : Int) : (nouOf l e n).1.length ≤ l.length := nextRes_left l e n
theorem rel_bad (l : List (BitVec 8)) : lwOf l 5 = [] := rfl
theorem rel_end (l : List (BitVec 8)) (e : Nat) : refEnd (lwOf l e) e = (lwOf l (endOf l e), endOf l e) := by
  unfold refEnd endOf leftOf badOf lwOf
  by_cases he : e = 0
  · subst he
    cases l with
    | nil => simp
    | cons x l => simp
  · simp [he]

theorem all2 (a : Option Addr) (b c : Nat) (k : IntKind) (n : Int) : (#[Value.slice a b c, .int k n].all fun x => x.oneCell') = true := by
  simp
  exact ⟨rfl, rfl⟩
/-- .. where the document's reader was read last. -/
theorem ask_fin2 {H : Nat} {K0 K : Nat → Prop} {l l1 : List (BitVec 8)} {e1 : Nat} {w w3 : World} {sp1 : Option Addr} {cap1 A : Nat} {cs : Array Value} (hr : RefIs w3 (fun g => K g ∧ g < w.heap.size) sp1 (lwOf l1 e1) cap1) (hbf : ButFor H w w3) (hrd : RdAt w3 H K0 l1 e1)
    (hA : w.heap.size ≤ A) (hH : H < w.heap.size) (hK0 : ∀ g, K0 g → g < w.heap.size) (hl : l1.length ≤ l.length) :
    AskPost H K0 K l w (.returned (.tuple #[.bool true, .agg #[.slice sp1 (lwOf l1 e1).length cap1, .int .i64 (e1 : Int)]])) (w3.setRow A cs) := by
  have hrow := butFor_row w3 A cs
  refine ⟨l1, e1, sp1, cap1, rfl, hrd.other hrow (by omega) (fun h => by have := hK0 _ h; omega), ⟨hr.1, hr.2.1, fun h0 => ?_⟩, ⟨hbf.os, hbf.tape, hbf.output, Nat.le_trans hbf.size hrow.size, fun k hk hkH => by rw [setRow_other w3 A k cs (by omega)]; exact hbf.block k hk hkH⟩, hl⟩
  obtain ⟨g, o, e, hk, hg, hc⟩ := hr.2.2 h0
  exact ⟨g, o, e, hk.1, Nat.lt_of_lt_of_le hg hrow.size, fun j hj => (hrow.cell (p := ⟨g, o + j, none⟩) hg (by simp; omega)).trans (hc j hj)⟩

set_option maxRecDepth 100000 in
set_option maxHeartbeats 2000000 in
theorem asked_nou (H : Nat) (K0 K : Nat → Prop) (l : List (BitVec 8)) (e : Nat) (sp : Option Addr) (cap : Nat) (n : Int) (w : World) (hl : l.length ≤ 100000) (hR : RdAt w H K0 l e) (hF : RefIs w K sp (lwOf l e) cap) (hK : ¬ K H) (hK0 : ∀ g, K0 g → g < w.heap.size) :
    Calls Try.prog 15 #[.pointer (some ⟨H, 0, none⟩), .agg #[.slice sp (lwOf l e).length cap, .int .i64 (e : Int)], .agg #[.int .u8 5, .int .i64 n]] w (AskPost H K0 K l w) := by
  have HR := Lib.hid hR
  have HF := Lib.hid hF
  have HK := Lib.hid hK
  have HK0 := Lib.hid hK0
  have hH : H < w.heap.size := hR.lt
  have hrel := rel_nou l e n
  have hll := nou_le l e n
  have HC := Lib.hid (noughts_any H l e n)
  obtain ⟨l1, hl1⟩ : ∃ o, (nouOf l e n).1 = o := ⟨_, rfl⟩
  obtain ⟨e1, he1⟩ : ∃ o, (nouOf l e n).2 = o := ⟨_, rfl⟩
  rw [hl1, he1] at hrel HC
  rw [hl1] at hll
  have HREL := Lib.hid hrel
  have hLl := lwOf_le l e
  obtain ⟨L, hL⟩ : ∃ L, lwOf l e = L := ⟨_, rfl⟩
  rw [hL] at HF HREL hLl ⊢
  clear hR hF hK hK0 hL hl1 he1 hrel
  go_enter Try.func15, Try.ntmps15
  go_wp2_with fail
  have HB00 : Hid (∀ o1 o2 o3, Below w.heap.size w (((w.alloc o1).alloc o2).alloc o3)) := Lib.hid (fun _ _ _ => (((Below.refl _ _).alloc (Nat.le_refl _) _).alloc (by simp) _).alloc (by simp; omega) _)
  refine (HC.out _ hl (HR.out.below (HB00.out _ _ _) (Nat.le_refl _))).mono ?_
  rintro x w1 ⟨rfl, hr1, hb1⟩
  have HR1 := Lib.hid hr1
  have HB1 := Lib.hid hb1
  have b1 : Blk w1 w.heap.size [.slice sp L.length cap, .int .i64 (e : Int)] 38 := hb1.blk (((Blk.new w [.slice sp L.length cap, .int .i64 (e : Int)] 38).alloc _).alloc _) (by omega)
  have b2 : Blk w1 (w.heap.size + 1) [.int .u8 5, .int .i64 n] 42 := hb1.blk ((Blk.new' _ _ _ 42 (w.heap.size + 1) (by simp) rfl).alloc _) (by omega)
  have b3 : Blk w1 (w.heap.size + 2) [.slice none 0 0, .int .i64 0] 38 := hb1.blk (Blk.new' _ _ _ 38 (w.heap.size + 2) (by simp) rfl) (by omega)
  have hs1 : w.heap.size + 2 < w1.heap.size := b3.lt
  have c10 := b1.cell (j := 0) rfl
  have c11 := b1.cell (j := 1) rfl
  have c20 := b2.cell (j := 0) rfl
  have c21 := b2.cell (j := 1) rfl
  have HF1 : Hid (RefIs w1 (fun g => K g ∧ g < w.heap.size) sp L cap) := Lib.hid ⟨HF.out.1, HF.out.2.1, (HF.out.up.2.2.below (HB00.out _ _ _) (Nat.le_refl _)).butFor (fun h => HK.out h.1) hb1⟩
  have HB0 : Hid (ButFor H w w1) := Lib.hid ((ButFor.of_below (HB00.out _ _ _)).trans hb1)
  have B3 := Lib.hid b3
  clear b1 b2 b3 hr1 hb1 HC
  go_wp2_with (first
    | (go_at_call 32; refine (refNou_any L sp cap e n _ (by omega) HF1.out).mono ?_; rintro x w2 ⟨sp1, cap1, rfl, hr2, hb2⟩; rw [HREL.out] at hr2 ⊢; have HR2 := Lib.hid hr2; have HB2 := Lib.hid hb2; have HB3 := Lib.hid (B3.out.below hb2 hs1); clear hr2 hb2)
    | (refine wpList_store_row rfl 38 (.tmp 7) (.tmp 99) rfl (w.heap.size + 2) #[.slice sp1 (lwOf l1 e1).length cap1, .int .i64 (e1 : Int)] rfl rfl 38 _ HB3.out size2 rfl (all2 _ _ _ _ _) ?_)
    | fail)
  have hB7 : Blk (w2.setRow (w.heap.size + 2) #[.slice sp1 (lwOf l1 e1).length cap1, .int .i64 (e1 : Int)]) (w.heap.size + 2) [.slice sp1 (lwOf l1 e1).length cap1, .int .i64 (e1 : Int)] 38 := HB3.out.row [_, _]
  have C0 := hB7.cell (j := 0) rfl
  have C1 := hB7.cell (j := 1) rfl
  clear hB7
  exact bodyPost_ret (v := .tuple #[.bool true, .agg #[.slice sp1 (lwOf l1 e1).length cap1, .int .i64 (e1 : Int)]]) (by simp [results, Try.results15, go_sem, C0, C1]) rfl (ask_fin2 HR2.out (HB0.out.trans (ButFor.of_below HB2.out)) (HR1.out.below HB2.out (Nat.le_refl _)) (by omega) hH HK0.out hll)

set_option maxRecDepth 100000 in
set_option maxHeartbeats 2000000 in
theorem asked_bad (H : Nat) (K0 K : Nat → Prop) (l : List (BitVec 8)) (e : Nat) (sp : Option Addr) (cap : Nat) (n : Int) (w : World) (hl : l.length ≤ 100000) (hR : RdAt w H K0 l e) (hF : RefIs w K sp (lwOf l e) cap) (hK : ¬ K H) (hK0 : ∀ g, K0 g → g < w.heap.size) :
    Calls Try.prog 15 #[.pointer (some ⟨H, 0, none⟩), .agg #[.slice sp (lwOf l e).length cap, .int .i64 (e : Int)], .agg #[.int .u8 6, .int .i64 n]] w (AskPost H K0 K l w) := by
  have HR := Lib.hid hR
  have HF := Lib.hid hF
  have HK := Lib.hid hK
  have HK0 := Lib.hid hK0
  have hH : H < w.heap.size := hR.lt
  by_cases he : e = 0
  · subst he
    have HB00 : Hid (∀ o1 o2 o3, Below w.heap.size w (((w.alloc o1).alloc o2).alloc o3)) := Lib.hid (fun _ _ _ => (((Below.refl _ _).alloc (Nat.le_refl _) _).alloc (by simp) _).alloc (by simp; omega) _)
    obtain ⟨L, hL⟩ : ∃ L, lwOf l 0 = L := ⟨_, rfl⟩
    rw [hL] at HF ⊢
    have HL := Lib.hid hL
    clear hL
    go_enter Try.func15, Try.ntmps15
    go_wp2_with fail
    refine (bad_any H l 0 _ (HR.out.below (HB00.out _ _ _) (Nat.le_refl _))).mono ?_
    rintro x w1 ⟨rfl, hr1, hb1⟩
    rw [show badOf 0 = 5 from rfl] at hr1
    have HR1 := Lib.hid hr1
    have b1 : Blk w1 w.heap.size [.slice sp L.length cap, .int .i64 0] 38 := hb1.blk (((Blk.new w [.slice sp L.length cap, .int .i64 0] 38).alloc _).alloc _) (by omega)
    have b3 : Blk w1 (w.heap.size + 2) [.slice none 0 0, .int .i64 0] 38 := hb1.blk (Blk.new' _ _ _ 38 (w.heap.size + 2) (by simp) rfl) (by omega)
    have hs1 : w.heap.size + 2 < w1.heap.size := b3.lt
    have c10 := b1.cell (j := 0) rfl
    have c11 := b1.cell (j := 1) rfl
    have f10 := b1.free 0
    have f11 := b1.free 1
    have HF1 : Hid (RefIs w1 (fun g => K g ∧ g < w.heap.size) sp L cap) := Lib.hid ⟨HF.out.1, HF.out.2.1, (HF.out.up.2.2.below (HB00.out _ _ _) (Nat.le_refl _)).butFor (fun h => HK.out h.1) hb1⟩
    have HB0 : Hid (ButFor H w w1) := Lib.hid ((ButFor.of_below (HB00.out _ _ _)).trans hb1)
    have B3 := Lib.hid b3
    have B1 := Lib.hid b1
    clear b1 b3 hr1 hb1 hR hF
    go_wp2_with (first
      | (refine wpList_store_row rfl 38 (.tmp 4) (.tmp 108) rfl w.heap.size #[.slice none 0 0, .int .i64 5] rfl rfl 38 _ B1.out size2 rfl (all2 _ _ _ _ _) ?_; refine (fun (q : ∀ W, ButFor w.heap.size w1 W → Blk W w.heap.size [.slice none 0 0, .int .i64 5] 38 → wpList _ _ _ _ _ W) => q _ (butFor_row _ _ _) (B1.out.row [_, _])) ?_; intro w2 hb2 h12; have HB2 := Lib.hid hb2; have H12 := Lib.hid h12; clear hb2 h12)
      | fail)
    have c20 := H12.out.cell (j := 0) rfl
    have c21 := H12.out.cell (j := 1) rfl
    have B32 := Lib.hid (HB2.out.blk B3.out (by omega))
    have S0 : Hid (Two w.heap.size (.slice none 0 0) (.int .i64 5) w2.drew) := Lib.hid ⟨c20, c21⟩
    refine wp_region_sched (.take 0 (.take 1 (.step 2 (.nil)))) (by kernel_rfl) (by kernel_rfl) (fun d _ _ _ _ h => by cases d <;> exact h) (Two w.heap.size (.slice none 0 0) (.int .i64 5)) S0.out ?_
    refine wpG_take _ (.agg #[.slice none 0 0, .int .i64 5]) rfl (by rfl) (fun W hW => ex_two rfl rfl hW) ?_
    (try simp only [Act.put, List.setIfInBounds_toArray, List.set_cons_zero, List.set_cons_succ])
    refine wpG_take _ (.bool true) rfl (by rfl) (fun W hW => by rfl) ?_
    (try simp only [Act.put, List.setIfInBounds_toArray, List.set_cons_zero, List.set_cons_succ])
    refine wpG_unit _ rfl (by rfl) (w2.drew.setRow (w.heap.size + 2) #[.slice none 0 0, .int .i64 5]) (ex_put2 rfl rfl rfl (show Blk w2.drew _ _ _ from B32.out) rfl rfl) (two_row S0.out (by have := H12.out.lt; simpa using this) (by omega) _) ?_
    (try simp only [Act.put, List.setIfInBounds_toArray, List.set_cons_zero, List.set_cons_succ])
    refine wpG_nil ?_
    have hB7 : Blk (w2.drew.setRow (w.heap.size + 2) #[.slice none 0 0, .int .i64 5]) (w.heap.size + 2) [.slice none 0 0, .int .i64 5] 38 := (show Blk w2.drew _ _ _ from B32.out).row [_, _]
    have C0 := hB7.cell (j := 0) rfl
    have C1 := hB7.cell (j := 1) rfl
    clear hB7
    go_wp2
    have HRW : Hid (RdAt w2 H K0 l 5) := Lib.hid (HR1.out.other (J := w.heap.size) HB2.out (by omega) (fun h => by have := HK0.out _ h; omega))
    have HBF : Hid (ButFor H w w2.drew) := Lib.hid ⟨HB2.out.os.trans HB0.out.os, HB2.out.tape.trans HB0.out.tape, HB2.out.output.trans HB0.out.output, Nat.le_trans HB0.out.size HB2.out.size, fun k hk hkH => (HB2.out.block k (Nat.lt_of_lt_of_le hk HB0.out.size) (by omega)).trans (HB0.out.block k hk hkH)⟩
    exact bodyPost_ret (v := .tuple #[.bool true, .agg #[.slice none 0 0, .int .i64 5]]) (by simp [results, Try.results15, go_sem, C0, C1]) rfl (ask_fin2 (l1 := l) (e1 := 5) (w3 := w2.drew) (A := w.heap.size + 2) (sp1 := none) (cap1 := 0) (refNil _ _) HBF.out (show RdAt w2.drew H K0 l 5 from HRW.out) (by omega) hH HK0.out (Nat.le_refl _))
  · have HE := Lib.hid he
    have e1 : ((e : Int) == 0) = false := by rw [beq_eq_false_iff_ne]; omega
    have e2 : ¬ (e : Int) = 0 := by omega
    clear he
    have HB00 : Hid (∀ o1 o2 o3, Below w.heap.size w (((w.alloc o1).alloc o2).alloc o3)) := Lib.hid (fun _ _ _ => (((Below.refl _ _).alloc (Nat.le_refl _) _).alloc (by simp) _).alloc (by simp; omega) _)
    obtain ⟨L, hL⟩ : ∃ L, lwOf l e = L := ⟨_, rfl⟩
    rw [hL] at HF ⊢
    have HL := Lib.hid hL
    clear hL
    go_enter Try.func15, Try.ntmps15
    go_wp2_with fail
    refine (bad_any H l e _ (HR.out.below (HB00.out _ _ _) (Nat.le_refl _))).mono ?_
    rintro x w1 ⟨rfl, hr1, hb1⟩
    rw [show badOf e = e from if_neg HE.out] at hr1
    have HR1 := Lib.hid hr1
    have b1 : Blk w1 w.heap.size [.slice sp L.length cap, .int .i64 (e : Int)] 38 := hb1.blk (((Blk.new w [.slice sp L.length cap, .int .i64 (e : Int)] 38).alloc _).alloc _) (by omega)
    have b3 : Blk w1 (w.heap.size + 2) [.slice none 0 0, .int .i64 0] 38 := hb1.blk (Blk.new' _ _ _ 38 (w.heap.size + 2) (by simp) rfl) (by omega)
    have hs1 : w.heap.size + 2 < w1.heap.size := b3.lt
    have c10 := b1.cell (j := 0) rfl
    have c11 := b1.cell (j := 1) rfl
    have f10 := b1.free 0
    have f11 := b1.free 1
    have HF1 : Hid (RefIs w1 (fun g => K g ∧ g < w.heap.size) sp L cap) := Lib.hid ⟨HF.out.1, HF.out.2.1, (HF.out.up.2.2.below (HB00.out _ _ _) (Nat.le_refl _)).butFor (fun h => HK.out h.1) hb1⟩
    have HB0 : Hid (ButFor H w w1) := Lib.hid ((ButFor.of_below (HB00.out _ _ _)).trans hb1)
    have B3 := Lib.hid b3
    have B1 := Lib.hid b1
    clear b1 b3 hr1 hb1 hR hF
    go_wp2
    have S0 : Hid (Two w.heap.size (.slice sp L.length cap) (.int .i64 (e : Int)) w1.drew) := Lib.hid ⟨c10, c11⟩
    refine wp_region_sched (.take 0 (.take 1 (.step 2 (.nil)))) (by kernel_rfl) (by kernel_rfl) (fun d _ _ _ _ h => by cases d <;> exact h) (Two w.heap.size (.slice sp L.length cap) (.int .i64 (e : Int))) S0.out ?_
    refine wpG_take _ (.agg #[.slice sp L.length cap, .int .i64 (e : Int)]) rfl (by rfl) (fun W hW => ex_two rfl rfl hW) ?_
    (try simp only [Act.put, List.setIfInBounds_toArray, List.set_cons_zero, List.set_cons_succ])
    refine wpG_take _ (.bool true) rfl (by rfl) (fun W hW => by rfl) ?_
    (try simp only [Act.put, List.setIfInBounds_toArray, List.set_cons_zero, List.set_cons_succ])
    refine wpG_unit _ rfl (by rfl) (w1.drew.setRow (w.heap.size + 2) #[.slice sp L.length cap, .int .i64 (e : Int)]) (ex_put2 rfl rfl rfl (show Blk w1.drew _ _ _ from B3.out) rfl rfl) (two_row S0.out (by have := B1.out.lt; simpa using this) (by omega) _) ?_
    (try simp only [Act.put, List.setIfInBounds_toArray, List.set_cons_zero, List.set_cons_succ])
    refine wpG_nil ?_
    have hB7 : Blk (w1.drew.setRow (w.heap.size + 2) #[.slice sp L.length cap, .int .i64 (e : Int)]) (w.heap.size + 2) [.slice sp L.length cap, .int .i64 (e : Int)] 38 := (show Blk w1.drew _ _ _ from B3.out).row [_, _]
    have C0 := hB7.cell (j := 0) rfl
    have C1 := hB7.cell (j := 1) rfl
    clear hB7
    go_wp2
    exact bodyPost_ret (v := .tuple #[.bool true, .agg #[.slice sp L.length cap, .int .i64 (e : Int)]]) (by simp [results, Try.results15, go_sem, C0, C1]) rfl (by rw [← HL.out]; exact ask_fin2 (l1 := l) (e1 := e) (by rw [HL.out]; exact (show RefIs w1.drew _ _ _ _ from HF1.out)) (show ButFor H w w1.drew from HB0.out.drew) (show RdAt w1.drew H K0 l e from HR1.out) (by omega) hH HK0.out (Nat.le_refl _))

set_option maxRecDepth 100000 in
set_option maxHeartbeats 2000000 in
theorem asked_end (H : Nat) (K0 K : Nat → Prop) (l : List (BitVec 8)) (e : Nat) (sp : Option Addr) (cap : Nat) (n : Int) (d : Int) (h0 : d ≠ 0) (h1 : d ≠ 1) (h2 : d ≠ 2) (h3 : d ≠ 3) (h4 : d ≠ 4) (h5 : d ≠ 5) (h6 : d ≠ 6) (w : World) (hl : l.length ≤ 100000) (hR : RdAt w H K0 l e) (hF : RefIs w K sp (lwOf l e) cap) (hK : ¬ K H) (hK0 : ∀ g, K0 g → g < w.heap.size) :
    Calls Try.prog 15 #[.pointer (some ⟨H, 0, none⟩), .agg #[.slice sp (lwOf l e).length cap, .int .i64 (e : Int)], .agg #[.int .u8 (d : Int), .int .i64 n]] w (AskPost H K0 K l w) := by
  have HR := Lib.hid hR
  have HF := Lib.hid hF
  have HK := Lib.hid hK
  have HK0 := Lib.hid hK0
  have hH : H < w.heap.size := hR.lt
  have g0 : (d == 0) = false := by rw [beq_eq_false_iff_ne]; exact h0
  have g1 : (d == 1) = false := by rw [beq_eq_false_iff_ne]; exact h1
  have g2 : (d == 2) = false := by rw [beq_eq_false_iff_ne]; exact h2
  have g3 : (d == 3) = false := by rw [beq_eq_false_iff_ne]; exact h3
  have g4 : (d == 4) = false := by rw [beq_eq_false_iff_ne]; exact h4
  have g5 : (d == 5) = false := by rw [beq_eq_false_iff_ne]; exact h5
  have g6 : (d == 6) = false := by rw [beq_eq_false_iff_ne]; exact h6
  have hrel := rel_end l e
  obtain ⟨e1, he1⟩ : ∃ o, endOf l e = o := ⟨_, rfl⟩
  have HEN : Hid (∀ (W : World), RdAt W H K0 l e → Calls Try.prog 25 #[.pointer (some ⟨H, 0, none⟩)] W (EndPost H K0 l e1 W)) := Lib.hid (fun W h => by rw [← he1]; exact end_any H l e W h)
  rw [he1] at hrel
  have HREL := Lib.hid hrel
  obtain ⟨L, hL⟩ : ∃ L, lwOf l e = L := ⟨_, rfl⟩
  rw [hL] at HF HREL ⊢
  clear hR hF hK hK0 hL he1 hrel hl
  go_enter Try.func15, Try.ntmps15
  go_wp2_with fail
  have HB00 : Hid (∀ o1 o2 o3, Below w.heap.size w (((w.alloc o1).alloc o2).alloc o3)) := Lib.hid (fun _ _ _ => (((Below.refl _ _).alloc (Nat.le_refl _) _).alloc (by simp) _).alloc (by simp; omega) _)
  refine (refEnd_any L sp cap e _ (K := fun g => K g ∧ g < w.heap.size) (HF.out.up.below (HB00.out _ _ _))).mono ?_
  rintro x w1 ⟨sp1, cap1, rfl, hr1, hb⟩
  rw [HREL.out] at hr1 ⊢
  have HR1 := Lib.hid hr1
  have b3 : Blk w1 (w.heap.size + 2) [.slice none 0 0, .int .i64 0] 38 := (Blk.new' _ _ _ 38 (w.heap.size + 2) (by simp) rfl).below hb (by simp)
  have hsz : w.heap.size + 2 < w1.heap.size := b3.lt
  have HB0 : Hid (Below w.heap.size w w1) := Lib.hid (((((Below.refl _ _).alloc (Nat.le_refl _) _).alloc (by simp) _).alloc (by simp; omega) _).trans (hb.mono (by simp; omega)))
  have B3 := Lib.hid b3
  obtain ⟨w2, hw2⟩ : ∃ W, (w1.alloc (.cells #[.slice sp1 (lwOf l e1).length cap1, .int .i64 (e1 : Int)] 38)).drew = W := ⟨_, rfl⟩
  have hb12 : Below w1.heap.size w1 w2 := by rw [← hw2]; exact ((Below.refl _ _).alloc (Nat.le_refl _) _).drew
  have hs2 : w2.heap.size = w1.heap.size + 1 := by rw [← hw2]; simp
  have HRD : Hid (RdAt w2 H K0 l e) := Lib.hid ((HR.out.below HB0.out (Nat.le_refl _)).below hb12 (Nat.le_refl _))
  have HS0 : Hid (Two w1.heap.size (.slice sp1 (lwOf l e1).length cap1) (.int .i64 (e1 : Int)) w2) := Lib.hid (by rw [← hw2]; exact ⟨(Blk.new w1 [_, _] 38).cell (j := 0) rfl, (Blk.new w1 [_, _] 38).cell (j := 1) rfl⟩)
  have HC12 := Lib.hid hb12
  clear b3 hb hr1 hb12
  go_wp2
  refine wp_region_sched (.take 0 (.take 2 (.take 3 (.take 5 (.step 1 (.take 4 (.take 6 (.step 7 (.nil))))))))) (by kernel_rfl) (by kernel_rfl) (fun d _ _ _ _ h => by cases d <;> exact h) (Two w1.heap.size (.slice sp1 (lwOf l e1).length cap1) (.int .i64 (e1 : Int))) (by rw [hw2]; exact HS0.out) ?_
  rw [hw2]
  clear hw2
  refine wpG_take _ (.pointer (some ⟨H, 0, none⟩)) rfl (by rfl) (fun W hW => by rfl) ?_
  (try simp only [Act.put, List.setIfInBounds_toArray, List.set_cons_zero, List.set_cons_succ])
  refine wpG_take _ (.pointer (some ⟨w1.heap.size, 1, none⟩)) rfl (by rfl) (fun W hW => by go_simp) ?_
  (try simp only [Act.put, List.setIfInBounds_toArray, List.set_cons_zero, List.set_cons_succ])
  refine wpG_take _ (.int .i64 (e1 : Int)) rfl (by rfl) (fun W hW => by have hc := hW.2; go_simp) ?_
  (try simp only [Act.put, List.setIfInBounds_toArray, List.set_cons_zero, List.set_cons_succ])
  refine wpG_take _ (.agg #[.slice sp1 (lwOf l e1).length cap1, .int .i64 (e1 : Int)]) rfl (by rfl) (fun W hW => ex_two rfl rfl hW) ?_
  (try simp only [Act.put, List.setIfInBounds_toArray, List.set_cons_zero, List.set_cons_succ])
  refine wpG_call _ rfl (by rfl) 25 #[.pointer (some ⟨H, 0, none⟩)] (fun _ => by go_simp) (fun v w3 => v = .int .i64 (e1 : Int) ∧ RdAt w3 H K0 l e1 ∧ ButFor H w2 w3)
    ((HEN.out w2 HRD.out).mono fun x w3 ⟨hx, h1, h2⟩ => ⟨_, hx, two_butFor HS0.out (by omega) h2 (by omega), rfl, h1, h2⟩) ?_
  rintro v w3 hS3 ⟨rfl, hr3, hb3⟩
  have HS3 := Lib.hid hS3
  have HR3 := Lib.hid hr3
  have HB3 : Hid (ButFor H w1 w3) := Lib.hid ((ButFor.of_below HC12.out).trans hb3)
  have hsz3 : w1.heap.size < w3.heap.size := by have := hb3.size; omega
  clear hS3 hr3 hb3
  refine ⟨_, fun _ h => h, HS3.out, ?_⟩
  (try simp only [Act.put, List.setIfInBounds_toArray, List.set_cons_zero, List.set_cons_succ])
  refine wpG_take _ (.bool true) rfl (by rfl) (fun W hW => by go_simp) ?_
  (try simp only [Act.put, List.setIfInBounds_toArray, List.set_cons_zero, List.set_cons_succ])
  refine wpG_take _ (.bool true) rfl (by rfl) (fun W hW => by rfl) ?_
  (try simp only [Act.put, List.setIfInBounds_toArray, List.set_cons_zero, List.set_cons_succ])
  refine wpG_unit _ rfl (by rfl) (w3.setRow (w.heap.size + 2) #[.slice sp1 (lwOf l e1).length cap1, .int .i64 (e1 : Int)]) (ex_put2 rfl rfl rfl (HB3.out.blk B3.out (by omega)) rfl rfl) (two_row HS3.out (by omega) (by omega) _) ?_
  (try simp only [Act.put, List.setIfInBounds_toArray, List.set_cons_zero, List.set_cons_succ])
  refine wpG_nil ?_
  have hB7 : Blk (w3.setRow (w.heap.size + 2) #[.slice sp1 (lwOf l e1).length cap1, .int .i64 (e1 : Int)]) (w.heap.size + 2) [.slice sp1 (lwOf l e1).length cap1, .int .i64 (e1 : Int)] 38 := (HB3.out.blk B3.out (by omega)).row [_, _]
  have C0 := hB7.cell (j := 0) rfl
  have C1 := hB7.cell (j := 1) rfl
  clear hB7
  go_wp2
  exact bodyPost_ret (v := .tuple #[.bool true, .agg #[.slice sp1 (lwOf l e1).length cap1, .int .i64 (e1 : Int)]]) (by simp [results, Try.results15, go_sem, C0, C1]) rfl (ask_fin HR1.out HB0.out HB3.out HR3.out (by omega) hH HK.out HK0.out (Nat.le_refl _))
end Go.Proofs.Ytfamohnbaelccaa
