/- Whether a block fits a pointer: Fits. -/
import Derived.Test.YtmgagalhpkieoaaGreatDoorM23
import Derived.Test.YtmgagalhpkieoaaGreatDoorM01
import Derived.Test.YtmgagalhpkieoaaGreatDoorProg
import Derived.IntWalk
import Derived.Outline
import Derived.Deep.QuietTactic
import Derived.BigQuiet
import Derived.WalkSpells
import Derived.Test.YtmgagalhpkieoaaGreatDoorM13
import Derived.Test.YtmgagalhpkieoaaGreatDoorM15
namespace Go.Proofs.YtmgagalhpkieoaaGreatDoor
open Go.RowKit

theorem ex_eqi {ρ : Operand → Value} {o : Oper} {x y : Operand} {k : IntKind} {a b : Int} {w : World} {ty : TypeId} (hu : Tryz.prog.underlying ty = some (.int k)) (ho : o.op = .binOp .eql ty x y ty) (hx : ρ x = .int k a) (hy : ρ y = .int k b) : (execOp ρ o).run Tryz.prog w = .ok (.value (.bool (decide (a = b)))) w := by
  have h := run_equalIn_int (P := Tryz.prog) w 9999 ty k k a b hu
  unfold execOp
  simp only [ho]
  go_simp
  by_cases h : a = b <;> simp [h]
theorem ex_nei {ρ : Operand → Value} {o : Oper} {x y : Operand} {k : IntKind} {a b : Int} {w : World} {ty : TypeId} (hu : Tryz.prog.underlying ty = some (.int k)) (ho : o.op = .binOp .neq ty x y ty) (hx : ρ x = .int k a) (hy : ρ y = .int k b) : (execOp ρ o).run Tryz.prog w = .ok (.value (.bool (!decide (a = b)))) w := by
  have h := run_equalIn_int (P := Tryz.prog) w 9999 ty k k a b hu
  unfold execOp
  simp only [ho]
  go_simp
  by_cases h : a = b <;> simp [h]
def fitsP (p : Pt) (bs : Bs) : Bool := decide (bs.length = 512) && decide (digest (tagB p ++ bs) = p.hash)
theorem fitsP_eq (p : Pt) (bs : Bs) (h : bs.length = 512) : eqP (sealP p bs) p = fitsP p bs := by
  rw [Bool.eq_iff_iff]
  simp [eqP, sealP, fitsP, h]
  exact ⟨of_decide_eq_true, decide_eq_true⟩
def FtS (p : Pt) (w : World) (sp : Option Addr) (bs : Bs) (X : World) : Prop := Blk X w.heap.size (pcells p) 58 ∧ SrcA X sp bs ∧ Tab X ∧ Below w.heap.size w X
theorem FtS.grown {p : Pt} {w X Y : World} {sp : Option Addr} {bs : Bs} (h : FtS p w sp bs X) (hb : Below X.heap.size X Y) : FtS p w sp bs Y :=
  ⟨h.1.below hb h.1.lt, h.2.1.grown hb, h.2.2.1.below hb (Nat.le_refl _), h.2.2.2.trans (hb.mono h.2.2.2.size)⟩
theorem FtS.drew {p : Pt} {w X : World} {sp : Option Addr} {bs : Bs} (h : FtS p w sp bs X) : FtS p w sp bs X.drew := ⟨h.1, h.2.1, h.2.2.1, h.2.2.2.drew⟩
theorem fts_start {p : Pt} {w : World} {sp : Option Addr} {bs : Bs} (hS : SrcA w sp bs) (hT : Tab w) : FtS p w sp bs (w.alloc (.cells (pcells p).toArray 58)) :=
  ⟨Blk.new _ _ _, hS.grown ((Below.refl _ _).alloc (Nat.le_refl _) _), hT.alloc _, (Below.refl _ _).alloc (Nat.le_refl _) _⟩
set_option maxRecDepth 100000 in
set_option maxHeartbeats 4000000 in
theorem fits_any (p : Pt) (hp : p.OK) (bs : Bs) (sp : Option Addr) (cap : Nat) (w : World) (hl : bs.length ≤ 100000) (hc : bs.length ≤ cap) (hc2 : cap ≤ maxLen) (hS : SrcA w sp bs) (hT : Tab w) :
    Calls Tryz.prog 23 #[.agg (pcells p).toArray, .slice sp bs.length cap] w fun e w' => e = .returned (.bool (fitsP p bs)) ∧ Below w.heap.size w w' := by
  have HP := Lib.hid hp
  have HSP := Lib.hid (size_pc hp)
  have HW : Hid (FtS p w sp bs (w.alloc (.cells (pcells p).toArray 58))) := Lib.hid (fts_start hS hT)
  obtain ⟨L, hL⟩ : ∃ L, bs.length = L := ⟨_, rfl⟩
  have HL := Lib.hid hL
  have HC : Hid (L ≤ cap) := Lib.hid (by omega)
  have HC2 := Lib.hid hc2
  have HLL : Hid (L ≤ 100000) := Lib.hid (by omega)
  rw [hL]
  obtain ⟨f, hf⟩ : ∃ f, fitsP p bs = f := ⟨_, rfl⟩
  have HF := Lib.hid hf
  rw [hf]
  clear hp hS hT hc hc2 hl hL hf
  go_enter Tryz.func23, Tryz.ntmps23
  go_upto_region 1 with fail
  generalize (w.alloc (.cells (pcells p).toArray 58)) = W at HW ⊢
  by_cases h5 : L = 512
  · have ih : (L : Int) = 512 := by omega
    have hd : decide ((L : Int) = 512) = true := decide_eq_true ih
    have HD := Lib.hid hd
    have hsl := seal_any p HP.out bs sp cap W.drew (by rw [HL.out]; exact HLL.out) (by rw [HL.out]; exact HC.out) HC2.out HW.out.drew.2.1 HW.out.drew.2.2.1
    rw [HL.out] at hsl
    have HSL := Lib.hid hsl
    have hfq : f = eqP (sealP p bs) p := by rw [fitsP_eq p bs (by rw [HL.out]; exact h5)]; exact HF.out.symm
    have HFQ := Lib.hid hfq
    clear hd hsl hfq
    refine gS (.take 0 (.take 1 (.take 2 (.take 3 (.take 4 (.take 5 (.take 7 (.step 6 (.take 8 (.take 9 (.take 10 (.nil)))))))))))) (FtS p w sp bs) HW.out.drew ?_
    refine gT (.slice sp L cap) ?_; try simp only [pS]
    refine gT (.int .i64 (L : Int)) ?_; try simp only [pS]
    refine wpG_take _ (.bool true) rfl (by rfl) (fun X hX => by rw [← HD.out]; exact ex_eqi Tryz.underlying3 rfl rfl rfl) ?_; try simp only [pS]
    refine gT (.bool true) ?_; try simp only [pS]
    refine wpG_take _ (.agg (pcells p).toArray) rfl (by rfl) (fun X hX => ex_ld (ty := 58) (cs := pcells p) rfl rfl (rng_all hX.1) Tryz.underlying58 rfl (by rw [sizeP, pcells_length HP.out])) ?_; try simp only [pS]
    refine gT (.slice sp L cap) ?_; try simp only [pS]
    refine wpG_take _ (.agg (pcells p).toArray) rfl (by rfl) (fun X hX => ex_ld (ty := 58) (cs := pcells p) rfl rfl (rng_all hX.1) Tryz.underlying58 rfl (by rw [sizeP, pcells_length HP.out])) ?_; try simp only [pS]
    refine wpG_call _ rfl (by rfl) 64 #[.agg (pcells p).toArray, .slice sp L cap] (fun _ => by go_simp) (fun u w' => u = .agg (pcells (sealP p bs)).toArray) (HSL.out.mono fun e w' ⟨e1, e2⟩ => ⟨_, e1, HW.out.drew.grown e2, rfl⟩) ?_
    rintro u w3 hs3 rfl
    refine ⟨_, fun _ h => h, hs3, ?_⟩; try simp only [pS]
    refine wpG_take _ (.bool f) rfl (by rfl) (fun X hX => by rw [HFQ.out]; exact ex_eqP rfl rfl rfl (sealP_ok HP.out bs) HP.out) ?_; try simp only [pS]
    refine gT (.bool f) ?_; try simp only [pS]
    refine gT (.bool f) ?_; try simp only [pS]
    refine wpG_nil ?_
    have HB := Lib.hid hs3.2.2.2
    clear hs3
    go_wp2_with fail
    go_ret
    exact ⟨rfl, HB.out⟩
  · have ih : ¬ (L : Int) = 512 := by omega
    have hd : decide ((L : Int) = 512) = false := decide_eq_false ih
    have hf : f = false := by rw [← HF.out]; unfold fitsP; rw [decide_eq_false (by rw [HL.out]; exact h5)]; rfl
    have HD := Lib.hid hd
    subst hf
    clear hd
    refine gS (.take 0 (.take 1 (.take 2 (.take 3 (.take 4 (.take 5 (.take 7 (.step 6 (.take 8 (.take 9 (.take 10 (.nil)))))))))))) (FtS p w sp bs) HW.out.drew ?_
    refine gT (.slice sp L cap) ?_; try simp only [pS]
    refine gT (.int .i64 (L : Int)) ?_; try simp only [pS]
    refine wpG_take _ (.bool false) rfl (by rfl) (fun X hX => by rw [← HD.out]; exact ex_eqi Tryz.underlying3 rfl rfl rfl) ?_; try simp only [pS]
    refine gT (.bool false) ?_; try simp only [pS]
    refine wpG_pass _ rfl (by rfl) ?_; try simp only [pS]
    refine wpG_pass _ rfl (by rfl) ?_; try simp only [pS]
    refine wpG_pass _ rfl (by rfl) ?_; try simp only [pS]
    refine wpG_skip _ rfl (by rfl) HW.out.drew ?_; try simp only [pS]
    refine wpG_pass _ rfl (by rfl) ?_; try simp only [pS]
    refine gT (.bool false) ?_; try simp only [pS]
    refine gT (.bool false) ?_; try simp only [pS]
    refine wpG_nil ?_
    have HB := Lib.hid HW.out.drew.2.2.2
    clear HW
    go_wp2_with fail
    go_ret
    exact ⟨rfl, HB.out⟩
end Go.Proofs.YtmgagalhpkieoaaGreatDoor
/- A space as plain data; the memory that holds it. -/
namespace Go.Proofs.YtmgagalhpkieoaaGreatDoor
open Go.RowKit

structure Ax where
  is : Nat
  sick : Bool
deriving DecidableEq
def acells : List Ax → List Value
  | [] => []
  | a :: l => .int .u8 (a.is : Int) :: .bool a.sick :: acells l
theorem acells_length : ∀ l : List Ax, (acells l).length = l.length * 2
  | [] => rfl
  | a :: l => by simp [acells, acells_length l]; omega
theorem acells_get : ∀ (l : List Ax) (i : Nat) (a : Ax), l[i]? = some a → (acells l)[i * 2]? = some (.int .u8 (a.is : Int)) ∧ (acells l)[i * 2 + 1]? = some (.bool a.sick)
  | [], i, a, h => by simp at h
  | b :: l, 0, a, h => by simp at h; subst h; exact ⟨rfl, rfl⟩
  | b :: l, i + 1, a, h => by
    have := acells_get l i a (by simpa using h)
    have e : (i + 1) * 2 = i * 2 + 1 + 1 := by omega
    rw [e]
    simpa [acells] using this
theorem acells_sick : ∀ (l : List Ax) (i : Nat) (a : Ax) (b : Bool), l[i]? = some a → (acells l).set (i * 2 + 1) (.bool b) = acells (l.set i { a with sick := b })
  | [], i, a, n, h => by simp at h
  | b :: l, 0, a, n, h => by simp at h; subst h; rfl
  | b :: l, i + 1, a, n, h => by
    have := acells_sick l i a n (by simpa using h)
    have e : (i + 1) * 2 = i * 2 + 1 + 1 := by omega
    rw [e]
    simpa [acells] using this
abbrev Sp := Nat → List Ax
def put (sp : Sp) (d : Nat) (l : List Ax) : Sp := fun x => if x = d then l else sp x
theorem put_same (sp : Sp) (d : Nat) (l : List Ax) : put sp d l d = l := by simp [put]
theorem put_other (sp : Sp) {d x : Nat} (l : List Ax) (h : x ≠ d) : put sp d l x = sp x := by simp [put, h]
def slv (B : Nat) (n : Nat) : Value := .slice (some ⟨B, 0, none⟩) n n
structure SpAt (w : World) (D : Nat) (B : Nat → Nat) (sp : Sp) : Prop where
  blk : Blk w D [slv (B 0) (sp 0).length, slv (B 1) (sp 1).length] 163
  ax : ∀ d, d < 2 → Blk w (B d) (acells (sp d)) 150
  apart : B 0 ≠ B 1
  len : ∀ d, d < 2 → (sp d).length ≤ 4095
def Of (B : Nat → Nat) (k : Nat) : Prop := k = B 0 ∨ k = B 1
theorem of_at (B : Nat → Nat) {d : Nat} (hd : d < 2) : Of B (B d) := by
  obtain rfl | rfl : d = 0 ∨ d = 1 := by omega
  · exact .inl rfl
  · exact .inr rfl
theorem SpAt.cell {w : World} {D : Nat} {B : Nat → Nat} {sp : Sp} (h : SpAt w D B sp) {d : Nat} (hd : d < 2) : w.cell? ⟨D, d, none⟩ = some (.slice (some ⟨B d, 0, none⟩) (sp d).length (sp d).length) := by
  obtain rfl | rfl : d = 0 ∨ d = 1 := by omega
  · exact h.blk.cell rfl
  · exact h.blk.cell rfl
theorem SpAt.chg {F : Nat → Prop} {w w' : World} {D : Nat} {B : Nat → Nat} {sp : Sp} (h : SpAt w D B sp) (hc : Chg F w w') (hD : ¬ F D) (hF : ∀ d, d < 2 → ¬ F (B d)) : SpAt w' D B sp :=
  ⟨h.blk.chg hc hD, fun d hd => (h.ax d hd).chg hc (hF d hd), h.apart, h.len⟩
theorem SpAt.below {w w' : World} {D : Nat} {B : Nat → Nat} {sp : Sp} (h : SpAt w D B sp) (hc : Below w.heap.size w w') : SpAt w' D B sp := h.chg (Chg.of_below (F := fun _ => False) hc) (fun h => h) (fun _ _ h => h)
theorem SpAt.turned {w w' : World} {D : Nat} {B : Nat → Nat} {sp : Sp} (h : SpAt w D B sp) {d : Nat} (hd : d < 2) {l : List Ax} (hl : l.length = (sp d).length) (hb : Blk w' (B d) (acells l) 150) (hc : Chg (fun k => k = B d) w w') : SpAt w' D B (put sp d l) := by
  have hD : ¬ D = B d := h.blk.not (h.ax d hd) (by decide)
  have hlen : ∀ x, (put sp d l x).length = (sp x).length := fun x => by
    unfold put; split
    · rename_i e; rw [hl, e]
    · rfl
  refine ⟨?_, fun x hx => ?_, h.apart, fun x hx => by rw [hlen]; exact h.len x hx⟩
  · rw [hlen, hlen]
    exact h.blk.chg hc hD
  · by_cases e : x = d
    · subst e; rw [put_same]; exact hb
    · rw [put_other sp l e]
      refine (h.ax x hx).chg hc (fun e2 => ?_)
      have hxd : (x = 0 ∧ d = 1) ∨ (x = 1 ∧ d = 0) := by omega
      rcases hxd with ⟨rfl, rfl⟩ | ⟨rfl, rfl⟩
      · exact h.apart e2
      · exact h.apart e2.symm
theorem chg_of {B : Nat → Nat} {d : Nat} (hd : d < 2) {w w' : World} (h : Chg (fun k => k = B d) w w') : Chg (Of B) w w' := h.mono (fun k hk => by rw [hk]; exact of_at B hd)
end Go.Proofs.YtmgagalhpkieoaaGreatDoor
/- The acts on one address, walked: turn's, Sick's, Is's; how many addresses a disk has. -/
namespace Go.Proofs.YtmgagalhpkieoaaGreatDoor
open Go.RowKit

def turnE (f : Nat) (a : Ax) : Nat := if a.is = f then 0 else 5
set_option maxRecDepth 100000 in
set_option maxHeartbeats 4000000 in
theorem sick_in (B i : Nat) (l : List Ax) (a : Ax) (w : World) (hi : l[i]? = some a) (hb : Blk w B (acells l) 150) :
    Calls Tryz.prog 123 #[.pointer (some ⟨B, i * 2, none⟩)] w fun e w' => e = .returned (.int .i64 0) ∧ Blk w' B (acells (l.set i { a with sick := true })) 150 ∧ Chg (fun k => k = B) w w' := by
  have c0 := hb.cell (acells_get l i a hi).2
  have f0 := hb.free (i * 2 + 1)
  have HI := Lib.hid hi; have HB := Lib.hid hb
  clear hi hb
  go_enter Tryz.func123, Tryz.ntmps123
  go_wp2_with fail
  go_ret
  refine ⟨rfl, ?_, ?_⟩
  · rw [← acells_sick l i a true HI.out]
    exact HB.out.set _ _
  · exact chg1 _ _ _ _
set_option maxRecDepth 100000 in
set_option maxHeartbeats 4000000 in
theorem is_in (B i g : Nat) (l : List Ax) (a : Ax) (b : Bool) (w : World) (hi : l[i]? = some a) (hb : Blk w B (acells l) 150) (hg : Blk w g [.bool b] 4) :
    Calls Tryz.prog 74 #[.pointer (some ⟨B, i * 2, none⟩), .pointer (some ⟨g, 0, none⟩)] w fun e w' => e = .returned (.int .i64 0) ∧ Blk w' g [.bool a.sick] 4 ∧ Chg (fun k => k = g) w w' := by
  have c0 := hb.cell (acells_get l i a hi).2
  have cg := hg.cell (j := 0) rfl
  have fg := hg.free 0
  have HG := Lib.hid hg
  clear hi hb hg
  go_enter Tryz.func74, Tryz.ntmps74
  go_wp2_with fail
  go_ret
  exact ⟨rfl, HG.out.set 0 _, chg1 _ _ _ _⟩
theorem cfS (args : Array Value) (w : World) : (callFunc 123 args).run Tryz.prog w = .ok (.enter 123 args) w := by go_simp
theorem cfI (args : Array Value) (w : World) : (callFunc 74 args).run Tryz.prog w = .ok (.enter 74 args) w := by go_simp

set_option maxRecDepth 100000 in
set_option maxHeartbeats 4000000 in
theorem size_any (d : Nat) (w : World) (D : Nat) (B : Nat → Nat) (sp : Sp) (h : SpAt w D B sp) (hd : d < 2) : Calls Tryz.prog 104 #[.pointer (some ⟨D, 0, none⟩), .int .i64 (d : Int)] w fun e w' => e = .returned (.int .i64 ((sp d).length : Nat)) ∧ w = w' := by
  have c0 := h.cell hd
  have hd0 : ¬ (d : Int) < 0 := by omega
  have hd1 : ¬ 2 ≤ (d : Int) := by omega
  clear h
  go_enter Tryz.func104, Tryz.ntmps104
  go_wp2_with fail
  go_ret
  exact ⟨rfl, rfl⟩
end Go.Proofs.YtmgagalhpkieoaaGreatDoor
/- one, all: an act on an address, or on all of them. -/
namespace Go.Proofs.YtmgagalhpkieoaaGreatDoor
open Go.RowKit

set_option maxRecDepth 100000 in
set_option maxHeartbeats 4000000 in
theorem one_zero (d : Int) (D : Nat) (v : Value) (w : World) : Calls Tryz.prog 73 #[.pointer (some ⟨D, 0, none⟩), .int .i64 d, .int .u16 0, v] w fun e w' => e = .returned (.int .i64 1) ∧ w = w' := by
  go_enter Tryz.func73, Tryz.ntmps73
  go_wp2_with fail
  go_ret
  exact ⟨rfl, rfl⟩
set_option maxRecDepth 100000 in
set_option maxHeartbeats 4000000 in
theorem one_far (d D a : Nat) (B : Nat → Nat) (sp : Sp) (v : Value) (w : World) (h : SpAt w D B sp) (hd : d < 2) (ha : a < 65536) (hf : (sp d).length < a) : Calls Tryz.prog 73 #[.pointer (some ⟨D, 0, none⟩), .int .i64 (d : Int), .int .u16 (a : Int), v] w fun e w' => e = .returned (.int .i64 1) ∧ w = w' := by
  have wk := IntWalk.i64_in (a : Int) (by omega)
  have h1 : ¬ (a : Int) < 1 := by omega
  have H := Lib.hid h
  have HD := Lib.hid hd
  clear h hd
  obtain ⟨n, hn⟩ : ∃ n, (sp d).length = n := ⟨_, rfl⟩
  have HN := Lib.hid hn
  rw [hn] at hf
  have ht : decide (n < a) = true := by simpa using hf
  clear hn
  go_enter Tryz.func73, Tryz.ntmps73
  go_wp2_with (first | (go_at_call 104; refine (size_any _ _ _ _ _ H.out HD.out).mono ?_; rw [HN.out]; rintro e w' ⟨rfl, rfl⟩) | fail)
  go_ret
  exact ⟨rfl, rfl⟩
set_option maxRecDepth 100000 in
set_option maxHeartbeats 4000000 in
theorem one_in (d D a f : Nat) (B : Nat → Nat) (sp : Sp) (caps : Array Value) (R : Value → World → Prop) (w : World) (h : SpAt w D B sp) (hd : d < 2) (h0 : 0 < a) (hf : a ≤ (sp d).length)
    (hcf : ∀ (args : Array Value) (w : World), (callFunc f args).run Tryz.prog w = .ok (.enter f args) w)
    (hcall : Calls Tryz.prog f (#[.pointer (some ⟨B d, (a - 1) * 2, none⟩)] ++ caps) w fun e w' => ∃ v, e = .returned v ∧ R v w') :
    Calls Tryz.prog 73 #[.pointer (some ⟨D, 0, none⟩), .int .i64 (d : Int), .int .u16 (a : Int), fval f caps] w fun e w' => ∃ v, e = .returned v ∧ R v w' := by
  have hl := h.len d hd
  obtain ⟨i, rfl⟩ : ∃ i, a = i + 1 := ⟨a - 1, by omega⟩
  rw [Nat.add_sub_cancel] at hcall
  have wk := IntWalk.i64_in ((i + 1 : Nat) : Int) (by omega)
  have h1 : ¬ ((i + 1 : Nat) : Int) < 1 := by omega
  have c0 := h.cell hd
  have H := Lib.hid h
  have HD := Lib.hid hd
  obtain ⟨n, hn⟩ : ∃ n, (sp d).length = n := ⟨_, rfl⟩
  have HN := Lib.hid hn
  rw [hn] at hf hl c0
  have HC := Lib.hid hcall
  have hi : decide ((i : Int) < (n : Int)) = true := by simp; omega
  have ht : decide (n < i + 1) = false := by simp; omega
  clear h hn hcall h0
  unfold fval
  go_enter Tryz.func73, Tryz.ntmps73
  go_wp2_with (first | (go_at_call 104; refine (size_any _ _ _ _ _ H.out HD.out).mono ?_; rw [HN.out]; rintro e w' ⟨rfl, rfl⟩) | fail)
  refine HC.out.mono ?_
  rintro e w1 ⟨v, rfl, hR⟩
  have HR := Lib.hid hR
  clear hR
  go_wp2_with fail
  go_ret
  exact ⟨_, rfl, HR.out⟩

structure Acts (f : Nat) (caps : Array Value) (E : Ax → Nat) (A : Ax → Ax) (K : World → Prop) : Prop where
  enter : ∀ (args : Array Value) (w : World), (callFunc f args).run Tryz.prog w = .ok (.enter f args) w
  call : ∀ (B i : Nat) (l : List Ax) (a : Ax) (w : World), l[i]? = some a → Blk w B (acells l) 150 → K w → Calls Tryz.prog f (#[.pointer (some ⟨B, i * 2, none⟩)] ++ caps) w fun e w' => e = .returned (.int .i64 (E a : Nat)) ∧ Blk w' B (acells (l.set i (A a))) 150 ∧ Chg (fun k => k = B) w w'
  keep : ∀ (w w' : World) (F : Nat → Prop), K w → (∀ k, F k → ∃ cs, Blk w k cs 150) → Chg F w w' → K w'
theorem acts_sick : Acts 123 #[] (fun _ => 0) (fun a => { a with sick := true }) (fun _ => True) :=
  ⟨cfS, fun B i l a w hi hb _ => by simpa using sick_in B i l a w hi hb, fun _ _ _ _ _ _ => trivial⟩

def oneE (sp : Sp) (d a : Nat) (E : Ax → Nat) : Nat := match (sp d)[a - 1]? with | some x => if a = 0 then 1 else E x | none => 1
def oneS (sp : Sp) (d a : Nat) (A : Ax → Ax) : Sp := match (sp d)[a - 1]? with | some x => if a = 0 then sp else put sp d ((sp d).set (a - 1) (A x)) | none => sp
theorem one_any (d D a f : Nat) (B : Nat → Nat) (sp : Sp) (caps : Array Value) (E : Ax → Nat) (A : Ax → Ax) (K : World → Prop) (w : World) (h : SpAt w D B sp) (hd : d < 2) (ha : a < 65536) (hA : Acts f caps E A K) (hK : K w) :
    Calls Tryz.prog 73 #[.pointer (some ⟨D, 0, none⟩), .int .i64 (d : Int), .int .u16 (a : Int), fval f caps] w fun e w' => e = .returned (.int .i64 (oneE sp d a E : Nat)) ∧ SpAt w' D B (oneS sp d a A) ∧ Chg (Of B) w w' := by
  unfold oneE oneS
  by_cases h0 : a = 0
  · subst h0
    refine (one_zero (d : Int) D (fval f caps) w).mono ?_
    rintro e w' ⟨rfl, rfl⟩
    cases (sp d)[0 - 1]? <;> exact ⟨rfl, h, Chg.refl _ _⟩
  · by_cases hl : a ≤ (sp d).length
    · obtain ⟨x, hx⟩ : ∃ x, (sp d)[a - 1]? = some x := ⟨_, List.getElem?_eq_getElem (by omega)⟩
      rw [hx]
      simp only [if_neg h0]
      refine (one_in d D a f B sp caps (fun v w' => v = .int .i64 (E x : Nat) ∧ Blk w' (B d) (acells ((sp d).set (a - 1) (A x))) 150 ∧ Chg (fun k => k = B d) w w') w h hd (by omega) hl hA.enter ?_).mono ?_
      · exact (hA.call (B d) (a - 1) (sp d) x w hx (h.ax d hd) hK).mono fun e w' ⟨h1, h2, h3⟩ => ⟨_, h1, rfl, h2, h3⟩
      · rintro e w' ⟨v, rfl, rfl, h2, h3⟩
        exact ⟨rfl, h.turned hd (by simp) h2 h3, chg_of hd h3⟩
    · rw [List.getElem?_eq_none (by omega)]
      refine (one_far d D a B sp (fval f caps) w h hd ha (by omega)).mono ?_
      rintro e w' ⟨rfl, rfl⟩
      exact ⟨rfl, h, Chg.refl _ _⟩
end Go.Proofs.YtmgagalhpkieoaaGreatDoor
/- all: an act on each address of both disks. -/
namespace Go.Proofs.YtmgagalhpkieoaaGreatDoor
open Go.RowKit

end Go.Proofs.YtmgagalhpkieoaaGreatDoor
/- Mark, Give, Hold, Sick, Release, Back, Is. -/
namespace Go.Proofs.YtmgagalhpkieoaaGreatDoor
open Go.RowKit

set_option maxRecDepth 100000 in
set_option maxHeartbeats 4000000 in
theorem sick_any (d D a : Nat) (B : Nat → Nat) (sp : Sp) (w : World) (h : SpAt w D B sp) (hd : d < 2) (ha : a < 65536) : Calls Tryz.prog 110 #[.pointer (some ⟨D, 0, none⟩), .int .i64 (d : Int), .int .u16 (a : Int)] w fun e w' =>
    e = .returned (.int .i64 (oneE sp d a (fun _ => 0) : Nat)) ∧ SpAt w' D B (oneS sp d a (fun x => { x with sick := true })) ∧ Chg (Of B) w w' := by
  have H := Lib.hid (one_any d D a 123 B sp _ _ _ _ w h hd ha acts_sick trivial)
  clear h hd ha
  unfold fval at H
  go_enter Tryz.func110, Tryz.ntmps110
  go_wp2_with fail
  refine H.out.mono ?_
  rintro e w2 ⟨rfl, h4⟩
  have H4 := Lib.hid h4
  clear h4
  go_wp2_with fail
  go_ret
  exact ⟨rfl, H4.out⟩
def isS (sp : Sp) (d a : Nat) : Bool := match (sp d)[a - 1]? with | some x => if a = 0 then false else x.sick | none => false
def IsPost (w : World) (v : Bool) (w' : World) : Prop := Blk w' w.heap.size [.bool v] 4 ∧ Below w.heap.size w w'
set_option maxRecDepth 100000 in
set_option maxHeartbeats 4000000 in
theorem is_of (p : Value) (d : Int) (a : Nat) (b : Bool) (w : World) (h : ∀ w1, Blk w1 w.heap.size [.bool false] 4 → Below w.heap.size w w1 → Calls Tryz.prog 73 #[p, .int .i64 d, .int .u16 (a : Int), fval 74 #[.pointer (some ⟨w.heap.size, 0, none⟩)]] w1 fun e w' => ∃ v, e = .returned v ∧ IsPost w b w') :
    Calls Tryz.prog 29 #[p, .int .i64 d, .int .u16 (a : Int)] w fun e w' => e = .returned (.bool b) ∧ Below w.heap.size w w' := by
  have hmf : ∀ (fn : Fn) (first cap : Array Value) (w : World), (Instr.makeFunc fn first cap).run Tryz.prog w = .ok (.func fn first cap) w := fun _ _ _ _ => rfl
  have H := Lib.hid h
  clear h
  unfold fval at H
  go_enter Tryz.func29, Tryz.ntmps29
  go_wp2_with fail
  refine (H.out _ (Blk.new' _ _ _ _ _ rfl rfl) ((Below.refl _ _).alloc (Nat.le_refl _) _)).mono ?_
  rintro e w2 ⟨v, rfl, h1, h2⟩
  have c0 := h1.cell (j := 0) rfl
  have H2 := Lib.hid h2
  clear h1 h2
  go_wp2_with fail
  go_ret
  exact ⟨rfl, H2.out⟩
theorem is_any (d D a : Nat) (B : Nat → Nat) (sp : Sp) (w : World) (h : SpAt w D B sp) (hd : d < 2) (ha : a < 65536) : Calls Tryz.prog 29 #[.pointer (some ⟨D, 0, none⟩), .int .i64 (d : Int), .int .u16 (a : Int)] w fun e w' => e = .returned (.bool (isS sp d a)) ∧ Below w.heap.size w w' := by
  refine is_of _ _ _ _ _ fun w1 hb hw => ?_
  have h1 := h.below hw
  unfold isS
  by_cases h0 : a = 0
  · subst h0
    refine (one_zero (d : Int) D _ w1).mono ?_
    rintro e w' ⟨h1, h2⟩
    subst h2
    cases (sp d)[0 - 1]? <;> exact ⟨_, h1, hb, hw⟩
  · by_cases hl : a ≤ (sp d).length
    · obtain ⟨x, hx⟩ : ∃ x, (sp d)[a - 1]? = some x := ⟨_, List.getElem?_eq_getElem (by omega)⟩
      rw [hx]
      simp only [if_neg h0]
      refine one_in d D a 74 B sp #[.pointer (some ⟨w.heap.size, 0, none⟩)] (fun _ w' => IsPost w x.sick w') w1 h1 hd (by omega) hl cfI ?_
      refine (is_in (B d) (a - 1) w.heap.size (sp d) x false w1 hx (h1.ax d hd) hb).mono ?_
      rintro e w' ⟨h2, h3, h4⟩
      exact ⟨_, h2, h3, hw.trans (h4.below (fun k hk => by omega) (by have := hb.lt; omega))⟩
    · rw [List.getElem?_eq_none (by omega)]
      refine (one_far d D a B sp _ w1 h1 hd ha (by omega)).mono ?_
      rintro e w' ⟨h2, h3⟩
      subst h3
      exact ⟨_, h2, hb, hw⟩
end Go.Proofs.YtmgagalhpkieoaaGreatDoor
/- A plain mirror over any kind of disk and space: looked at, mended, written, flushed; that two kinds which tell the same come to the same. -/
namespace Go.Proofs.YtmgagalhpkieoaaGreatDoor
open Go.RowKit

abbrev Cpy := Nat × Nat
def upk {α : Type} (f : Nat → α) (k : Nat) (v : α) : Nat → α := fun x => if x = k then v else f x
theorem upk_same {α : Type} (f : Nat → α) (k : Nat) (v : α) : upk f k v k = v := by simp [upk]
theorem upk_other {α : Type} (f : Nat → α) {k x : Nat} (v : α) (h : x ≠ k) : upk f k v x = f x := by simp [upk, h]
structure Kin (δ σ : Type) where
  rd : δ → Pw → Nat → Option Bs
  wr : δ → Pw → Nat → Bs → Int × δ × Pw
  fl : δ → Pw → Int × δ × Pw
  dead : δ → Bool
  sick : σ → Nat → Nat → σ
structure Mi (δ σ : Type) where
  d : Nat → δ
  p : Pw
  s : σ
  f : Nat → Nat
  g : Nat → Nat
  mv : List Pt
section
variable {δ σ : Type} (o : Kin δ σ)
def gd (x : Mi δ σ) (p : Pt) (c : Cpy) : Option Bs := match o.rd (x.d c.1) x.p c.2 with | some b => if fitsP p b then some b else none | none => none
def till (g : Cpy → Bool) : List Cpy → List Cpy
  | [] => []
  | c :: l => if g c then [c] else c :: till g l
def ill (x : Mi δ σ) (p : Pt) (l : List Cpy) : List Cpy := l.filter fun c => !(gd o x p c).isSome && !o.dead (x.d c.1)
def cntC (l : List Cpy) (k : Nat) : Nat := l.countP fun c => c.1 == k
def founds (x : Mi δ σ) (l : List Cpy) : Mi δ σ := { x with f := fun k => x.f k + cntC l k }
def wrote1 (x : Mi δ σ) (b : Bs) (c : Cpy) : Int × Mi δ σ := ((o.wr (x.d c.1) x.p c.2 b).1, { x with d := upk x.d c.1 (o.wr (x.d c.1) x.p c.2 b).2.1, p := (o.wr (x.d c.1) x.p c.2 b).2.2 })
def addMv (l : List Pt) (p : Pt) : List Pt := if l.any (fun q => eqP p q) then l else l ++ [p]
def mend1 (p : Pt) (b : Bs) (x : Mi δ σ) (c : Cpy) : Mi δ σ :=
  if (gd o (wrote1 o x b c).2 p c).isSome then { (wrote1 o x b c).2 with g := upk x.g c.1 (x.g c.1 + 1) }
  else { (wrote1 o x b c).2 with s := o.sick x.s c.1 c.2, mv := addMv x.mv p }
def mends (p : Pt) (b : Bs) (x : Mi δ σ) (l : List Cpy) : Mi δ σ := l.foldl (mend1 o p b) x
def seen (x : Mi δ σ) (p : Pt) (all : Bool) : List Cpy := if all then copiesP p else till (fun c => (gd o x p c).isSome) (copiesP p)
def firstG (x : Mi δ σ) (p : Pt) (l : List Cpy) : Option Bs := l.findSome? (gd o x p)
def endS (x : Mi δ σ) (p : Pt) (l : List Cpy) : Mi δ σ := match firstG o x p l with | some b => mends o p b (founds x (ill o x p l)) (ill o x p l) | none => founds x (ill o x p l)
def healS (x : Mi δ σ) (p : Pt) (all : Bool) : Mi δ σ := if mayP p then endS o x p (seen o x p all) else x
def healB (x : Mi δ σ) (p : Pt) (all : Bool) : Option Bs := if mayP p then firstG o x p (seen o x p all) else none
def healE (x : Mi δ σ) (p : Pt) (all : Bool) : Int := if mayP p then (if (firstG o x p (seen o x p all)).isSome then 0 else 21) else 1
def wrotes (x : Mi δ σ) (b : Bs) : List Cpy → Int × Mi δ σ
  | l => l.foldl (fun r c => (if (wrote1 o r.2 b c).1 = 0 then 0 else r.1, (wrote1 o r.2 b c).2)) (21, x)
def writeR (x : Mi δ σ) (p : Pt) (b : Bs) : Int × Mi δ σ := if mayP p then (if fitsP p b then wrotes o x b (copiesP p) else (1, x)) else (1, x)
def fl1 (x : Mi δ σ) (k : Nat) : Int × Mi δ σ := ((o.fl (x.d k) x.p).1, { x with d := upk x.d k (o.fl (x.d k) x.p).2.1, p := (o.fl (x.d k) x.p).2.2 })
def flushR (x : Mi δ σ) : Int × Mi δ σ := (if (fl1 o x 0).1 = 0 ∨ (fl1 o (fl1 o x 0).2 1).1 = 0 then 0 else 21, (fl1 o (fl1 o x 0).2 1).2)
theorem gd_fits {x : Mi δ σ} {p : Pt} {c : Cpy} {b : Bs} (h : gd o x p c = some b) : fitsP p b = true := by
  unfold gd at h
  cases hr : o.rd (x.d c.1) x.p c.2 with
  | none => rw [hr] at h; simp at h
  | some b' =>
    rw [hr] at h
    by_cases hf : fitsP p b' = true
    · simp [hf] at h; rw [← h]; exact hf
    · simp [hf] at h
end
theorem fits_len {p : Pt} {b : Bs} (h : fitsP p b = true) : b.length = 512 := by
  unfold fitsP at h
  simp at h
  exact h.1
structure Alike {δ σ δ' σ' : Type} (o : Kin δ σ) (o' : Kin δ' σ') (R : δ → δ' → Prop) (T : σ → σ' → Prop) : Prop where
  rd : ∀ d e p a, R d e → o.rd d p a = o'.rd e p a
  wr : ∀ d e p a b, R d e → (o.wr d p a b).1 = (o'.wr e p a b).1 ∧ R (o.wr d p a b).2.1 (o'.wr e p a b).2.1 ∧ (o.wr d p a b).2.2 = (o'.wr e p a b).2.2
  fl : ∀ d e p, R d e → (o.fl d p).1 = (o'.fl e p).1 ∧ R (o.fl d p).2.1 (o'.fl e p).2.1 ∧ (o.fl d p).2.2 = (o'.fl e p).2.2
  dead : ∀ d e, R d e → o.dead d = o'.dead e
  sick : ∀ s t k a, k < 2 → 0 < a → T s t → T (o.sick s k a) (o'.sick t k a)
structure MSim {δ σ δ' σ' : Type} (R : δ → δ' → Prop) (T : σ → σ' → Prop) (x : Mi δ σ) (y : Mi δ' σ') : Prop where
  d : ∀ k, k < 2 → R (x.d k) (y.d k)
  p : x.p = y.p
  s : T x.s y.s
  f : x.f = y.f
  g : x.g = y.g
  mv : x.mv = y.mv
section
variable {δ σ δ' σ' : Type} {o : Kin δ σ} {o' : Kin δ' σ'} {R : δ → δ' → Prop} {T : σ → σ' → Prop} {x : Mi δ σ} {y : Mi δ' σ'}
theorem MSim.gd (A : Alike o o' R T) (h : MSim R T x y) (p : Pt) {c : Cpy} (hc : c.1 < 2) : gd o x p c = gd o' y p c := by
  unfold Go.Proofs.YtmgagalhpkieoaaGreatDoor.gd
  rw [A.rd _ _ _ _ (h.d c.1 hc), h.p]
theorem MSim.upd (h : MSim R T x y) {k : Nat} {d : δ} {e : δ'} {p q : Pw} (hd : R d e) (hp : p = q) : MSim R T { x with d := upk x.d k d, p := p } { y with d := upk y.d k e, p := q } := by
  refine ⟨fun i hi => ?_, hp, h.s, h.f, h.g, h.mv⟩
  by_cases e : i = k
  · subst e; simp only [upk_same]; exact hd
  · simp only [upk_other _ _ e]; exact h.d i hi
theorem MSim.wrote1 (A : Alike o o' R T) (h : MSim R T x y) (b : Bs) {c : Cpy} (hc : c.1 < 2) : (wrote1 o x b c).1 = (wrote1 o' y b c).1 ∧ MSim R T (wrote1 o x b c).2 (wrote1 o' y b c).2 := by
  have := A.wr _ _ x.p c.2 b (h.d c.1 hc)
  have hp := h.p
  unfold Go.Proofs.YtmgagalhpkieoaaGreatDoor.wrote1
  rw [← hp]
  exact ⟨this.1, h.upd this.2.1 this.2.2⟩
theorem MSim.mend1 (A : Alike o o' R T) (h : MSim R T x y) (p : Pt) (b : Bs) {c : Cpy} (hc : c.1 < 2) (ha : 0 < c.2) : MSim R T (mend1 o p b x c) (mend1 o' p b y c) := by
  have h1 := (h.wrote1 A b hc).2
  unfold Go.Proofs.YtmgagalhpkieoaaGreatDoor.mend1
  rw [h1.gd A p hc]
  split
  · exact ⟨h1.d, h1.p, h1.s, h1.f, by show upk x.g _ _ = upk y.g _ _; rw [h.g], h1.mv⟩
  · exact ⟨h1.d, h1.p, A.sick _ _ _ _ hc ha h.s, h1.f, h1.g, by show addMv x.mv p = addMv y.mv p; rw [h.mv]⟩
theorem MSim.mends (A : Alike o o' R T) (p : Pt) (b : Bs) : ∀ (l : List Cpy) (x : Mi δ σ) (y : Mi δ' σ'), MSim R T x y → (∀ c ∈ l, c.1 < 2 ∧ 0 < c.2) → MSim R T (mends o p b x l) (mends o' p b y l)
  | [], _, _, h, _ => h
  | c :: l, _, _, h, hl => MSim.mends A p b l _ _ (h.mend1 A p b (hl c (by simp)).1 (hl c (by simp)).2) (fun c hc => hl c (by simp [hc]))
theorem till_mem {g : Cpy → Bool} : ∀ {l : List Cpy} {c : Cpy}, c ∈ till g l → c ∈ l
  | [], _, h => h
  | a :: l, c, h => by
    unfold till at h
    split at h
    · simp at h; simp [h]
    · simp only [List.mem_cons] at h ⊢
      rcases h with h | h
      · exact .inl h
      · exact .inr (till_mem h)
theorem till_congr {g g' : Cpy → Bool} : ∀ {l : List Cpy}, (∀ c ∈ l, g c = g' c) → till g l = till g' l
  | [], _ => rfl
  | a :: l, h => by
    unfold till
    rw [h a (by simp), till_congr (fun c hc => h c (by simp [hc]))]
theorem findSome_congr {α β : Type} {f g : α → Option β} : ∀ {l : List α}, (∀ c ∈ l, f c = g c) → l.findSome? f = l.findSome? g
  | [], _ => rfl
  | a :: l, h => by
    simp only [List.findSome?_cons]
    rw [h a (by simp), findSome_congr (fun c hc => h c (by simp [hc]))]
theorem MSim.seen (A : Alike o o' R T) (h : MSim R T x y) (p : Pt) (hp : ∀ c ∈ copiesP p, c.1 < 2) (all : Bool) : seen o x p all = seen o' y p all := by
  unfold Go.Proofs.YtmgagalhpkieoaaGreatDoor.seen
  rw [till_congr (fun c hc => by rw [h.gd A p (hp c hc)])]
theorem seen_mem {δ σ : Type} {o : Kin δ σ} {x : Mi δ σ} {p : Pt} {all : Bool} {c : Cpy} (h : c ∈ seen o x p all) : c ∈ copiesP p := by
  unfold seen at h
  split at h
  · exact h
  · exact till_mem h
theorem MSim.first (A : Alike o o' R T) (h : MSim R T x y) (p : Pt) (l : List Cpy) (hp : ∀ c ∈ l, c.1 < 2) : firstG o x p l = firstG o' y p l := findSome_congr fun c hc => h.gd A p (hp c hc)
theorem MSim.ill (A : Alike o o' R T) (h : MSim R T x y) (p : Pt) (l : List Cpy) (hp : ∀ c ∈ l, c.1 < 2) : ill o x p l = ill o' y p l := by
  unfold Go.Proofs.YtmgagalhpkieoaaGreatDoor.ill
  refine List.filter_congr fun c hc => ?_
  rw [h.gd A p (hp c hc), A.dead _ _ (h.d c.1 (hp c hc))]
theorem MSim.heal (A : Alike o o' R T) (h : MSim R T x y) (p : Pt) (hp : ∀ c ∈ copiesP p, c.1 < 2 ∧ 0 < c.2) (all : Bool) : healE o x p all = healE o' y p all ∧ healB o x p all = healB o' y p all ∧ MSim R T (healS o x p all) (healS o' y p all) := by
  have hs := h.seen A p (fun c hc => (hp c hc).1) all
  have hm : ∀ c ∈ Go.Proofs.YtmgagalhpkieoaaGreatDoor.seen o' y p all, c.1 < 2 ∧ 0 < c.2 := fun c hc => hp c (seen_mem hc)
  have hf := h.first A p (Go.Proofs.YtmgagalhpkieoaaGreatDoor.seen o' y p all) (fun c hc => (hm c hc).1)
  have hi := h.ill A p (Go.Proofs.YtmgagalhpkieoaaGreatDoor.seen o' y p all) (fun c hc => (hm c hc).1)
  unfold healE healB healS endS
  rw [hs, hf, hi]
  refine ⟨rfl, rfl, ?_⟩
  have hfo : MSim R T (founds x (Go.Proofs.YtmgagalhpkieoaaGreatDoor.ill o' y p (Go.Proofs.YtmgagalhpkieoaaGreatDoor.seen o' y p all))) (founds y (Go.Proofs.YtmgagalhpkieoaaGreatDoor.ill o' y p (Go.Proofs.YtmgagalhpkieoaaGreatDoor.seen o' y p all))) := ⟨h.d, h.p, h.s, by simp only [founds]; rw [h.f], h.g, h.mv⟩
  split
  · split
    · exact MSim.mends A p _ _ _ _ hfo (fun c hc => hm c (List.mem_filter.1 hc).1)
    · exact hfo
  · exact h
theorem MSim.wrotes (A : Alike o o' R T) (b : Bs) : ∀ (l : List Cpy) (e : Int) (x : Mi δ σ) (y : Mi δ' σ'), MSim R T x y → (∀ c ∈ l, c.1 < 2) →
    (l.foldl (fun r c => (if (Go.Proofs.YtmgagalhpkieoaaGreatDoor.wrote1 o r.2 b c).1 = 0 then 0 else r.1, (Go.Proofs.YtmgagalhpkieoaaGreatDoor.wrote1 o r.2 b c).2)) (e, x)).1 = (l.foldl (fun r c => (if (Go.Proofs.YtmgagalhpkieoaaGreatDoor.wrote1 o' r.2 b c).1 = 0 then 0 else r.1, (Go.Proofs.YtmgagalhpkieoaaGreatDoor.wrote1 o' r.2 b c).2)) (e, y)).1 ∧
    MSim R T (l.foldl (fun r c => (if (Go.Proofs.YtmgagalhpkieoaaGreatDoor.wrote1 o r.2 b c).1 = 0 then 0 else r.1, (Go.Proofs.YtmgagalhpkieoaaGreatDoor.wrote1 o r.2 b c).2)) (e, x)).2 (l.foldl (fun r c => (if (Go.Proofs.YtmgagalhpkieoaaGreatDoor.wrote1 o' r.2 b c).1 = 0 then 0 else r.1, (Go.Proofs.YtmgagalhpkieoaaGreatDoor.wrote1 o' r.2 b c).2)) (e, y)).2
  | [], _, _, _, h, _ => ⟨rfl, h⟩
  | c :: l, e, x, y, h, hl => by
    have h1 := h.wrote1 A b (hl c (by simp))
    simp only [List.foldl_cons]
    rw [h1.1]
    exact MSim.wrotes A b l _ _ _ h1.2 (fun c hc => hl c (by simp [hc]))
theorem MSim.write (A : Alike o o' R T) (h : MSim R T x y) (p : Pt) (b : Bs) (hp : ∀ c ∈ copiesP p, c.1 < 2) : (writeR o x p b).1 = (writeR o' y p b).1 ∧ MSim R T (writeR o x p b).2 (writeR o' y p b).2 := by
  unfold writeR
  split
  · split
    · exact MSim.wrotes A b _ _ _ _ h hp
    · exact ⟨rfl, h⟩
  · exact ⟨rfl, h⟩
theorem MSim.fl1 (A : Alike o o' R T) (h : MSim R T x y) {k : Nat} (hk : k < 2) : (fl1 o x k).1 = (fl1 o' y k).1 ∧ MSim R T (fl1 o x k).2 (fl1 o' y k).2 := by
  have := A.fl _ _ x.p (h.d k hk)
  have hp := h.p
  unfold Go.Proofs.YtmgagalhpkieoaaGreatDoor.fl1
  rw [← hp]
  exact ⟨this.1, h.upd this.2.1 this.2.2⟩
theorem MSim.flush (A : Alike o o' R T) (h : MSim R T x y) : (flushR o x).1 = (flushR o' y).1 ∧ MSim R T (flushR o x).2 (flushR o' y).2 := by
  have h0 := h.fl1 A (k := 0) (by omega)
  have h1 := h0.2.fl1 A (k := 1) (by omega)
  unfold flushR
  rw [h0.1, h1.1]
  exact ⟨rfl, h1.2⟩
end
end Go.Proofs.YtmgagalhpkieoaaGreatDoor
/- Alloc. -/
namespace Go.Proofs.YtmgagalhpkieoaaGreatDoor
open Go.RowKit

end Go.Proofs.YtmgagalhpkieoaaGreatDoor
