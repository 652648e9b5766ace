/- A reader: made; its error, what is left, bytes, noughts, its end. -/
import Derived.Test.YtlkhnmhhcagghaaRdNum
namespace Go.Proofs.Ytlkhnmhhcagghaa
open Go.RowKit

/-- New memory holds the bytes. -/
def RetOwn (l : List (BitVec 8)) (w : World) (x : Ending) (w' : World) : Prop := ∃ v, x = .returned v ∧ OwnB w' w.heap.size v l ∧ Below w.heap.size w w'

theorem srcA_src {w : World} {ad : Addr} {l : List (BitVec 8)} (h : SrcA w (some ad) l) : ∀ j v, (l.map V8)[j]? = some v → w.cell? (ad.add j) = some v := by
  intro j v hv
  have hj : 0 < l.length := by
    have := (List.getElem?_eq_some_iff.1 hv).1
    simp at this; omega
  obtain ⟨g, o, he, hg, hcl⟩ := h hj
  cases he
  exact src_cell hcl j v hv

set_option maxHeartbeats 1000000 in
theorem clone_any (l : List (BitVec 8)) (sp : Option Addr) (cap : Nat) (w : World) (hl : l.length ≤ 100000) (hz : sp = none → cap = 0) (hc : l.length ≤ cap) (hS : SrcA w sp l) :
    Calls Try.prog 37 #[.slice sp l.length cap] w (RetOwn l w) := by
  obtain ⟨i0, hi, hz0, hz1, hz2⟩ := info_parts infoB
  obtain ⟨L, hL⟩ : ∃ L, l.length = L := ⟨_, rfl⟩
  cases sp with
  | none =>
    obtain rfl := hz rfl
    obtain rfl : l = [] := List.eq_nil_of_length_eq_zero (by omega)
    have HP : Hid (RetOwn [] w (.returned (.slice none 0 0)) w) := Lib.hid ⟨_, rfl, World.ownsRow_nil _ _ _ _, Below.refl _ _⟩
    have hq := Lib.run_eql_slice_nil (P := Try.prog) w 23 5 none 0 0 0 0 Try.underlying23
    clear hi hz0 hz1 hz2 hL hl hc hS hz
    go_enter Try.func37, Try.ntmps37
    go_wp2
    go_ret
    exact HP.out
  | some ad =>
    have HS := Lib.hid hS
    rw [hL] at hl hc ⊢
    have HL := Lib.hid hL
    have hq := Lib.run_eql_slice_nil (P := Try.prog) w 23 5 (some ad) L cap 0 0 Try.underlying23
    clear hS hL hz
    go_enter Try.func37, Try.ntmps37
    go_wp2_with (first
      | (at_builtin; refine wpList_append_own _ rfl (.tmp 5) (.tmp 6) 23 rfl w.heap.size 5 i0 (.int .u8 0) 1 1 Try.underlying23 hi hz0 hz1 hz2 rfl (by omega) _ 0 [] rfl (World.ownsRow_made w #[] 0 (Nat.le_refl _) (by unfold maxLen; omega) rfl) ad L cap (l.map V8) rfl (by simp [HL.out]) (srcA_src (HS.out.grown ((Below.refl _ _).alloc (Nat.le_refl _) _))) (one_v8 l) (by unfold maxLen; omega) (by omega) (by simp) ?_; intro v1 w1 hown hgr _; have HO := Lib.hid hown; have HG := Lib.hid hgr; clear hown hgr)
      | fail)
    go_ret
    refine ⟨_, rfl, ?_, ((Below.refl _ _).alloc (Nat.le_refl _) _).grown HG.out (by simp) (fun k hk => by cases hk; exact Nat.le_refl _)⟩
    have := HO.out
    simp only [Nat.zero_add, List.nil_append] at this
    unfold OwnB
    rw [HL.out]
    exact this

/-- A new reader of the bytes. -/
def RetRd (l : List (BitVec 8)) (w : World) (x : Ending) (w' : World) : Prop := ∃ H, x = .returned (.pointer (some ⟨H, 0, none⟩)) ∧ RdAt w' H (fun g => w.heap.size ≤ g ∧ g < H) l 0 ∧ w.heap.size ≤ H ∧ Below w.heap.size w w'
theorem new_any (l : List (BitVec 8)) (sp : Option Addr) (cap : Nat) (w : World) (hl : l.length ≤ 100000) (hz : sp = none → cap = 0) (hc : l.length ≤ cap) (hS : SrcA w sp l) :
    Calls Try.prog 24 #[.slice sp l.length cap] w (RetRd l w) := by
  have HC := Lib.hid (clone_any l sp cap w hl hz hc hS)
  clear hl hz hc hS
  go_enter Try.func24, Try.ntmps24
  go_wp2_with fail
  refine HC.out.mono ?_
  rintro x w1 ⟨v, rfl, hown, hb⟩
  obtain ⟨sp', cap', rfl, hc', hm', hs', hz', ha'⟩ := OwnB.form hown
  have HZ := Lib.hid hz'
  have HB := Lib.hid hb
  have HS := Lib.hid hs'
  have HA := Lib.hid ha'
  clear hown hb hs' ha' hz' HC
  go_wp2_with fail
  go_ret
  refine ⟨w1.heap.size, rfl, ⟨sp', cap', Blk.new' _ _ _ _ _ rfl rfl, hc', hm', HZ.out, fun h0 => ?_, fun h => by omega⟩, HB.out.size, HB.out.alloc HB.out.size _⟩
  obtain ⟨g, o, e1, hg, hcl⟩ := (HS.out.grown ((Below.refl _ _).alloc (Nat.le_refl _) (Obj.cells #[Value.int IntKind.i64 0, Value.slice sp' l.length cap'] 76))) h0
  exact ⟨g, o, e1, ⟨(HA.out _ e1).1, (HA.out _ e1).2⟩, hg, hcl⟩

/-- The error, as 'Bad' leaves it. -/
def badOf (e : Nat) : Nat := if e = 0 then 5 else e
def BadPost (H : Nat) (K : Nat → Prop) (l : List (BitVec 8)) (e : Nat) (w : World) (x : Ending) (w' : World) : Prop := x = .returned (.tuple #[]) ∧ RdAt w' H K l e ∧ ButFor H w w'
theorem RdAt.setErr {w : World} {H : Nat} {K : Nat → Prop} {l : List (BitVec 8)} {e : Nat} (h : RdAt w H K l e) (x : Nat) : RdAt (w.setCell ⟨H, 0, none⟩ (.int .i64 (x : Int))) H K l x := by
  obtain ⟨sp, cap, hB, h1, h2, h4, h3, hk⟩ := h
  exact ⟨sp, cap, hB.set 0 (.int .i64 (x : Int)), h1, h2, h4, h3.butFor hk ((ButFor.refl _ _).set _ _), hk⟩
theorem bad_any (H : Nat) (l : List (BitVec 8)) (e : Nat) (w : World) {K : Nat → Prop} (hR : RdAt w H K l e) :
    Calls Try.prog 28 #[.pointer (some ⟨H, 0, none⟩)] w (BadPost H K l (badOf e) w) := by
  have HR := Lib.hid hR
  obtain ⟨sp, cap, hB, _, _, _, _, _⟩ := hR
  have c0 := hB.cell (j := 0) rfl
  have f0 := hB.free 0
  clear hB
  by_cases he : e = 0
  · subst he
    have HP : Hid (BadPost H K l (badOf 0) w (.returned (.tuple #[])) (w.setCell ⟨H, 0, none⟩ (.int .i64 5))) := Lib.hid ⟨rfl, HR.out.setErr 5, (ButFor.refl _ _).set _ _⟩
    go_enter Try.func28, Try.ntmps28
    go_wp2_with (go_at_call 42; refine (fail_no H _ _ c0 f0).mono ?_; rintro e w' ⟨rfl, rfl⟩)
    go_end0
    exact HP.out
  · have HP : Hid (BadPost H K l (badOf e) w (.returned (.tuple #[])) w) := Lib.hid (by rw [badOf, if_neg he]; exact ⟨rfl, HR.out, ButFor.refl _ _⟩)
    have HE := Lib.hid he
    clear he
    go_enter Try.func28, Try.ntmps28
    go_wp2_with (go_at_call 42; refine (fail_yes H e _ _ HE.out c0).mono ?_; rintro e w' ⟨rfl, rfl⟩)
    go_end0
    exact HP.out
def leftOf (l : List (BitVec 8)) (e : Nat) : Nat := if e = 0 then l.length else 0
theorem left_any (H : Nat) (l : List (BitVec 8)) (e : Nat) (w : World) {K : Nat → Prop} (hR : RdAt w H K l e) :
    Calls Try.prog 25 #[.pointer (some ⟨H, 0, none⟩)] w fun x w' => x = .returned (.int .i64 (leftOf l e : Int)) ∧ w = w' := by
  obtain ⟨sp, cap, hB, _, _, _, _, _⟩ := hR
  have c0 := hB.cell (j := 0) rfl
  have c1 := hB.cell (j := 1) rfl
  clear hB
  by_cases he : e = 0
  · subst he
    have HP : Hid ((leftOf l 0 : Int) = (l.length : Int)) := Lib.hid rfl
    rw [HP.out]
    clear HP
    go_enter Try.func25, Try.ntmps25
    go_wp2_with (go_at_call 38; refine (failed_no H _ c0).mono ?_; rintro e w' ⟨rfl, rfl⟩)
    go_ret
    exact ⟨rfl, rfl⟩
  · have HE := Lib.hid he
    have HP : Hid ((leftOf l e : Int) = 0) := Lib.hid (by unfold leftOf; rw [if_neg he]; rfl)
    rw [HP.out]
    clear he HP
    go_enter Try.func25, Try.ntmps25
    go_wp2_with (go_at_call 38; refine (failed_yes H e _ HE.out c0).mono ?_; rintro e w' ⟨rfl, rfl⟩)
    go_ret
    exact ⟨rfl, rfl⟩
theorem err_any (H : Nat) (l : List (BitVec 8)) (e : Nat) (w : World) {K : Nat → Prop} (hR : RdAt w H K l e) :
    Calls Try.prog 27 #[.pointer (some ⟨H, 0, none⟩)] w fun x w' => x = .returned (.int .i64 (e : Int)) ∧ w = w' := by
  obtain ⟨sp, cap, hB, _, _, _, _, _⟩ := hR
  have c0 := hB.cell (j := 0) rfl
  clear hB
  go_enter Try.func27, Try.ntmps27
  go_wp2
  go_ret
  exact ⟨rfl, rfl⟩
def endOf (l : List (BitVec 8)) (e : Nat) : Nat := if leftOf l e = 0 then e else badOf e
def EndPost (H : Nat) (K : Nat → Prop) (l : List (BitVec 8)) (e : Nat) (w : World) (x : Ending) (w' : World) : Prop := x = .returned (.int .i64 (e : Int)) ∧ RdAt w' H K l e ∧ ButFor H w w'
end Go.Proofs.Ytlkhnmhhcagghaa
