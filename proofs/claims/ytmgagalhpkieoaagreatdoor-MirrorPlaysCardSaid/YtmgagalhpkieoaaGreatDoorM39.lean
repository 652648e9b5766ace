/- The mirror that is known, plain. -/
import Derived.Test.YtmgagalhpkieoaaGreatDoorM37
import Derived.Test.YtmgagalhpkieoaaGreatDoorM38
namespace Go.Proofs.YtmgagalhpkieoaaGreatDoor
open Go.RowKit

def mw0 : Pt := ⟨2, 0, 3, 0, 0, List.replicate 32 0#8, [1, 2, 3, 4]⟩
theorem mw0_ok : mw0.OK := ⟨by simp [mw0], by simp [mw0], by simp [mw0], by simp [mw0], by simp [mw0], by simp [mw0], by simp [mw0], by simp [mw0]⟩
def mwb : Bs := d_full [7#8]
def mwz : Bs := d_full []
theorem mwb_len : mwb.length = 512 := full_length _
theorem mwz_len : mwz.length = 512 := full_length _
theorem mwdg : decide (digest (tagB mw0 ++ mwz) = digest (tagB mw0 ++ mwb)) = false := by kernel_rfl
def mwq : Pt := sealP mw0 mwb
theorem mwq_ok : mwq.OK := sealP_ok mw0_ok mwb
theorem mwmay : mayP mwq = true := (may_seal mw0 mwb).trans (by decide)
theorem mwfit : fitsP mwq mwb = true := by
  unfold mwq
  rw [fits_seal, decide_eq_true mwb_len, decide_eq_true rfl]
  rfl
theorem mwfitz : fitsP mwq mwz = false := by
  unfold mwq
  rw [fits_seal, mwdg, Bool.and_false]
theorem mwcps : copiesP mwq = [(0, 1), (0, 2), (1, 3), (1, 4)] := by rfl
theorem gd_yes {x : Mi Dsk Sp} {c : Cpy} (h : readB (x.d c.1) x.p c.2 = some mwb) : gd kinD x mwq c = some mwb := by
  unfold gd
  show (match readB (x.d c.1) x.p c.2 with | some b => if fitsP mwq b then some b else none | none => none) = _
  rw [h]
  show (if fitsP mwq mwb then some mwb else none) = some mwb
  rw [mwfit]
  rfl
theorem gd_no {x : Mi Dsk Sp} {c : Cpy} (h : readB (x.d c.1) x.p c.2 = some mwz) : gd kinD x mwq c = none := by
  unfold gd
  show (match readB (x.d c.1) x.p c.2 with | some b => if fitsP mwq b then some b else none | none => none) = _
  rw [h]
  show (if fitsP mwq mwz then some mwz else none) = none
  rw [mwfitz]
  rfl
theorem gd_none {x : Mi Dsk Sp} {c : Cpy} (h : readB (x.d c.1) x.p c.2 = none) : gd kinD x mwq c = none := by
  unfold gd
  show (match readB (x.d c.1) x.p c.2 with | some b => if fitsP mwq b then some b else none | none => none) = _
  rw [h]
end Go.Proofs.YtmgagalhpkieoaaGreatDoor
/- The mirror that is known, step by step. -/
namespace Go.Proofs.YtmgagalhpkieoaaGreatDoor
open Go.RowKit

def mx1 : Mi Dsk Sp := (wrotes kinD (start 9) mwb [(0, 1), (0, 2), (1, 3), (1, 4)]).2
theorem mx1w : writeR kinD (start 9) mwq mwb = wrotes kinD (start 9) mwb [(0, 1), (0, 2), (1, 3), (1, 4)] := by
  unfold writeR
  rw [if_pos mwmay, if_pos mwfit, mwcps]
theorem mx1e : (writeR kinD (start 9) mwq mwb).1 = 0 := by rw [mx1w]; kernel_rfl
theorem mx1s : (writeR kinD (start 9) mwq mwb).2 = mx1 := by rw [mx1w]; rfl
def mx2 : Mi Dsk Sp := { mx1 with d := upk mx1.d 0 (ailed (mx1.d 0) 1 512 (rotK mwz)).2 }
def mx2w : Mi Dsk Sp := (wrote1 kinD (founds mx2 [(0, 1)]) mwb (0, 1)).2
def mx3 : Mi Dsk Sp := { mx2w with g := upk mx2.g 0 (mx2.g 0 + 1) }
theorem g2a : gd kinD mx2 mwq (0, 1) = none := gd_no (by kernel_rfl)
theorem g2b : gd kinD mx2 mwq (0, 2) = some mwb := gd_yes (by kernel_rfl)
theorem g2c : gd kinD mx2w mwq (0, 1) = some mwb := gd_yes (by kernel_rfl)
theorem dead2 : kinD.dead (mx2.d 0) = false := by kernel_rfl
theorem seen2 : seen kinD mx2 mwq false = [(0, 1), (0, 2)] := by
  simp [seen, mwcps, till, g2a, g2b]
theorem ill2 : ill kinD mx2 mwq [(0, 1), (0, 2)] = [(0, 1)] := by
  simp [ill, g2a, g2b, dead2]
theorem first2 : firstG kinD mx2 mwq [(0, 1), (0, 2)] = some mwb := by
  simp [firstG, g2a, g2b]
theorem mx3s : healS kinD mx2 mwq false = mx3 := by
  unfold healS endS
  rw [if_pos mwmay, seen2, first2, ill2]
  simp only [mends, List.foldl_cons, List.foldl_nil]
  unfold mend1
  have e : (wrote1 kinD (founds mx2 [(0, 1)]) mwb (0, 1)).2 = mx2w := by unfold mx2w; rfl
  rw [e, g2c, if_pos (show (some mwb).isSome = true from rfl)]
  unfold mx3
  rfl
theorem mx3b : healB kinD mx2 mwq false = some mwb := by
  unfold healB
  rw [if_pos mwmay, seen2, first2]
theorem mx3e : healE kinD mx2 mwq false = 0 := by
  unfold healE
  rw [if_pos mwmay, seen2, first2]
  rfl
theorem mx3l : look (mx3.d 0) 1 = some mwb := by kernel_rfl
def mx4 : Mi Dsk Sp := { mx3 with d := upk mx3.d 0 (ailed (mx3.d 0) 2 512 (fun k => { k with stuck := true })).2 }
def mx4w : Mi Dsk Sp := (wrote1 kinD (founds mx4 [(0, 2)]) mwb (0, 2)).2
def mx5 : Mi Dsk Sp := { mx4w with s := kinD.sick (founds mx4 [(0, 2)]).s 0 2, mv := addMv (founds mx4 [(0, 2)]).mv mwq }
theorem g4a : gd kinD mx4 mwq (0, 1) = some mwb := gd_yes (by kernel_rfl)
theorem g4b : gd kinD mx4 mwq (0, 2) = none := gd_none (by kernel_rfl)
theorem g4c : gd kinD mx4 mwq (1, 3) = some mwb := gd_yes (by kernel_rfl)
theorem g4d : gd kinD mx4 mwq (1, 4) = some mwb := gd_yes (by kernel_rfl)
theorem g4w : gd kinD mx4w mwq (0, 2) = none := gd_none (by kernel_rfl)
theorem dead4 : kinD.dead (mx4.d 0) = false := by kernel_rfl
theorem seen4 : seen kinD mx4 mwq true = [(0, 1), (0, 2), (1, 3), (1, 4)] := by
  simp [seen, mwcps]
theorem ill4 : ill kinD mx4 mwq [(0, 1), (0, 2), (1, 3), (1, 4)] = [(0, 2)] := by
  simp [ill, g4a, g4b, g4c, g4d, dead4]
theorem first4 : firstG kinD mx4 mwq [(0, 1), (0, 2), (1, 3), (1, 4)] = some mwb := by
  simp [firstG, g4a]
theorem mx5s : healS kinD mx4 mwq true = mx5 := by
  unfold healS endS
  rw [if_pos mwmay, seen4, first4, ill4]
  simp only [mends, List.foldl_cons, List.foldl_nil]
  unfold mend1
  have e : (wrote1 kinD (founds mx4 [(0, 2)]) mwb (0, 2)).2 = mx4w := by unfold mx4w; rfl
  rw [e, g4w, if_neg (show ¬ ((none : Option Bs).isSome = true) by simp)]
  unfold mx5
  rfl
theorem mx5e : healE kinD mx4 mwq true = 0 := by
  unfold healE
  rw [if_pos mwmay, seen4, first4]
  rfl
theorem mx5v : mx5.mv = [mwq] := by rfl
theorem mx5f : mx5.f 0 = 2 := by rfl
theorem mx5g : mx5.g 0 = 1 := by rfl
theorem mx5h0 : healthN mx5 0 = 1 := by kernel_rfl
theorem mx5h1 : healthN mx5 1 = 0 := by kernel_rfl
theorem mx5i : isS mx5.s 0 2 = true := by kernel_rfl
end Go.Proofs.YtmgagalhpkieoaaGreatDoor
