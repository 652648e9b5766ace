/- heapSort at uint32; reverseRange. -/
import Derived.Test.YtjgjohdeeeoeoaaGreatDoorM35
import Derived.Sort.LotD5
import Derived.Laws.Bits64
import Derived.Laws.Bits64b
import Derived.Sort.Row
import Derived.Test.YtjgjohdeeeoeoaaGreatDoorM34
namespace Go.Proofs.YtjgjohdeeeoeoaaGreatDoor
open Go.RowKit
attribute [local go_sem] Oper.semAt_some
def Down (k : Nat) (v : Value) : Prop := (k = 0 ∧ v = .int .i64 (-1)) ∨ ∃ j, k = j + 1 ∧ v = .int .i64 (j : Int)
theorem Down.next {j : Nat} {v : Int} (h : v = (j : Int) - 1) : Down j (.int .i64 v) := by
  subst h
  cases j with
  | zero => left; exact ⟨rfl, rfl⟩
  | succ j => right; exact ⟨j, rfl, by congr 1; omega⟩
section
variable {p : Nat → Bool} {d : Array Nat} {i j : Nat}
end
set_option maxRecDepth 100000 in
theorem len64_n0 (w : World) : Calls Tryz.prog 103 #[.int .u64 0] w fun e w' => e = .returned (.int .i64 0) ∧ w = w' := by
  go_enter Tryz.func103, Tryz.ntmps103
  go_wp2
  first | (go_ret; exact ⟨by kernel_rfl, rfl⟩) | exact ⟨by kernel_rfl, rfl⟩
set_option maxRecDepth 100000 in
theorem len64_n1 (w : World) : Calls Tryz.prog 103 #[.int .u64 1] w fun e w' => e = .returned (.int .i64 1) ∧ w = w' := by
  go_enter Tryz.func103, Tryz.ntmps103
  go_wp2
  first | (go_ret; exact ⟨by kernel_rfl, rfl⟩) | exact ⟨by kernel_rfl, rfl⟩
set_option maxRecDepth 100000 in
theorem len64_n2 (w : World) : Calls Tryz.prog 103 #[.int .u64 2] w fun e w' => e = .returned (.int .i64 2) ∧ w = w' := by
  go_enter Tryz.func103, Tryz.ntmps103
  go_wp2
  first | (go_ret; exact ⟨by kernel_rfl, rfl⟩) | exact ⟨by kernel_rfl, rfl⟩
set_option maxRecDepth 100000 in
theorem len64_n3 (w : World) : Calls Tryz.prog 103 #[.int .u64 3] w fun e w' => e = .returned (.int .i64 2) ∧ w = w' := by
  go_enter Tryz.func103, Tryz.ntmps103
  go_wp2
  first | (go_ret; exact ⟨by kernel_rfl, rfl⟩) | exact ⟨by kernel_rfl, rfl⟩
set_option maxRecDepth 100000 in
theorem len64_n4 (w : World) : Calls Tryz.prog 103 #[.int .u64 4] w fun e w' => e = .returned (.int .i64 3) ∧ w = w' := by
  go_enter Tryz.func103, Tryz.ntmps103
  go_wp2
  first | (go_ret; exact ⟨by kernel_rfl, rfl⟩) | exact ⟨by kernel_rfl, rfl⟩
set_option maxRecDepth 100000 in
theorem len64_n5 (w : World) : Calls Tryz.prog 103 #[.int .u64 5] w fun e w' => e = .returned (.int .i64 3) ∧ w = w' := by
  go_enter Tryz.func103, Tryz.ntmps103
  go_wp2
  first | (go_ret; exact ⟨by kernel_rfl, rfl⟩) | exact ⟨by kernel_rfl, rfl⟩
set_option maxRecDepth 100000 in
theorem len64_n6 (w : World) : Calls Tryz.prog 103 #[.int .u64 6] w fun e w' => e = .returned (.int .i64 3) ∧ w = w' := by
  go_enter Tryz.func103, Tryz.ntmps103
  go_wp2
  first | (go_ret; exact ⟨by kernel_rfl, rfl⟩) | exact ⟨by kernel_rfl, rfl⟩
set_option maxRecDepth 100000 in
theorem len64_n7 (w : World) : Calls Tryz.prog 103 #[.int .u64 7] w fun e w' => e = .returned (.int .i64 3) ∧ w = w' := by
  go_enter Tryz.func103, Tryz.ntmps103
  go_wp2
  first | (go_ret; exact ⟨by kernel_rfl, rfl⟩) | exact ⟨by kernel_rfl, rfl⟩
set_option maxRecDepth 100000 in
theorem len64_n8 (w : World) : Calls Tryz.prog 103 #[.int .u64 8] w fun e w' => e = .returned (.int .i64 4) ∧ w = w' := by
  go_enter Tryz.func103, Tryz.ntmps103
  go_wp2
  first | (go_ret; exact ⟨by kernel_rfl, rfl⟩) | exact ⟨by kernel_rfl, rfl⟩
set_option maxRecDepth 100000 in
theorem len64_n9 (w : World) : Calls Tryz.prog 103 #[.int .u64 9] w fun e w' => e = .returned (.int .i64 4) ∧ w = w' := by
  go_enter Tryz.func103, Tryz.ntmps103
  go_wp2
  first | (go_ret; exact ⟨by kernel_rfl, rfl⟩) | exact ⟨by kernel_rfl, rfl⟩
set_option maxRecDepth 100000 in
theorem len64_n10 (w : World) : Calls Tryz.prog 103 #[.int .u64 10] w fun e w' => e = .returned (.int .i64 4) ∧ w = w' := by
  go_enter Tryz.func103, Tryz.ntmps103
  go_wp2
  first | (go_ret; exact ⟨by kernel_rfl, rfl⟩) | exact ⟨by kernel_rfl, rfl⟩
set_option maxRecDepth 100000 in
theorem len64_n11 (w : World) : Calls Tryz.prog 103 #[.int .u64 11] w fun e w' => e = .returned (.int .i64 4) ∧ w = w' := by
  go_enter Tryz.func103, Tryz.ntmps103
  go_wp2
  first | (go_ret; exact ⟨by kernel_rfl, rfl⟩) | exact ⟨by kernel_rfl, rfl⟩
set_option maxRecDepth 100000 in
theorem len64_n12 (w : World) : Calls Tryz.prog 103 #[.int .u64 12] w fun e w' => e = .returned (.int .i64 4) ∧ w = w' := by
  go_enter Tryz.func103, Tryz.ntmps103
  go_wp2
  first | (go_ret; exact ⟨by kernel_rfl, rfl⟩) | exact ⟨by kernel_rfl, rfl⟩
set_option maxRecDepth 100000 in
set_option maxRecDepth 100000 in
set_option maxRecDepth 100000 in
set_option maxRecDepth 100000 in
set_option maxRecDepth 100000 in
set_option maxRecDepth 100000 in
set_option maxRecDepth 100000 in
set_option maxRecDepth 100000 in
set_option maxRecDepth 100000 in
set_option maxRecDepth 100000 in
set_option maxRecDepth 100000 in
set_option maxRecDepth 100000 in
set_option maxRecDepth 100000 in
set_option maxRecDepth 100000 in
set_option maxRecDepth 100000 in
set_option maxRecDepth 100000 in
set_option maxRecDepth 100000 in
set_option maxRecDepth 100000 in
set_option maxRecDepth 100000 in
set_option maxRecDepth 100000 in
set_option maxRecDepth 100000 in
set_option maxRecDepth 100000 in
set_option maxRecDepth 100000 in
set_option maxRecDepth 100000 in
set_option maxRecDepth 100000 in
set_option maxRecDepth 100000 in
set_option maxRecDepth 100000 in
set_option maxRecDepth 100000 in
set_option maxRecDepth 100000 in
set_option maxRecDepth 100000 in
set_option maxRecDepth 100000 in
set_option maxRecDepth 100000 in
set_option maxRecDepth 100000 in
set_option maxRecDepth 100000 in
set_option maxRecDepth 100000 in
set_option maxRecDepth 100000 in
set_option maxRecDepth 100000 in
set_option maxRecDepth 100000 in
set_option maxRecDepth 100000 in
set_option maxRecDepth 100000 in
set_option maxRecDepth 100000 in
set_option maxRecDepth 100000 in
set_option maxRecDepth 100000 in
set_option maxRecDepth 100000 in
set_option maxRecDepth 100000 in
set_option maxRecDepth 100000 in
set_option maxRecDepth 100000 in
set_option maxRecDepth 100000 in
set_option maxRecDepth 100000 in
set_option maxRecDepth 100000 in
set_option maxRecDepth 100000 in
set_option maxRecDepth 100000 in
theorem len64_s : ∀ (n : Nat), n ≤ 12 → ∀ w : World, Calls Tryz.prog 103 #[.int .u64 (n : Int)] w fun e w' => e = .returned (.int .i64 ((Sort.bitsLen n : Nat) : Int)) ∧ w = w'
  | 0, _, w => by rw [show Sort.bitsLen 0 = 0 by decide]; exact len64_n0 w
  | 1, _, w => by rw [show Sort.bitsLen 1 = 1 by decide]; exact len64_n1 w
  | 2, _, w => by rw [show Sort.bitsLen 2 = 2 by decide]; exact len64_n2 w
  | 3, _, w => by rw [show Sort.bitsLen 3 = 2 by decide]; exact len64_n3 w
  | 4, _, w => by rw [show Sort.bitsLen 4 = 3 by decide]; exact len64_n4 w
  | 5, _, w => by rw [show Sort.bitsLen 5 = 3 by decide]; exact len64_n5 w
  | 6, _, w => by rw [show Sort.bitsLen 6 = 3 by decide]; exact len64_n6 w
  | 7, _, w => by rw [show Sort.bitsLen 7 = 3 by decide]; exact len64_n7 w
  | 8, _, w => by rw [show Sort.bitsLen 8 = 4 by decide]; exact len64_n8 w
  | 9, _, w => by rw [show Sort.bitsLen 9 = 4 by decide]; exact len64_n9 w
  | 10, _, w => by rw [show Sort.bitsLen 10 = 4 by decide]; exact len64_n10 w
  | 11, _, w => by rw [show Sort.bitsLen 11 = 4 by decide]; exact len64_n11 w
  | 12, _, w => by rw [show Sort.bitsLen 12 = 4 by decide]; exact len64_n12 w
  | n + 13, h, _ => by omega
theorem len_s (n : Nat) (h : n ≤ 12) (w : World) : Calls Tryz.prog 90 #[.int .u64 (n : Int)] w fun e w' => e = .returned (.int .i64 ((Sort.bitsLen n : Nat) : Int)) ∧ w = w' := by
  have hl := len64_s n h w
  obtain ⟨L, hL⟩ : ∃ L, Sort.bitsLen n = L := ⟨_, rfl⟩
  rw [hL] at hl ⊢
  have HL := Lib.hid hl
  generalize hPost : (fun (e : Ending) (w' : World) => e = .returned (.int .i64 (L : Int)) ∧ w = w') = Post
  have HE := Lib.hid (show Post (.returned (.int .i64 (L : Int))) w by rw [← hPost]; exact ⟨rfl, rfl⟩)
  clear hPost hl hL
  go_enter Tryz.func90, Tryz.ntmps90
  go_wp2_with fail
  refine HL.out.mono ?_
  rintro e w' ⟨rfl, rfl⟩
  go_wp2_with fail
  first | exact HE.out | (go_ret; exact HE.out)
structure BrS (g rb : Nat) (w : World) (d : Array Nat) (rest : List Value) (R : Nat) (X : World) : Prop where
  so : SoW g w d rest X
  rn : Blk X rb [.int .u64 (R : Int)] 198
  ne : rb ≠ g ∧ w.heap.size ≤ rb
theorem BrS.drew {g rb : Nat} {w X : World} {d : Array Nat} {rest : List Value} {R : Nat} (h : BrS g rb w d rest R X) : BrS g rb w d rest R X.drew := ⟨h.so.drew, h.rn, h.ne⟩
theorem BrS.swap {g rb : Nat} {w X : World} {d : Array Nat} {rest : List Value} {R : Nat} (h : BrS g rb w d rest R X) {i j : Nat} (hi : i < d.size) (hj : j < d.size) :
    BrS g rb w (Sort.swp d i j) rest R ((X.setCell ⟨g, i, none⟩ (UV d[j]!)).setCell ⟨g, j, none⟩ (UV d[i]!)) :=
  ⟨h.so.swap hi hj, (h.rn.other (a := ⟨g, i, none⟩) h.ne.1 _).other (a := ⟨g, j, none⟩) h.ne.1 _, h.ne⟩
theorem BrS.next {g rb : Nat} {w X Y : World} {d : Array Nat} {rest : List Value} {R R' : Nat} (h : BrS g rb w d rest R X) (hB : Blk Y rb [.int .u64 (R' : Int)] 198) (hc : Chg (fun k => k = rb) X Y) : BrS g rb w d rest R' Y :=
  ⟨⟨Blk.chg h.so.at_ hc (fun e => h.ne.1 e.symm), h.so.chg.trans hc (fun i hi => .inr (by rw [hi]; exact h.ne.2))⟩, hB, h.ne⟩
structure CpS (g sb : Nat) (w : World) (d : Array Nat) (rest : List Value) (k : Nat) (X : World) : Prop where
  at_ : UAt X g d rest
  ct : Blk X sb [.int .i64 (k : Int)] 3
  ne : sb ≠ g
  chg : Chg (fun x => x = sb) w X
theorem CpS.drew {g sb : Nat} {w X : World} {d : Array Nat} {rest : List Value} {k : Nat} (h : CpS g sb w d rest k X) : CpS g sb w d rest k X.drew := ⟨h.at_, h.ct, h.ne, h.chg.drew⟩
theorem CpS.trans {g sb : Nat} {w X Y : World} {d : Array Nat} {rest : List Value} {k k' : Nat} (h : CpS g sb w d rest k X) (j : CpS g sb X d rest k' Y) : CpS g sb w d rest k' Y := ⟨j.at_, j.ct, j.ne, h.chg.trans' j.chg⟩
theorem CpS.start {g sb : Nat} {X : World} {d : Array Nat} {rest : List Value} {k : Nat} {w : World} (h : CpS g sb w d rest k X) : CpS g sb X d rest k X := ⟨h.at_, h.ct, h.ne, Chg.refl _ _⟩
end Go.Proofs.YtjgjohdeeeoeoaaGreatDoor
namespace Go.Proofs.YtjgjohdeeeoeoaaGreatDoor
open Go.RowKit
theorem swo32 : Sort.SWO lt32 where
  irrefl x := by simp [lt32]
  trans x y z h1 h2 := by simp only [lt32, decide_eq_true_eq] at *; omega
  ntrans x y z h1 h2 := by simp only [lt32, decide_eq_false_iff_not] at *; omega
section
variable {d d1 d4 : Array Nat} {a b l l1 p mid : Nat} {wb wp al : Bool} {h : Sort.Hint}
theorem pdq_ins (hL : b - a ≤ 12) : Sort.pdq lt32 d a b l wb wp = Sort.insertionSort lt32 d a b := by
  rw [Sort.pdq, if_pos hL]
end
end Go.Proofs.YtjgjohdeeeoeoaaGreatDoor
namespace Go.Proofs.YtjgjohdeeeoeoaaGreatDoor
open Go.RowKit
attribute [local go_sem] Oper.semAt_some
def PqPost (g n : Nat) (D : Array Nat) (rest : List Value) (w : World) (e : Ending) (W : World) : Prop := e = .returned (.tuple #[]) ∧ SoW g w D rest W ∧ D.size = n
set_option maxRecDepth 100000 in
set_option maxHeartbeats 32000000 in
theorem pdq_any (g cap n : Nat) (rest : List Value) (hc : n ≤ cap) (h50 : n < 13) : ∀ (m a b l : Nat) (d : Array Nat) (w : World), b - a = m → UAt w g d rest → d.size = n → a ≤ b → b ≤ n → l ≤ 64 →
    Calls Tryz.prog 89 #[.slice (some ⟨g, 0, none⟩) n cap, .int .i64 (a : Int), .int .i64 (b : Int), .int .i64 (l : Int)] w (PqPost g n (Sort.pdq lt32 d a b l true true) rest w) := by
  have HC : Hid (n ≤ cap) := Lib.hid hc
  have H50 : Hid (n < 13) := Lib.hid h50
  clear hc h50
  intro m
  induction m using Nat.strongRecOn with
  | _ m ih =>
  intro a b l d w hm hU hn hab hb hl
  have IH := Lib.hid ih
  obtain ⟨D, hD⟩ : ∃ D, Sort.pdq lt32 d a b l true true = D := ⟨_, rfl⟩
  rw [hD]
  have HD := Lib.hid hD
  generalize hPost : PqPost g n D rest w = Post
  have HPO : Hid (∀ W, SoW g w D rest W → D.size = n → Post (.returned (.tuple #[])) W) := Lib.hid fun W h1 h2 => by rw [← hPost]; exact ⟨rfl, h1, h2⟩
  have HN := Lib.hid hn; have HB : Hid (a ≤ b ∧ b ≤ n ∧ l ≤ 64 ∧ b - a = m) := Lib.hid ⟨hab, hb, hl, hm⟩
  have HS := Lib.hid (SoW.start hU)
  clear hD hPost hU hn hab hb hl hm ih
  go_enter Tryz.func89, Tryz.ntmps89
  go_wp2_with fail
  go_loopw [1, 2, 3, 8, 9] (fun va vb vl vwb vwp wr => ∃ (a' b' l' : Nat) (wb wp : Bool) (dk : Array Nat), va = .int .i64 (a' : Int) ∧ vb = .int .i64 (b' : Int) ∧ vl = .int .i64 (l' : Int) ∧ vwb = .bool wb ∧ vwp = .bool wp ∧ a' ≤ b' ∧ b' ≤ n ∧ b' - a' ≤ m ∧ l' ≤ 64 ∧ dk.size = n ∧ Sort.pdq lt32 dk a' b' l' wb wp = D ∧ SoW g w dk rest wr) (fun va vb _ _ _ _ => (intOf vb - intOf va).toNat)
  case atStart => exact ⟨a, b, l, true, true, d, rfl, rfl, rfl, rfl, rfl, HB.out.1, HB.out.2.1, by have := HB.out; omega, HB.out.2.2.1, HN.out, HD.out, HS.out⟩
  case round =>
    clear HS HD HB HN
    obtain ⟨a', b', l', wb, wp, dk, rfl, rfl, rfl, rfl, rfl, hab, hbn, hbm, hl64, hdk, hpd, hs⟩ := hrel
    have HDS := Lib.hid hdk; have HPD := Lib.hid hpd; have HS := Lib.hid hs
    have HB : Hid (a' ≤ b' ∧ b' ≤ n ∧ b' - a' ≤ m ∧ l' ≤ 64 ∧ n < 13 ∧ n ≤ cap) := Lib.hid ⟨hab, hbn, hbm, hl64, H50.out, HC.out⟩
    have h50 := H50.out
    have hcc := HC.out
    obtain ⟨L, hL⟩ : ∃ L, b' - a' = L := ⟨_, rfl⟩
    have HLL := Lib.hid hL
    have wkL : (b' : Int) - (a' : Int) = (L : Int) := by omega
    have wkL1 := IntWalk.i64_in ((L : Int)) (by omega)
    by_cases h12 : L ≤ 12
    · have j1 : (L : Int) ≤ 12 := by omega
      have hD2 : Sort.insertionSort lt32 dk a' b' = D := by rw [← hpd]; exact (pdq_ins (by omega)).symm
      have hsz : D.size = n := by rw [← hD2, (Sort.insertionSort_holds swo32 dk a' b' hab (by omega)).1.1, hdk]
      have hin := ins_any g cap a' b' n dk rest wr hs.at_ hdk hcc hab hbn (by omega)
      rw [hD2] at hin
      have HIN := Lib.hid hin; have HSZ := Lib.hid hsz
      clear hin hsz hD2 hdk hpd hs hL hab hbn hbm hl64 h12
      go_wp2_with fail
      refine HIN.out.mono ?_
      rintro e X ⟨rfl, hx⟩
      have HE := Lib.hid (HPO.out X (HS.out.trans hx) HSZ.out)
      clear hx
      go_wp2_with fail
      first | exact HE.out | (go_end0; exact HE.out) | (go_ret; exact HE.out)
    exact absurd (show L ≤ 12 by omega) h12
theorem sort_list {d : Array Nat} {D : Array Nat} (h : Sort.pdq lt32 d 0 d.size (Sort.bitsLen d.size) true true = D) : D.toList = d.toList.mergeSort (fun x y => decide (x ≤ y)) := by
  have hs := Sort.sort_sorts lt32 swo32 d
  have e : Sort.sort lt32 d = D := h
  rw [e] at hs
  have hu := Sort.sorted_unique_holds (lt := lt32) swo32 (fun x y h1 h2 => by simp only [lt32, decide_eq_false_iff_not] at h1 h2; omega) d D hs.1 hs.2
  rw [hu]
  congr 1
  funext x y
  simp only [lt32]
  rw [Bool.eq_iff_iff]
  simp
set_option maxRecDepth 100000 in
theorem sort_any (g cap n : Nat) (d : Array Nat) (rest : List Value) (w : World) (hU : UAt w g d rest) (hn : d.size = n) (hc : n ≤ cap) (h50 : n < 13) :
    Calls Tryz.prog 67 #[.slice (some ⟨g, 0, none⟩) n cap] w fun e w' => e = .returned (.tuple #[]) ∧ ∃ D : Array Nat, SoW g w D rest w' ∧ D.size = n ∧ D.toList = d.toList.mergeSort (fun x y => decide (x ≤ y)) := by
  have hbl : Sort.bitsLen n ≤ 64 := Nat.le_trans ((Sort.bitsLen_le_iff n 6).2 (by omega)) (by omega)
  have hp := pdq_any g cap n rest hc h50 n 0 n (Sort.bitsLen n) d w (by omega) hU hn (by omega) (Nat.le_refl _) hbl
  obtain ⟨D, hD⟩ : ∃ D, Sort.pdq lt32 d 0 n (Sort.bitsLen n) true true = D := ⟨_, rfl⟩
  have hsl : D.toList = d.toList.mergeSort (fun x y => decide (x ≤ y)) := sort_list (by rw [hn]; exact hD)
  rw [hD] at hp
  have hlen := len_s n (by omega) w
  obtain ⟨l, hl⟩ : ∃ l, Sort.bitsLen n = l := ⟨_, rfl⟩
  rw [hl] at hp hlen
  have HP := Lib.hid hp; have HL := Lib.hid hlen
  generalize hPost : (fun (e : Ending) (w' : World) => e = .returned (.tuple #[]) ∧ ∃ D : Array Nat, SoW g w D rest w' ∧ D.size = n ∧ D.toList = d.toList.mergeSort (fun x y => decide (x ≤ y))) = Post
  have HPO : Hid (∀ W, SoW g w D rest W → D.size = n → Post (.returned (.tuple #[])) W) := Lib.hid fun W h1 h2 => by rw [← hPost]; exact ⟨rfl, D, h1, h2, hsl⟩
  have wku : IntKind.u64.wrap (n : Int) = (n : Int) := by rw [IntKind.wrap_u64]; omega
  clear hPost hU hn hc h50 hbl hp hD hsl hlen hl
  go_enter Tryz.func67, Tryz.ntmps67
  go_wp2_with fail
  refine HL.out.mono ?_
  rintro e w' ⟨rfl, rfl⟩
  go_wp2_with fail
  refine HP.out.mono ?_
  rintro e X ⟨rfl, hx, hsz⟩
  have HE := Lib.hid (HPO.out X hx hsz)
  clear hx hsz
  go_wp2_with fail
  first | exact HE.out | (go_end0; exact HE.out) | (go_ret; exact HE.out)
theorem ins_nil (w : World) : Calls Tryz.prog 107 #[.slice none 0 0, .int .i64 0, .int .i64 0] w fun e w' => e = .returned (.tuple #[]) ∧ w' = w := by
  go_enter Tryz.func107, Tryz.ntmps107
  go_wp2_with fail
  go_loopw [6] (fun v wr => v = .int .i64 1 ∧ wr = w) (fun _ _ => 0)
  case atStart => exact ⟨rfl, rfl⟩
  case round =>
    obtain ⟨rfl, rfl⟩ := hrel
    go_wp2_with fail
    first | exact ⟨rfl, rfl⟩ | (go_end0; exact ⟨rfl, rfl⟩)
theorem pdq_nil (w : World) : Calls Tryz.prog 89 #[.slice none 0 0, .int .i64 0, .int .i64 0, .int .i64 0] w fun e w' => e = .returned (.tuple #[]) ∧ w' = w := by
  go_enter Tryz.func89, Tryz.ntmps89
  go_wp2_with fail
  go_loopw [1, 2, 3, 8, 9] (fun a b c d e wr => a = .int .i64 0 ∧ b = .int .i64 0 ∧ c = .int .i64 0 ∧ d = .bool true ∧ e = .bool true ∧ wr = w) (fun _ _ _ _ _ _ => 0)
  case atStart => exact ⟨rfl, rfl, rfl, rfl, rfl, rfl⟩
  case round =>
    obtain ⟨rfl, rfl, rfl, rfl, rfl, rfl⟩ := hrel
    go_wp2_with fail
    refine (ins_nil _).mono ?_
    rintro e w' ⟨rfl, rfl⟩
    go_wp2_with fail
    exact bodyPost_ret (results_none rfl _ _ _) rfl ⟨rfl, rfl⟩
theorem sort_nil (w : World) : Calls Tryz.prog 67 #[.slice none 0 0] w fun e w' => e = .returned (.tuple #[]) ∧ w' = w := by
  have HL := Lib.hid (len_s 0 (by omega) w)
  have wku : IntKind.u64.wrap (0 : Int) = 0 := by rw [IntKind.wrap_u64]; rfl
  go_enter Tryz.func67, Tryz.ntmps67
  go_wp2_with fail
  refine HL.out.mono ?_
  rintro e w' ⟨rfl, rfl⟩
  rw [show Sort.bitsLen 0 = 0 from rfl]
  go_wp2_with fail
  refine (pdq_nil _).mono ?_
  rintro e w' ⟨rfl, rfl⟩
  go_wp2_with fail
  first | exact ⟨rfl, rfl⟩ | (go_end0; exact ⟨rfl, rfl⟩) | (go_ret; exact ⟨rfl, rfl⟩)
section
variable {β : Type} {T : MTy β}
abbrev le32 : Nat → Nat → Bool := fun x y => decide (x ≤ y)
def SortedPost (T : MTy β) (S : List Nat → Prop) (w : World) (e : Ending) (w' : World) : Prop :=
  ∃ v ss, e = .returned v ∧ S ss ∧ w'.ownsRow w.heap.size 24 1 v ss.length ((ss.mergeSort le32).map T.kv) ∧ Below w.heap.size w w'
set_option maxRecDepth 100000 in
set_option maxHeartbeats 4000000 in
theorem sorted_any (hq : T.q = .u32) {gf : Nat} {lb : Array Value} (eg : ∀ args w, (callFunc gf args).run Tryz.prog w = .ok (.enter gf args) w) {S Sp : List Nat → Prop} (hS : ∀ ss, S ss → ss.length < 13) {N : Nat} (hN : N ≤ 1000000) {w : World} (hseq : SeqStopsK Fence.wide 4 Tryz.prog gf lb (fun x : Nat => #[T.kv x]) KeepsWalks S Sp N w) :
    Calls Tryz.prog 36 #[.func (.func gf) #[] lb] w (SortedPost T S w) := by
  have hkv : T.kv = UV := by funext x; unfold MTy.kv UV; rw [hq]
  have HA := Lib.hid (coll_any eg hN hseq)
  generalize hPost : SortedPost T S w = Post
  have HP : Hid (∀ v ss W, S ss → W.ownsRow w.heap.size 24 1 v ss.length ((ss.mergeSort le32).map UV) → Below w.heap.size w W → Post (.returned v) W) := Lib.hid fun v ss W h1 h2 h3 => by rw [← hPost]; exact ⟨v, ss, rfl, h1, by rw [hkv]; exact h2, h3⟩
  have HSS := Lib.hid hS
  clear hPost hseq hS
  go_enter Tryz.func36, Tryz.ntmps36
  go_wp2_with fail
  refine HA.out.mono ?_
  rintro e W ⟨v, ss, rfl, hss, hrow, hb⟩
  rw [hkv] at hrow
  have HS1 := Lib.hid hss; have HB1 := Lib.hid hb
  rcases hrow.2 with ⟨rfl, hz⟩ | ⟨g, cap, cur, rfl, hge, hg, hc, hm, hs, ht⟩
  · have hse : ss = [] := List.eq_nil_of_length_eq_zero hz
    subst hse
    have HE := Lib.hid (HP.out (.slice none 0 0) [] W hss (by simpa using hrow) hb)
    clear hrow hz hss hb
    go_wp2_with fail
    refine (sort_nil W).mono ?_
    rintro e w' ⟨rfl, rfl⟩
    go_wp2_with fail
    first | exact HE.out | (go_ret; exact HE.out)
  · have hlen := HSS.out ss hss
    have ht' : cur.toList.take ss.length = ss.map UV := by simpa using ht
    have hU : UAt W g ss.toArray (cur.toList.drop ss.length) := by
      unfold UAt Blk
      rw [show ss.toArray.toList = ss from rfl, ← ht', List.take_append_drop]
      simpa using hg
    obtain ⟨n, hn⟩ : ∃ n, ss.length = n := ⟨_, rfl⟩
    have HSO := Lib.hid (sort_any g cap n ss.toArray (cur.toList.drop ss.length) W hU (by simpa using hn) (by omega) (by omega))
    have HFIN : Hid (∀ D W', SoW g W D (cur.toList.drop ss.length) W' → D.size = n → D.toList = ss.mergeSort le32 → Post (.returned (.slice (some ⟨g, 0, none⟩) n cap)) W') := Lib.hid (fun D W' h1 h2 h3 => by
      rw [← hn]
      refine HP.out _ ss W' hss ⟨by simp, .inr ⟨g, cap, (D.toList.map UV ++ cur.toList.drop ss.length).toArray, rfl, hge, ?_, hc, hm, ?_, ?_⟩⟩ (hb.trans ?_)
      · have := h1.at_
        unfold UAt Blk at this
        simpa using this
      · have e1 : D.toList.length = ss.length := by simp [h2, hn]
        have e2 : ss.length ≤ cur.size := by
          have := congrArg List.length ht'
          simp at this
          omega
        simp only [List.size_toArray, List.length_append, List.length_map, List.length_drop, Array.length_toList] at *
        omega
      · have e1 : (D.toList.map UV).length = ss.length := by simp [h2, hn]
        rw [h3] at e1 ⊢
        simp only [List.length_map] at e1 ⊢
        rw [List.take_append_of_le_length (by simp)]
        exact List.take_of_length_le (by simp)
      · have h5 := h1.chg
        exact ⟨h5.os, h5.tape, h5.output, h5.size, fun k hk => h5.block k (Nat.lt_of_lt_of_le hk hb.size) (fun e => by have e : k = g := e; omega)⟩)
    rw [hn]
    clear hrow hss hb hg hU ht ht' hkv
    go_wp2_with fail
    refine HSO.out.mono ?_
    rintro e W' ⟨rfl, D, h1, h2, h3⟩
    have HE := Lib.hid (HFIN.out D W' h1 h2 h3)
    clear h1 h2 h3
    go_wp2_with fail
    first | exact HE.out | (go_ret; exact HE.out)
end
abbrev Spt := Option (Nat × Nat × Nat)
def SpV : Spt → Value
  | none => .slice none 0 0
  | some (g, o, n) => .slice (some ⟨g, o, none⟩) n n
def SpD : Spt → DataW Unit
  | none => .agg []
  | some (g, o, n) => .agg [.lit (.int .i64 (g : Int)), .lit (.int .i64 (o : Int)), .lit (.int .i64 (n : Int))]
theorem SpV_inj : ∀ {a b : Spt}, SpV a = SpV b → a = b
  | none, none, _ => rfl
  | none, some _, h => by simp [SpV] at h
  | some _, none, h => by simp [SpV] at h
  | some (g, o, n), some (g', o', n'), h => by
    simp only [SpV, Value.slice.injEq, Option.some.injEq, Addr.mk.injEq] at h
    obtain ⟨⟨h1, h2, -⟩, h3, -⟩ := h
    subst h1 h2 h3
    rfl
theorem SpD_inj : ∀ {a b : Spt}, SpD a = SpD b → a = b
  | none, none, _ => rfl
  | none, some _, h => by simp [SpD] at h
  | some _, none, h => by simp [SpD] at h
  | some (g, o, n), some (g', o', n'), h => by
    simp only [SpD, DataW.agg.injEq, List.cons.injEq, DataW.lit.injEq, Lit.int.injEq, true_and, and_true] at h
    obtain ⟨h1, h2, h3⟩ := h
    obtain rfl : g = g' := by omega
    obtain rfl : o = o' := by omega
    obtain rfl : n = n' := by omega
    rfl
theorem wf_u32 {a : Nat} (h : a < 4294967296) : (Lit.int .u32 (a : Int)).wf = true := by
  have e1 : IntKind.u32.min = 0 := rfl
  have e2 : IntKind.u32.max = 4294967295 := rfl
  simp [Lit.wf, e1, e2]
  omega
theorem inv_u32 {a : Int} (h : (Lit.int .u32 a).wf = true) : ∃ n : Nat, a = (n : Int) ∧ n < 4294967296 := by
  have e1 : IntKind.u32.min = 0 := rfl
  have e2 : IntKind.u32.max = 4294967295 := rfl
  simp [Lit.wf, e1, e2] at h
  exact ⟨a.toNat, by omega, by omega⟩
theorem zeroTms (w : World) : (zeroValue 55).run Tryz.prog w = .ok (.slice none 0 0) w := by kernel_rfl
def TU : MTy Spt where
  k := 24
  t := 96
  e := 55
  q := .u32
  top := 4294967296
  ev := SpV
  dv := SpD
  z := none
  hk := Tryz.underlying24
  ht := Tryz.underlying96
  hz := zeroTms
  je := SpV_inj
  jd := SpD_inj
  fit := wf_u32
  inv := inv_u32
def grpI (off : Nat) (l : List Itm) : List Itm := l.filter (fun x => x.1 / 4 == off)
def partF (g o : Nat) (l : List Itm) : Nat → Option Spt := fun off => if grpI off l = [] then none else some (some (g, o + l.findIdx (fun x => x.1 / 4 == off) * 45, (grpI off l).length))
def AscI (l : List Itm) : Prop := l.Pairwise (fun x y => x.1 < y.1)
def leadN (off : Nat) (l : List Itm) : Nat := (l.takeWhile (fun x => x.1 / 4 == off)).length
theorem leadN_le (off : Nat) (l : List Itm) : leadN off l ≤ l.length := (List.takeWhile_sublist _).length_le
theorem take_lead (off : Nat) (l : List Itm) : l.take (leadN off l) = l.takeWhile (fun x => x.1 / 4 == off) := by
  have h := List.takeWhile_append_dropWhile (p := fun x : Itm => x.1 / 4 == off) (l := l)
  unfold leadN
  generalize l.takeWhile (fun x => x.1 / 4 == off) = a at h ⊢
  generalize l.dropWhile (fun x => x.1 / 4 == off) = b at h
  rw [← h, List.take_left]
theorem tw_imp {α : Type} {p : α → Bool} {x : α} : ∀ {l : List α}, x ∈ l.takeWhile p → p x = true
  | [], h => by simp at h
  | y :: l, h => by
    rw [List.takeWhile_cons] at h
    split at h
    · rcases List.mem_cons.1 h with e | h
      · subst e; assumption
      · exact tw_imp h
    · simp at h
theorem lead_at {off : Nat} {l : List Itm} {k : Nat} (hk : k < leadN off l) {x : Itm} (hx : l[k]? = some x) : x.1 / 4 = off := by
  have h1 : (l.take (leadN off l))[k]? = some x := by rw [List.getElem?_take, if_pos hk]; exact hx
  rw [take_lead] at h1
  have := tw_imp (List.mem_of_getElem? h1)
  simpa using this
theorem lead_stop {off : Nat} : ∀ {l : List Itm} {x : Itm}, l[leadN off l]? = some x → x.1 / 4 ≠ off
  | [], x, h => by simp at h
  | y :: l, x, h => by
    by_cases hy : y.1 / 4 = off
    · have e : leadN off (y :: l) = leadN off l + 1 := by simp [leadN, hy]
      rw [e, List.getElem?_cons_succ] at h
      exact lead_stop h
    · have e : leadN off (y :: l) = 0 := by simp [leadN, hy]
      rw [e, List.getElem?_cons_zero] at h
      cases h
      exact hy
theorem lead_eq {off : Nat} {l : List Itm} {n : Nat} (h1 : ∀ k x, k < n → l[k]? = some x → x.1 / 4 = off) (hn : n ≤ l.length) (h2 : ∀ x, l[n]? = some x → x.1 / 4 ≠ off) : leadN off l = n := by
  rcases Nat.lt_trichotomy (leadN off l) n with h | h | h
  · obtain ⟨x, hx⟩ : ∃ x, l[leadN off l]? = some x := ⟨_, List.getElem?_eq_getElem (by omega)⟩
    exact absurd (h1 _ _ h hx) (lead_stop hx)
  · exact h
  · have := leadN_le off l
    obtain ⟨x, hx⟩ : ∃ x, l[n]? = some x := ⟨_, List.getElem?_eq_getElem (by omega)⟩
    exact absurd (lead_at h hx) (h2 x hx)
theorem AscI.lt {l : List Itm} (h : AscI l) {i j : Nat} {x y : Itm} (hij : i < j) (hi : l[i]? = some x) (hj : l[j]? = some y) : x.1 < y.1 := by
  obtain ⟨h1, e1⟩ := List.getElem?_eq_some_iff.1 hi
  obtain ⟨h2, e2⟩ := List.getElem?_eq_some_iff.1 hj
  rw [← e1, ← e2]
  exact List.pairwise_iff_getElem.1 h i j h1 h2 hij
theorem partF_step {g o : Nat} {l : List Itm} {i : Nat} {x : Itm} (hx : l[i]? = some x) (hnew : ∀ y ∈ l.take i, y.1 / 4 ≠ x.1 / 4) :
    partF g o (l.take (i + leadN (x.1 / 4) (l.drop i))) = putF (partF g o (l.take i)) (x.1 / 4) (some (g, o + i * 45, leadN (x.1 / 4) (l.drop i))) := by
  obtain ⟨k, hk⟩ : ∃ k, leadN (x.1 / 4) (l.drop i) = k := ⟨_, rfl⟩
  have hil : i < l.length := (List.getElem?_eq_some_iff.1 hx).1
  have ht : l.take (i + k) = l.take i ++ (l.drop i).takeWhile (fun y => y.1 / 4 == x.1 / 4) := by
    rw [List.take_add, ← hk, take_lead]
  have hk0 : 0 < k := by
    rw [← hk]
    have : l.drop i = x :: l.drop (i + 1) := by
      obtain ⟨h1, e1⟩ := List.getElem?_eq_some_iff.1 hx
      rw [List.drop_eq_getElem_cons h1, e1]
    rw [this]
    simp [leadN]
  have hkl : ((l.drop i).takeWhile (fun y => y.1 / 4 == x.1 / 4)).length = k := hk
  have hall : ∀ y ∈ (l.drop i).takeWhile (fun y => y.1 / 4 == x.1 / 4), y.1 / 4 = x.1 / 4 := fun y hy => by simpa using tw_imp hy
  rw [hk, ht]
  generalize (l.drop i).takeWhile (fun y => y.1 / 4 == x.1 / 4) = m at hkl hall
  have hti : (l.take i).length = i := by rw [List.length_take]; omega
  generalize l.take i = d at hnew hti
  funext off
  unfold partF putF
  by_cases hq : off = x.1 / 4
  · subst hq
    rw [if_pos rfl]
    have g1 : grpI (x.1 / 4) d = [] := by
      unfold grpI
      rw [List.filter_eq_nil_iff]
      intro y hy
      simpa using hnew y hy
    have g2 : grpI (x.1 / 4) m = m := by
      unfold grpI
      rw [List.filter_eq_self]
      intro y hy
      simpa using hall y hy
    have g3 : grpI (x.1 / 4) (d ++ m) = m := by
      unfold grpI at *
      rw [List.filter_append, g1, g2, List.nil_append]
    have g4 : (d ++ m).findIdx (fun y => y.1 / 4 == x.1 / 4) = i := by
      rw [List.findIdx_append, List.findIdx_eq_length.2 (fun y hy => by simpa using hnew y hy), hti]
      rw [if_neg (by omega)]
      cases m with
      | nil => simp at hkl; omega
      | cons y m =>
        rw [List.findIdx_cons]
        simp [hall y (List.mem_cons_self ..)]
    rw [g3, g4, hkl]
    rw [if_neg (by intro e; rw [e] at hkl; simp at hkl; omega)]
  · rw [if_neg hq]
    have g1 : grpI off m = [] := by
      unfold grpI
      rw [List.filter_eq_nil_iff]
      intro y hy
      have := hall y hy
      simp
      omega
    have g2 : grpI off (d ++ m) = grpI off d := by
      unfold grpI at *
      rw [List.filter_append, g1, List.append_nil]
    rw [g2]
    dsimp only
    by_cases h0 : grpI off d = []
    · rw [if_pos h0, if_pos h0]
    · rw [if_neg h0, if_neg h0]
      have g3 : (d ++ m).findIdx (fun y => y.1 / 4 == off) = d.findIdx (fun y => y.1 / 4 == off) := by
        rw [List.findIdx_append, if_pos]
        rw [List.findIdx_lt_length]
        obtain ⟨y, hy⟩ := List.exists_mem_of_ne_nil _ h0
        unfold grpI at hy
        exact ⟨y, (List.mem_filter.1 hy).1, (List.mem_filter.1 hy).2⟩
      rw [g3]
theorem lead_rest {l : List Itm} (hasc : AscI l) {i : Nat} {x : Itm} (hx : l[i]? = some x) :
    ∀ z, l[i + leadN (x.1 / 4) (l.drop i)]? = some z → ∀ y ∈ l.take (i + leadN (x.1 / 4) (l.drop i)), y.1 / 4 ≠ z.1 / 4 := by
  intro z hz y hy
  obtain ⟨k, hk⟩ : ∃ k, leadN (x.1 / 4) (l.drop i) = k := ⟨_, rfl⟩
  have hst : z.1 / 4 ≠ x.1 / 4 := by
    refine lead_stop (l := l.drop i) ?_
    rw [List.getElem?_drop]
    exact hz
  rw [hk] at hz hy
  obtain ⟨j, hj⟩ := List.getElem?_of_mem hy
  have hjk : j < i + k := by
    have := (List.getElem?_eq_some_iff.1 hj).1
    rw [List.length_take] at this
    omega
  rw [List.getElem?_take, if_pos hjk] at hj
  have h1 := hasc.lt hjk hj hz
  have h2 : x.1 ≤ z.1 := by
    rcases Nat.eq_zero_or_pos k with e | e
    · subst e
      rw [Nat.add_zero, hx] at hz
      cases hz
      exact Nat.le_refl _
    · exact Nat.le_of_lt (hasc.lt (by omega) hx hz)
  have h3 : y.1 / 4 ≤ x.1 / 4 := by
    rcases Nat.lt_or_ge j i with h | h
    · exact Nat.div_le_div_right (Nat.le_of_lt (hasc.lt h hj hx))
    · refine Nat.le_of_eq (lead_at (l := l.drop i) (k := j - i) (off := x.1 / 4) (by omega) ?_)
      rw [List.getElem?_drop, show i + (j - i) = j by omega]
      exact hj
  have h4 : x.1 / 4 ≤ z.1 / 4 := Nat.div_le_div_right h2
  omega
end Go.Proofs.YtjgjohdeeeoeoaaGreatDoor
