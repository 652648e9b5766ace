/- Bytes, again and again, to a block. -/
import Derived.Test.YtneemllgimeacaaRt
namespace Go.Proofs.Ytneemllgimeacaa
open Go.RowKit

def fullAt (b : Bs) (i : Nat) : BitVec 8 := if b.length = 0 then 0 else b.getD (i % b.length) 0
def fullN (b : Bs) (k : Nat) : Bs := (List.range k).map (fullAt b)
def full (b : Bs) : Bs := fullN b 512
theorem fullN_length (b : Bs) (k : Nat) : (fullN b k).length = k := by simp [fullN]
theorem full_length (b : Bs) : (full b).length = 512 := fullN_length b 512
theorem fullN_succ (b : Bs) (k : Nat) : fullN b (k + 1) = fullN b k ++ [fullAt b k] := by simp [fullN, List.range_succ]
def FullRel (b : Bs) (k : Nat) (w : World) (s : Value) (wr : World) : Prop := OwnB wr w.heap.size s (fullN b k) ∧ Below w.heap.size w wr
theorem one_at8 (w : World) (v : Value) (t : TypeId) : ∀ j u, [v][j]? = some u → (w.alloc (.cells #[v] t)).cell? ((⟨w.heap.size, 0, none⟩ : Addr).add j) = some u := by
  intro j u hj
  match j, hj with
  | 0, hj => simp at hj; subst hj; simp [Addr.add]
theorem FullRel.next {b : Bs} {k : Nat} {w wr w2 : World} {v v' : Value} {x : BitVec 8} {t : TypeId} (h : FullRel b k w v wr) (hx : x = fullAt b k) (ho : w2.ownsRow w.heap.size 5 1 v' ((fullN b k).length + 1) ((fullN b k).map V8 ++ [V8 x])) (hg : (wr.alloc (.cells #[V8 x] t)).grownBy w2 v.ownBlock) : FullRel b (k + 1) w v' w2 := by
  subst hx
  refine ⟨?_, (h.2.alloc h.2.size _).grown hg (by have := h.2.size; simp; omega) (fun j hj => (h.1.lt j hj).1)⟩
  unfold OwnB
  rw [fullN_succ, List.map_append, List.length_append]
  exact ho
set_option maxRecDepth 100000 in
set_option maxHeartbeats 1000000 in
theorem full_any (b : Bs) (sp : Option Addr) (n cap : Nat) (hbn : b.length = n) (hn : n < 1000000) (w : World) (hS : SrcA w sp b) :
    Calls Try.prog 34 #[.slice sp n cap] w fun e w' => ∃ v, e = .returned v ∧ OwnB w' w.heap.size v (full b) ∧ Below w.heap.size w w' := by
  obtain ⟨i0, hi, hz0, hz1, hz2⟩ := info_parts infoB
  have HS := Lib.hid hS
  have HBN := Lib.hid hbn
  clear hS hbn
  have HR := Lib.hid (show FullRel b 0 w (.slice none 0 0) w from ⟨World.ownsRow_nil _ _ _ _, Below.refl _ _⟩)
  go_enter Try.func34, Try.ntmps34
  go_wp2_with fail
  go_loopw [3] (fun s wr => ∃ k : Nat, k ≤ 512 ∧ FullRel b k w s wr) (fun s _ => 512 - (match s with | .slice _ l _ => l | _ => 0))
  case atStart => exact ⟨0, by omega, HR.out⟩
  case round =>
    clear HR
    obtain ⟨k, hk, hR⟩ := hrel
    obtain ⟨sp1, cap1, rfl, hc1, hm1, _, _, _⟩ := hR.1.form
    rw [fullN_length] at hc1 hR ⊢
    have HR := Lib.hid hR
    have ho : wr.ownsRow w.heap.size 5 1 (.slice sp1 k cap1) (fullN b k).length ((fullN b k).map V8) := hR.1
    have HO := Lib.hid ho
    clear ho hR
    by_cases hlt : k < 512
    · by_cases h0 : n = 0
      · subst h0
        have hx : (0 : BitVec 8) = fullAt b k := by unfold fullAt; rw [if_pos HBN.out]
        have HX := Lib.hid hx
        clear hx
        have z1 := hz1
        clear hz1
        have HZ1 := Lib.hid z1
        clear z1
        go_wp2_with (first | (at_builtin; refine wpList_append_own _ rfl _ _ 42 rfl w.heap.size 5 i0 (.int .u8 0) 1 1 Try.underlying42 hi hz0 HZ1.out hz2 rfl (by decide) (.slice sp1 k cap1) (fullN b k).length ((fullN b k).map V8) rfl (HO.out.alloc _) ⟨wr.heap.size, 0, none⟩ 1 1 [V8 0] rfl rfl (one_at8 _ _ _) (one_v8 [0]) (by rw [fullN_length]; unfold maxLen; omega) (by rw [fullN_length]; omega) (by have := HR.out.2.size; simp; omega) ?_; intro v2 w2 ho2 hg2 hn2; have HR2 := Lib.hid (HR.out.next HX.out ho2 hg2); clear ho2 hg2 hn2) | fail)
        obtain ⟨sp2, cap2, e2, _, _, _, _, _⟩ := HR2.out.1.form
        go_roundw
        case rel => exact ⟨k + 1, by omega, HR2.out⟩
        case measure => rw [e2]; simp [fullN_length]; omega
      · have hpos : 0 < n := by omega
        have hm : ((k : Int).tmod (n : Int)) = ((k % n : Nat) : Int) := by
          rw [Int.tmod_eq_emod_of_nonneg (by omega)]; simp
        have hlt2 : k % n < n := Nat.mod_lt _ hpos
        obtain ⟨g, o, rfl, hg, hcl⟩ := HS.out (by rw [HBN.out]; omega)
        have hcell := (HR.out.2.cell (p := ⟨g, o + k % n, none⟩) hg).trans (hcl (k % n) (by rw [HBN.out]; exact hlt2))
        obtain ⟨x, hx⟩ : ∃ x, b.getD (k % n) 0 = x := ⟨_, rfl⟩
        rw [hx] at hcell
        have hxx : x = fullAt b k := by unfold fullAt; rw [if_neg (by rw [HBN.out]; omega), HBN.out, hx]
        have HX := Lib.hid hxx
        clear hx hxx hcl hg
        obtain ⟨q, hq⟩ : ∃ q, k % n = q := ⟨_, rfl⟩
        rw [hq] at hm hlt2 hcell
        have HQ := Lib.hid hq
        clear hq
        have hwq := IntWalk.i64_in (q : Int) (by omega)
        have z1 := hz1
        clear hz1
        have HZ1 := Lib.hid z1
        clear z1
        go_wp2_with (first | (at_builtin; refine wpList_append_own _ rfl _ _ 42 rfl w.heap.size 5 i0 (.int .u8 0) 1 1 Try.underlying42 hi hz0 HZ1.out hz2 rfl (by decide) (.slice sp1 k cap1) (fullN b k).length ((fullN b k).map V8) rfl (HO.out.alloc _) ⟨wr.heap.size, 0, none⟩ 1 1 [V8 x] rfl rfl (one_at8 _ _ _) (one_v8 [x]) (by rw [fullN_length]; unfold maxLen; omega) (by rw [fullN_length]; omega) (by have := HR.out.2.size; simp; omega) ?_; intro v2 w2 ho2 hg2 hn2; have HR2 := Lib.hid (HR.out.next HX.out ho2 hg2); clear ho2 hg2 hn2) | fail)
        obtain ⟨sp2, cap2, e2, _, _, _, _, _⟩ := HR2.out.1.form
        go_roundw
        case rel => exact ⟨k + 1, by omega, HR2.out⟩
        case measure => rw [e2]; simp [fullN_length]; omega
    · obtain rfl : k = 512 := by omega
      go_wp2_with fail
      go_ret
      exact ⟨_, rfl, HR.out.1, HR.out.2⟩
end Go.Proofs.Ytneemllgimeacaa
