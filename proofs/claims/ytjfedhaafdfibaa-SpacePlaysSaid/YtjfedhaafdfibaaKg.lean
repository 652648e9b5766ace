/- Count. -/
import Derived.Test.YtjfedhaafdfibaaKe
namespace Go.Proofs.Ytjfedhaafdfibaa
open Go.RowKit

/-- How many are so. -/
def cnt (p : Ax → Bool) : List Ax → Nat
  | [] => 0
  | a :: l => (if p a then 1 else 0) + cnt p l
theorem cnt_snoc (p : Ax → Bool) : ∀ (l : List Ax) (i : Nat) (a : Ax), l[i]? = some a → cnt p (l.take (i + 1)) = cnt p (l.take i) + if p a then 1 else 0
  | [], _, _, h => by simp at h
  | b :: l, 0, a, h => by simp at h; subst h; simp [cnt]
  | b :: l, i + 1, a, h => by
    have := cnt_snoc p l i a (by simpa using h)
    simp only [List.take_succ_cons, cnt, this]
    omega
theorem cnt_le (p : Ax → Bool) : ∀ l : List Ax, cnt p l ≤ l.length
  | [] => by simp [cnt]
  | a :: l => by have := cnt_le p l; simp only [cnt, List.length_cons]; split <;> omega
theorem cnt_set (p : Ax → Bool) : ∀ (l : List Ax) (i : Nat) (a b : Ax), l[i]? = some a → cnt p (l.set i b) + (if p a then 1 else 0) = cnt p l + if p b then 1 else 0
  | [], _, _, _, h => by simp at h
  | c :: l, 0, a, b, h => by simp at h; subst h; simp [cnt]; omega
  | c :: l, i + 1, a, b, h => by
    have := cnt_set p l i a b (by simpa using h)
    simp only [List.set_cons_succ, cnt]
    omega
def isB (k : Nat) (a : Ax) : Bool := a.is == k
def sickB (a : Ax) : Bool := a.sick
def countV (l : List Ax) : List Value := [.int .i64 (cnt (isB 0) l : Nat), .int .i64 (cnt (isB 1) l : Nat), .int .i64 (cnt (isB 2) l : Nat), .int .i64 (cnt sickB l : Nat)]
def countOf (sp : Sp) (d : Nat) : Value := .agg (countV (sp d)).toArray
theorem count_next {l : List Ax} {i n : Nat} {a : Ax} (h : l[i]? = some a) (hn : l.length ≤ n) (k : Nat) : cnt (isB k) (l.take (i + 1)) = cnt (isB k) (l.take i) + (if a.is = k then 1 else 0) ∧ cnt (isB k) (l.take i) ≤ n := by
  refine ⟨?_, ?_⟩
  · rw [cnt_snoc _ _ _ _ h]
    by_cases e : a.is = k <;> simp [isB, e]
  · have := cnt_le (isB k) (l.take i)
    simp at this
    omega
theorem count_sick {l : List Ax} {i n : Nat} {a : Ax} (h : l[i]? = some a) (hn : l.length ≤ n) : cnt sickB (l.take (i + 1)) = cnt sickB (l.take i) + (if a.sick = true then 1 else 0) ∧ cnt sickB (l.take i) ≤ n := by
  refine ⟨?_, ?_⟩
  · rw [cnt_snoc _ _ _ _ h]
    rfl
  · have := cnt_le sickB (l.take i)
    simp at this
    omega
set_option maxRecDepth 100000 in
set_option maxHeartbeats 4000000 in
theorem count_size0 (p : Value) (d : Int) (w : World) (h : ∀ w : World, Calls Try.prog 22 #[p, .int .i64 d] w fun e w' => e = .returned (.int .i64 0) ∧ w = w') : Calls Try.prog 18 #[p, .int .i64 d] w fun e w' => e = .returned (.agg (countV []).toArray) ∧ Below w.heap.size w w' := by
  have H := Lib.hid h
  clear h
  go_enter Try.func18, Try.ntmps18
  go_wp2_with (first | (go_at_call 22; refine (H.out _).mono ?_; rintro e w2 ⟨rfl, rfl⟩) | fail)
  go_loop [11] (fun i => i = .int .i64 0) (fun _ => 0)
  case atStart => rfl
  case round =>
    subst hrel
    go_wp2_with fail
    exact bodyPost_ret (v := .agg (countV []).toArray) (by simp [results, Try.results18, go_sem, countV, cnt]) rfl ⟨rfl, ((Below.refl _ _).alloc (Nat.le_refl _) _).alloc (by simp) _⟩
theorem count_nil (d : Int) (w : World) : Calls Try.prog 18 #[.pointer none, .int .i64 d] w fun e w' => e = .returned (.agg (countV []).toArray) ∧ Below w.heap.size w w' := count_size0 _ _ _ fun w => size_nil d w
theorem count_none (d : Int) (D : Nat) (w : World) (hd : d < 0 ∨ 2 ≤ d) : Calls Try.prog 18 #[.pointer (some ⟨D, 0, none⟩), .int .i64 d] w fun e w' => e = .returned (.agg (countV []).toArray) ∧ Below w.heap.size w w' := count_size0 _ _ _ fun w => size_no d w D hd
/-- What the loop of Count keeps. -/
def zero4 : List Value := [.int .i64 0, .int .i64 0, .int .i64 0, .int .i64 0]
def CntAt (w0 w : World) (g : Nat) (l : List Ax) (i : Nat) : Prop := Blk w (g + 1) (countV (l.take i)) 41 ∧ Blk w g zero4 41 ∧ Below w0.heap.size w0 w
set_option maxRecDepth 100000 in
set_option maxHeartbeats 4000000 in
theorem count_any (d D : Nat) (B : Nat → Nat) (sp : Sp) (w : World) (h : SpAt w D B sp) (hd : d < 2) : Calls Try.prog 18 #[.pointer (some ⟨D, 0, none⟩), .int .i64 (d : Int)] w fun e w' => e = .returned (countOf sp d) ∧ Below w.heap.size w w' := by
  have hn2 := h.len d hd
  obtain ⟨n, hn⟩ : ∃ n, (sp d).length = n := ⟨_, rfl⟩
  have HN := Lib.hid hn
  rw [hn] at hn2
  have H := Lib.hid h
  clear h hn
  go_enter Try.func18, Try.ntmps18
  go_wp2_with fail
  have hS := H.out.below ((Below.refl _ _).alloc (Nat.le_refl _) (.cells #[Value.int .i64 0, .int .i64 0, .int .i64 0, .int .i64 0] 41))
  have hS2 := hS.below ((Below.refl _ _).alloc (Nat.le_refl _) (.cells #[Value.int .i64 0, .int .i64 0, .int .i64 0, .int .i64 0] 41))
  refine (size_any d _ D B sp hS2 hd).mono ?_
  rw [HN.out]
  rintro e w2 ⟨rfl, rfl⟩
  have HS : Hid (CntAt w ((w.alloc (.cells #[Value.int .i64 0, .int .i64 0, .int .i64 0, .int .i64 0] 41)).alloc (.cells #[Value.int .i64 0, .int .i64 0, .int .i64 0, .int .i64 0] 41)) w.heap.size (sp d) 0) :=
    Lib.hid ⟨Blk.new' _ _ _ _ _ (by simp) rfl, (Blk.new w zero4 41).alloc _, ((Below.refl _ _).alloc (Nat.le_refl _) _).alloc (by simp) _⟩
  clear hS hS2
  generalize ((w.alloc (.cells #[Value.int .i64 0, .int .i64 0, .int .i64 0, .int .i64 0] 41)).alloc (.cells #[Value.int .i64 0, .int .i64 0, .int .i64 0, .int .i64 0] 41)) = W0 at HS ⊢
  have HG : Hid (∀ W, Below w.heap.size w W → SpAt W D B sp) := Lib.hid fun W hW => H.out.below hW
  obtain ⟨g, hg⟩ : ∃ g, w.heap.size = g := ⟨_, rfl⟩
  have HGE := Lib.hid hg
  rw [hg] at HS ⊢
  clear hg
  go_wp2_with fail
  go_loopw [11] (fun i wr => ∃ j : Nat, j ≤ n ∧ i = .int .i64 (j : Int) ∧ CntAt w wr g (sp d) j) (fun i _ => n - (intOf i).toNat)
  case atStart => exact ⟨0, by omega, rfl, HS.out⟩
  case round =>
    clear HS
    obtain ⟨j, hj, rfl, hW⟩ := hrel
    have wj := IntWalk.i64_in ((j : Int) + 1) (by omega)
    by_cases hjl : j < n
    · obtain ⟨a, ha⟩ : ∃ a, (sp d)[j]? = some a := ⟨_, List.getElem?_eq_getElem (by rw [HN.out]; exact hjl)⟩
      have hsp := HG.out wr hW.2.2
      have c0 := hsp.cell hd
      rw [HN.out] at c0
      have c1 := ((hsp.ax d hd).cell (acells_get _ j a ha).1)
      have c2 := ((hsp.ax d hd).cell (acells_get _ j a ha).2)
      have k0 := count_next (n := n) ha (Nat.le_of_eq HN.out) 0
      have k1 := count_next (n := n) ha (Nat.le_of_eq HN.out) 1
      have k2 := count_next (n := n) ha (Nat.le_of_eq HN.out) 2
      have k3 := count_sick (n := n) ha (Nat.le_of_eq HN.out)
      have hb := hW.1
      unfold countV at hb
      obtain ⟨m0, e0⟩ : ∃ m, cnt (isB 0) ((sp d).take j) = m := ⟨_, rfl⟩
      obtain ⟨m1, e1⟩ : ∃ m, cnt (isB 1) ((sp d).take j) = m := ⟨_, rfl⟩
      obtain ⟨m2, e2⟩ : ∃ m, cnt (isB 2) ((sp d).take j) = m := ⟨_, rfl⟩
      obtain ⟨m3, e3⟩ : ∃ m, cnt sickB ((sp d).take j) = m := ⟨_, rfl⟩
      rw [e0, e1, e2, e3] at hb
      rw [e0] at k0; rw [e1] at k1; rw [e2] at k2; rw [e3] at k3
      have q0 := hb.cell (j := 0) rfl
      have q1 := hb.cell (j := 1) rfl
      have q2 := hb.cell (j := 2) rfl
      have q3 := hb.cell (j := 3) rfl
      have f0 := hb.free 0
      have f1 := hb.free 1
      have f2 := hb.free 2
      have f3 := hb.free 3
      have glt := hb.lt
      have b0 := k0.2; have b1 := k1.2; have b2 := k2.2; have b3 := k3.2
      have v0 := IntWalk.i64_in ((m0 : Int) + 1) (by omega)
      have v1 := IntWalk.i64_in ((m1 : Int) + 1) (by omega)
      have v2 := IntWalk.i64_in ((m2 : Int) + 1) (by omega)
      have v3 := IntWalk.i64_in ((m3 : Int) + 1) (by omega)
      have HW := Lib.hid hW; have HB := Lib.hid hb
      have K0 := Lib.hid k0.1; have K1 := Lib.hid k1.1; have K2 := Lib.hid k2.1; have K3 := Lib.hid k3.1
      clear hsp hW ha hb k0 k1 k2 k3 e0 e1 e2 e3
      by_cases hs : a.sick = true
      · have HSK := Lib.hid hs
        rw [hs] at c2
        clear hs
        by_cases z0 : a.is = 0
        · rw [z0] at c1
          have HZ := Lib.hid z0
          clear z0
          go_wp2_with fail
          go_roundw
          case rel =>
            refine ⟨j + 1, by omega, by go_num, ?_, ((HW.out.2.1.other (a := ⟨g + 1, 0, none⟩) (by simp) _).other (a := ⟨g + 1, 3, none⟩) (by simp) _).alloc _, ((HW.out.2.2.setCell (by rw [HGE.out]; exact Nat.le_succ _) _).setCell (by rw [HGE.out]; exact Nat.le_succ _) _).alloc (by first | exact HW.out.2.2.size | (simp [World.setCell]; exact HW.out.2.2.size)) _⟩
            have hx := ((HB.out.set 0 (.int .i64 ((m0 : Int) + 1))).set 3 (.int .i64 ((m3 : Int) + 1))).alloc (.cells #[.int .u8 (a.is : Int), .bool true] 61)
            unfold countV
            rw [K0.out, if_pos HZ.out]
            rw [K1.out, if_neg (by have := HZ.out; omega)]
            rw [K2.out, if_neg (by have := HZ.out; omega)]
            rw [K3.out, if_pos HSK.out]
            simpa [HZ.out] using hx
          case measure => simp [intOf]; omega
        · have HZ0 := Lib.hid z0
          have t0 : ((a.is : Int) == 0) = false := by simp; omega
          clear z0
          by_cases z1 : a.is = 1
          · rw [z1] at c1
            have HZ := Lib.hid z1
            clear z1 t0 HZ0
            go_wp2_with fail
            go_roundw
            case rel =>
              refine ⟨j + 1, by omega, by go_num, ?_, ((HW.out.2.1.other (a := ⟨g + 1, 1, none⟩) (by simp) _).other (a := ⟨g + 1, 3, none⟩) (by simp) _).alloc _, ((HW.out.2.2.setCell (by rw [HGE.out]; exact Nat.le_succ _) _).setCell (by rw [HGE.out]; exact Nat.le_succ _) _).alloc (by first | exact HW.out.2.2.size | (simp [World.setCell]; exact HW.out.2.2.size)) _⟩
              have hx := ((HB.out.set 1 (.int .i64 ((m1 : Int) + 1))).set 3 (.int .i64 ((m3 : Int) + 1))).alloc (.cells #[.int .u8 (a.is : Int), .bool true] 61)
              unfold countV
              rw [K0.out, if_neg (by have := HZ.out; omega)]
              rw [K1.out, if_pos HZ.out]
              rw [K2.out, if_neg (by have := HZ.out; omega)]
              rw [K3.out, if_pos HSK.out]
              simpa [HZ.out] using hx
            case measure => simp [intOf]; omega
          · have HZ1 := Lib.hid z1
            have t1 : ((a.is : Int) == 1) = false := by simp; omega
            clear z1
            by_cases z2 : a.is = 2
            · rw [z2] at c1
              have HZ := Lib.hid z2
              clear z2 t0 HZ0 t1 HZ1
              go_wp2_with fail
              go_roundw
              case rel =>
                refine ⟨j + 1, by omega, by go_num, ?_, ((HW.out.2.1.other (a := ⟨g + 1, 2, none⟩) (by simp) _).other (a := ⟨g + 1, 3, none⟩) (by simp) _).alloc _, ((HW.out.2.2.setCell (by rw [HGE.out]; exact Nat.le_succ _) _).setCell (by rw [HGE.out]; exact Nat.le_succ _) _).alloc (by first | exact HW.out.2.2.size | (simp [World.setCell]; exact HW.out.2.2.size)) _⟩
                have hx := ((HB.out.set 2 (.int .i64 ((m2 : Int) + 1))).set 3 (.int .i64 ((m3 : Int) + 1))).alloc (.cells #[.int .u8 (a.is : Int), .bool true] 61)
                unfold countV
                rw [K0.out, if_neg (by have := HZ.out; omega)]
                rw [K1.out, if_neg (by have := HZ.out; omega)]
                rw [K2.out, if_pos HZ.out]
                rw [K3.out, if_pos HSK.out]
                simpa [HZ.out] using hx
              case measure => simp [intOf]; omega
            · have HZ2 := Lib.hid z2
              have t2 : ((a.is : Int) == 2) = false := by simp; omega
              clear z2
              go_wp2_with fail
              go_roundw
              case rel =>
                refine ⟨j + 1, by omega, by go_num, ?_, (HW.out.2.1.other (a := ⟨g + 1, 3, none⟩) (by simp) _).alloc _, (HW.out.2.2.setCell (by rw [HGE.out]; exact Nat.le_succ _) _).alloc (by first | exact HW.out.2.2.size | (simp [World.setCell]; exact HW.out.2.2.size)) _⟩
                have hx := (HB.out.set 3 (.int .i64 ((m3 : Int) + 1))).alloc (.cells #[.int .u8 (a.is : Int), .bool true] 61)
                unfold countV
                rw [K0.out, if_neg HZ0.out]
                rw [K1.out, if_neg HZ1.out]
                rw [K2.out, if_neg HZ2.out]
                rw [K3.out, if_pos HSK.out]
                simpa using hx
              case measure => simp [intOf]; omega
      · have hs : a.sick = false := by simpa using hs
        have HSK := Lib.hid hs
        rw [hs] at c2
        clear hs
        by_cases z0 : a.is = 0
        · rw [z0] at c1
          have HZ := Lib.hid z0
          clear z0
          go_wp2_with fail
          go_roundw
          case rel =>
            refine ⟨j + 1, by omega, by go_num, ?_, (HW.out.2.1.other (a := ⟨g + 1, 0, none⟩) (by simp) _).alloc _, (HW.out.2.2.setCell (by rw [HGE.out]; exact Nat.le_succ _) _).alloc (by first | exact HW.out.2.2.size | (simp [World.setCell]; exact HW.out.2.2.size)) _⟩
            have hx := (HB.out.set 0 (.int .i64 ((m0 : Int) + 1))).alloc (.cells #[.int .u8 (a.is : Int), .bool false] 61)
            unfold countV
            rw [K0.out, if_pos HZ.out]
            rw [K1.out, if_neg (by have := HZ.out; omega)]
            rw [K2.out, if_neg (by have := HZ.out; omega)]
            rw [K3.out, if_neg (by rw [HSK.out]; simp)]
            simpa [HZ.out] using hx
          case measure => simp [intOf]; omega
        · have HZ0 := Lib.hid z0
          have t0 : ((a.is : Int) == 0) = false := by simp; omega
          clear z0
          by_cases z1 : a.is = 1
          · rw [z1] at c1
            have HZ := Lib.hid z1
            clear z1 t0 HZ0
            go_wp2_with fail
            go_roundw
            case rel =>
              refine ⟨j + 1, by omega, by go_num, ?_, (HW.out.2.1.other (a := ⟨g + 1, 1, none⟩) (by simp) _).alloc _, (HW.out.2.2.setCell (by rw [HGE.out]; exact Nat.le_succ _) _).alloc (by first | exact HW.out.2.2.size | (simp [World.setCell]; exact HW.out.2.2.size)) _⟩
              have hx := (HB.out.set 1 (.int .i64 ((m1 : Int) + 1))).alloc (.cells #[.int .u8 (a.is : Int), .bool false] 61)
              unfold countV
              rw [K0.out, if_neg (by have := HZ.out; omega)]
              rw [K1.out, if_pos HZ.out]
              rw [K2.out, if_neg (by have := HZ.out; omega)]
              rw [K3.out, if_neg (by rw [HSK.out]; simp)]
              simpa [HZ.out] using hx
            case measure => simp [intOf]; omega
          · have HZ1 := Lib.hid z1
            have t1 : ((a.is : Int) == 1) = false := by simp; omega
            clear z1
            by_cases z2 : a.is = 2
            · rw [z2] at c1
              have HZ := Lib.hid z2
              clear z2 t0 HZ0 t1 HZ1
              go_wp2_with fail
              go_roundw
              case rel =>
                refine ⟨j + 1, by omega, by go_num, ?_, (HW.out.2.1.other (a := ⟨g + 1, 2, none⟩) (by simp) _).alloc _, (HW.out.2.2.setCell (by rw [HGE.out]; exact Nat.le_succ _) _).alloc (by first | exact HW.out.2.2.size | (simp [World.setCell]; exact HW.out.2.2.size)) _⟩
                have hx := (HB.out.set 2 (.int .i64 ((m2 : Int) + 1))).alloc (.cells #[.int .u8 (a.is : Int), .bool false] 61)
                unfold countV
                rw [K0.out, if_neg (by have := HZ.out; omega)]
                rw [K1.out, if_neg (by have := HZ.out; omega)]
                rw [K2.out, if_pos HZ.out]
                rw [K3.out, if_neg (by rw [HSK.out]; simp)]
                simpa [HZ.out] using hx
              case measure => simp [intOf]; omega
            · have HZ2 := Lib.hid z2
              have t2 : ((a.is : Int) == 2) = false := by simp; omega
              clear z2
              go_wp2_with fail
              go_roundw
              case rel =>
                refine ⟨j + 1, by omega, by go_num, ?_, HW.out.2.1.alloc _, HW.out.2.2.alloc (by first | exact HW.out.2.2.size | (simp [World.setCell]; exact HW.out.2.2.size)) _⟩
                have hx := HB.out.alloc (.cells #[.int .u8 (a.is : Int), .bool false] 61)
                unfold countV
                rw [K0.out, if_neg HZ0.out]
                rw [K1.out, if_neg HZ1.out]
                rw [K2.out, if_neg HZ2.out]
                rw [K3.out, if_neg (by rw [HSK.out]; simp)]
                simpa using hx
              case measure => simp [intOf]; omega
    · obtain rfl : j = n := by omega
      have hb := hW.1
      have hb0 := hW.2.1
      have ht : (sp d).take j = sp d := List.take_of_length_le (by rw [HN.out]; exact Nat.le_refl _)
      rw [ht] at hb
      unfold countV at hb
      obtain ⟨m0, e0⟩ : ∃ m, cnt (isB 0) (sp d) = m := ⟨_, rfl⟩
      obtain ⟨m1, e1⟩ : ∃ m, cnt (isB 1) (sp d) = m := ⟨_, rfl⟩
      obtain ⟨m2, e2⟩ : ∃ m, cnt (isB 2) (sp d) = m := ⟨_, rfl⟩
      obtain ⟨m3, e3⟩ : ∃ m, cnt sickB (sp d) = m := ⟨_, rfl⟩
      have ev : countOf sp d = .agg #[.int .i64 (m0 : Nat), .int .i64 (m1 : Nat), .int .i64 (m2 : Nat), .int .i64 (m3 : Nat)] := by simp [countOf, countV, e0, e1, e2, e3]
      have EV := Lib.hid ev
      rw [e0, e1, e2, e3] at hb
      have q0 := hb.cell (j := 0) rfl
      have q1 := hb.cell (j := 1) rfl
      have q2 := hb.cell (j := 2) rfl
      have q3 := hb.cell (j := 3) rfl
      have p0 := hb0.cell (j := 0) rfl
      have p1 := hb0.cell (j := 1) rfl
      have p2 := hb0.cell (j := 2) rfl
      have p3 := hb0.cell (j := 3) rfl
      have f0 := hb0.free 0
      have f1 := hb0.free 1
      have f2 := hb0.free 2
      have f3 := hb0.free 3
      have HB := Lib.hid hW.2.2
      clear hW hb hb0 ht e0 e1 e2 e3 ev
      go_wp2_with fail
      rw [EV.out]
      have hle : w.heap.size ≤ g := Nat.le_of_eq HGE.out
      exact bodyPost_ret (v := .agg #[.int .i64 (m0 : Int), .int .i64 (m1 : Int), .int .i64 (m2 : Int), .int .i64 (m3 : Int)]) (by simp [results, Try.results18, go_sem, p0, p1, p2, p3]) rfl ⟨rfl, (((HB.out.setCell hle _).setCell hle _).setCell hle _).setCell hle _⟩
end Go.Proofs.Ytjfedhaafdfibaa
