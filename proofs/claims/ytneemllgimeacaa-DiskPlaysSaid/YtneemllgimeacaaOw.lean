/- Bytes copied; what a pick brings; the disk armed, or dead; its cache taken out. -/
import Derived.Test.YtneemllgimeacaaDs
namespace Go.Proofs.Ytneemllgimeacaa
open Go.RowKit

theorem src_pos {w : World} {sp : Option Addr} {bs : Bs} (h : SrcA w sp bs) {g : Nat} : 0 < (bs.map V8).length → (some (⟨g, 0, none⟩ : Addr)) = some ⟨g, 0, none⟩ ∧ ∃ ad, sp = some ad ∧ ∀ j v, (bs.map V8)[j]? = some v → w.cell? (ad.add j) = some v := fun h0 => by
  obtain ⟨g', o, rfl, _, hc⟩ := h (by simpa using h0)
  exact ⟨rfl, _, rfl, src_cell hc⟩
theorem splice_all (n : Nat) (l : Bs) (h : l.length = n) : splice (List.replicate n (Value.int .u8 0)) 0 (l.map V8) = l.map V8 := by
  subst h
  simp [splice]
set_option maxRecDepth 100000 in
theorem own_any (l : Bs) (sp : Option Addr) (cap : Nat) (w : World) (hl : l.length ≤ 1000000) (hS : SrcA w sp l) :
    Calls Try.prog 62 #[.slice sp l.length cap] w fun e w' => e = .returned (.slice (some ⟨w.heap.size, 0, none⟩) l.length l.length) ∧ Blk w' w.heap.size (l.map V8) 5 ∧ Below w.heap.size w w' := by
  obtain ⟨i0, hi, hz0, hz1, hz2⟩ := info_parts infoB
  have HS := Lib.hid hS
  obtain ⟨L, hL⟩ : ∃ L, l.length = L := ⟨_, rfl⟩
  rw [hL] at hl ⊢
  have HL := Lib.hid hL
  clear hS hL
  go_enter Try.func62, Try.ntmps62
  go_wp2_with (first
    | (at_make; refine wpList_makeLC rfl _ _ 42 rfl 5 i0 (.int .u8 0) Try.underlying42 hi hz0 rfl hz1 .i64 .i64 _ _ L L rfl rfl rfl rfl (Nat.le_refl _) (by rw [hz2]; omega) (by unfold maxLen; omega) ?_; intro w1 hb1 hb2; have HB1 := Lib.hid hb1; have HB2 := Lib.hid hb2; clear hb1 hb2)
    | (refine wpList_copy_splice rfl (.tmp 7) (.tmp 8) 42 42 rfl 5 Try.underlying42 sizeB (some ⟨w.heap.size, 0, none⟩) sp L L L cap rfl rfl w.heap.size 0 _ 5 HB1.out (l.map V8) (by rw [List.length_map, HL.out]; simp) (src_pos (HS.out.grown HB2.out)) (by simp [HL.out]) (one_v8 l) w.heap.size w HB2.out (Nat.le_refl _) ?_; intro w2 hs2 hb3; have HP := Lib.hid hs2.out; have HB3 := Lib.hid hb3; clear hs2 hb3)
    | fail)
  go_ret
  refine ⟨rfl, ?_, HB3.out⟩
  have := HP.out
  rw [splice_all _ _ HL.out] at this
  exact this

/-- What a pick brings. -/
def left (p : Int) : Int := if p < 1 then -1 else if p = 1 then 512 else (p - 2) % 512
theorem left_any (p : Int) (hp : p ≤ 9223372036854775807) (w : World) : Calls Try.prog 46 #[.int .i64 p] w fun e w' => e = .returned (.int .i64 (left p)) ∧ w = w' := by
  unfold left
  by_cases h1 : p < 1
  · rw [if_pos h1]
    go_enter Try.func46, Try.ntmps46
    go_wp2
    go_ret
    exact ⟨rfl, rfl⟩
  · rw [if_neg h1]
    by_cases h2 : p = 1
    · rw [if_pos h2]
      subst h2
      go_enter Try.func46, Try.ntmps46
      go_wp2
      go_ret
      exact ⟨rfl, rfl⟩
    · rw [if_neg h2]
      have hw := IntWalk.i64_in (p - 2) (by omega)
      have hm : (p - 2).tmod 512 = (p - 2) % 512 := Int.tmod_eq_emod_of_nonneg (by omega)
      have hw2 := IntWalk.i64_in ((p - 2) % 512) (by omega)
      go_enter Try.func46, Try.ntmps46
      go_wp2
      go_ret
      exact ⟨by simp [hm, hw2], rfl⟩
theorem all_any (i : Int) (w : World) : Calls Try.prog 50 #[.int .i64 i] w fun e w' => e = .returned (.int .i64 512) ∧ w = w' := by
  go_enter Try.func50, Try.ntmps50
  go_wp2
  go_ret
  exact ⟨rfl, rfl⟩
/-- The picks zs lie where the slice begins. -/
def SrcI (w : World) (sp : Option Addr) (zs : List Int) : Prop :=
  (∀ z ∈ zs, z ≤ 9223372036854775807) ∧ (0 < zs.length → ∃ g o, sp = some ⟨g, o, none⟩ ∧ g < w.heap.size ∧ ∀ j, j < zs.length → w.cell? ⟨g, o + j, none⟩ = some (.int .i64 (zs.getD j 0)))
/-- How many bytes come of write i. -/
def pickOf (zs : List Int) (i : Nat) : Int := if i < zs.length then left (zs.getD i 0) else -1
theorem pick_any (zs : List Int) (sp : Option Addr) (cap X i : Nat) (hc : zs.length ≤ cap) (hm : cap ≤ maxLen) (hi : i < 1000000) (w : World) (hs : SrcI w sp zs) (hX : w.cell? ⟨X, 0, none⟩ = some (.slice sp zs.length cap)) :
    Calls Try.prog 45 #[.int .i64 (i : Int), .pointer (some ⟨X, 0, none⟩)] w fun e w' => e = .returned (.int .i64 (pickOf zs i)) ∧ w = w' := by
  unfold pickOf
  by_cases h : i < zs.length
  · rw [if_pos h]
    obtain ⟨h1, h2⟩ := hs
    obtain ⟨g, o, rfl, hg, hcl⟩ := h2 (by omega)
    have hcell := hcl i h
    have hle := h1 (zs.getD i 0) (by rw [List.getD_eq_getElem?_getD, List.getElem?_eq_getElem h]; simp)
    obtain ⟨z, hz⟩ : ∃ z, zs.getD i 0 = z := ⟨_, rfl⟩
    rw [hz] at hcell hle ⊢
    clear hz h1 h2 hcl
    obtain ⟨n, hn⟩ : ∃ n, zs.length = n := ⟨_, rfl⟩
    rw [hn] at h hX hc
    clear hn
    go_enter Try.func45, Try.ntmps45
    go_wp2_with (go_at_call 46; refine (left_any z hle _).mono ?_; rintro e w' ⟨rfl, rfl⟩)
    go_ret
    exact ⟨rfl, rfl⟩
  · rw [if_neg h]
    obtain ⟨n, hn⟩ : ∃ n, zs.length = n := ⟨_, rfl⟩
    rw [hn] at h hX hc
    clear hn hs
    go_enter Try.func45, Try.ntmps45
    go_wp2
    go_ret
    exact ⟨rfl, rfl⟩

theorem chgD {S : Nat → Prop} {w : World} {D : Nat} (h : S D) (j : Nat) (v : Value) : Chg S w (w.setCell ⟨D, j, none⟩ v) := (Chg.refl S w).setCell (.inl h) j v
/-- A cell of the disk's own block is put; map and cache stay. -/
theorem DkIn.keep {w w' : World} {D Q M : Nat} {v : Value} {to : Nat} {S : Nat → Prop} {s : Dsk} (h : DkIn w D Q M v to S s) (hc : Chg (fun k => k = D) w w') : MapAt w' M s.mem ∧ CacheAt w' S v s.cache ∧ (∀ k, S k → k < w'.heap.size) := by
  have h5 : ∀ k (t : Nat) cs, k = D → Blk w k cs t → t = 75 := fun k t cs e hb => by subst e; exact hb.same h.blk
  refine ⟨h.map.chg hc (fun e => ?_), h.cache.turned hc (fun k cs e hb => by have := h5 k _ cs e hb; omega) (fun k cs e hb => ?_), fun k hk => Nat.lt_of_lt_of_le (h.lt k hk) hc.size⟩
  · have := h.blk
    rw [← e] at this
    exact h.map.noBlk this
  · have h2 : Blk w k cs.toList 100 := by unfold Blk; simpa using hb
    have := h5 k _ _ e h2
    omega
theorem chg1 {w : World} {D : Nat} (j : Nat) (v : Value) : Chg (fun k => k = D) w (w.setCell ⟨D, j, none⟩ v) := (Chg.refl (fun k => k = D) w).setCell (.inl rfl) j v
theorem lose_any (D Q : Nat) (S : Nat → Prop) (s : Dsk) (w : World) (h : DkAt w D Q S s) : Calls Try.prog 18 #[.pointer (some ⟨D, 0, none⟩)] w fun e w' => e = .returned (.tuple #[]) ∧ DkAt w' D Q S { s with lose := true } ∧ Chg S w w' := by
  obtain ⟨M, v, to, h⟩ := h
  obtain ⟨c0, c1, c2, c3, c4, c5, c6, c7⟩ := h.c
  have f5 := h.blk.free 5
  have H := Lib.hid h
  clear h c0 c1 c2 c3 c4 c6 c7
  go_enter Try.func18, Try.ntmps18
  go_wp2
  go_end0
  have h := H.out
  obtain ⟨k1, k2, k3⟩ := h.keep (chg1 5 (.bool true))
  exact ⟨rfl, ⟨M, v, to, ⟨h.blk.set 5 _, k1, k2, h.sd, h.sm, h.sq, k3, h.tlt, h.teq, h.nlt⟩⟩, chgD h.sd 5 _⟩
theorem die_any (D Q : Nat) (S : Nat → Prop) (s : Dsk) (w : World) (h : DkAt w D Q S s) : Calls Try.prog 20 #[.pointer (some ⟨D, 0, none⟩)] w fun e w' => e = .returned (.tuple #[]) ∧ DkAt w' D Q S { s with dead := true } ∧ Chg S w w' := by
  obtain ⟨M, v, to, h⟩ := h
  obtain ⟨c0, c1, c2, c3, c4, c5, c6, c7⟩ := h.c
  have f4 := h.blk.free 4
  have H := Lib.hid h
  clear h c0 c1 c2 c3 c5 c6 c7
  go_enter Try.func20, Try.ntmps20
  go_wp2
  go_end0
  have h := H.out
  obtain ⟨k1, k2, k3⟩ := h.keep (chg1 4 (.bool true))
  exact ⟨rfl, ⟨M, v, to, ⟨h.blk.set 4 _, k1, k2, h.sd, h.sm, h.sq, k3, h.tlt, h.teq, h.nlt⟩⟩, chgD h.sd 4 _⟩
theorem astray_any (D Q : Nat) (S : Nat → Prop) (s : Dsk) (a : Nat) (ha : a < 65536) (w : World) (h : DkAt w D Q S s) : Calls Try.prog 19 #[.pointer (some ⟨D, 0, none⟩), .int .u16 (a : Int)] w fun e w' => e = .returned (.tuple #[]) ∧ DkAt w' D Q S { s with astray := some a } ∧ Chg S w w' := by
  obtain ⟨M, v, to, h⟩ := h
  obtain ⟨c0, c1, c2, c3, c4, c5, c6, c7⟩ := h.c
  have f6 := h.blk.free 6
  have f7 := h.blk.free 7
  have H := Lib.hid h
  clear h c0 c1 c2 c3 c5 c4
  go_enter Try.func19, Try.ntmps19
  go_wp2
  go_end0
  have h := H.out
  obtain ⟨k1, k2, k3⟩ := h.keep ((chg1 6 (.bool true)).trans' (chg1 7 (.int .u16 (a : Int))))
  exact ⟨rfl, ⟨M, v, a, ⟨(h.blk.set 6 _).set 7 _, k1, k2, h.sd, h.sm, h.sq, k3, ha, fun t e => by cases e; rfl, h.nlt⟩⟩, (chgD h.sd 6 _).trans' (chgD h.sd 7 _)⟩
/-- The cache as it was taken out. -/
def Taken (w : World) (v : Value) (S : Nat → Prop) (L : List (Nat × Nat × Bs)) : Prop :=
  Writes w S L ∧ ((∃ sp, v = .slice sp 0 0 ∧ L = []) ∨ (w.ownsRow 0 100 2 v L.length (crow L) ∧ ∃ g, v.ownBlock = some g ∧ S g))
theorem drain_any (D Q : Nat) (S : Nat → Prop) (s : Dsk) (w : World) (h : DkAt w D Q S s) : Calls Try.prog 61 #[.pointer (some ⟨D, 0, none⟩)] w fun e w' => ∃ v L, e = .returned v ∧ L.map (fun x => (x.1, x.2.2)) = s.cache ∧ Taken w' v S L ∧ DkAt w' D Q S { s with cache := [] } ∧ Chg S w w' := by
  obtain ⟨M, v, to, h⟩ := h
  obtain ⟨c0, c1, c2, c3, c4, c5, c6, c7⟩ := h.c
  have f3 := h.blk.free 3
  obtain ⟨sp, cap, rfl, hle, hm⟩ := h.cache.form
  have H := Lib.hid h
  obtain ⟨N, hN⟩ : ∃ N, s.cache.length = N := ⟨_, rfl⟩
  have HN := Lib.hid hN
  rw [hN] at c3 hle
  clear h c0 c1 c2 c4 c5 c6 c7 hN
  go_enter Try.func61, Try.ntmps61
  go_wp2
  go_ret
  have h := H.out
  rw [HN.out] at h
  obtain ⟨k1, k2, k3⟩ := h.keep (chg1 3 (.slice sp 0 0))
  obtain ⟨L, e1, e2, e3⟩ := k2
  exact ⟨_, L, rfl, e1, ⟨e2, e3⟩, ⟨M, .slice sp 0 0, to, ⟨h.blk.set 3 _, k1, ⟨[], rfl, fun x hx => by simp at hx, .inl ⟨sp, rfl, rfl⟩⟩, h.sd, h.sm, h.sq, k3, h.tlt, h.teq, h.nlt⟩⟩, chgD h.sd 3 _⟩
end Go.Proofs.Ytneemllgimeacaa
