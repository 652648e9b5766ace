/- A state that takes in a piece, as the reference reckons it. -/
import Derived.Test.YtjgjohdeeeoeoaaGreatDoorM07
namespace Go.Proofs.YtjgjohdeeeoeoaaGreatDoor
open Go.RowKit
def TkS (ga gk gw : Nat) (L : List (BitVec 32)) (pb : List (BitVec 8)) (W : World) : Prop := Words ga 0 L W ∧ Words gk 0 KC W ∧ Words gw 0 (sched pb) W
theorem TkS.alloc {ga gk gw : Nat} {L : List (BitVec 32)} {pb : List (BitVec 8)} {W : World} {o : Obj} (h : TkS ga gk gw L pb W) (h1 : ga < W.heap.size) (h2 : gk < W.heap.size) (h3 : gw < W.heap.size) : TkS ga gk gw L pb (W.alloc o) :=
  ⟨h.1.alloc h1 o, h.2.1.alloc h2 o, h.2.2.alloc h3 o⟩
structure TkAt (st : St) (pb : List (BitVec 8)) (gk gw gs os : Nat) (w : World) (k : Nat) (v : Value) (wr : World) : Prop where
  h : ∃ ga ca, v = .slice (some ⟨ga, 0, none⟩) 8 ca ∧ w.heap.size ≤ ga ∧ ga < wr.heap.size ∧ TkS ga gk gw (runs st (sched pb) k).list pb wr
  kl : gk < wr.heap.size
  wl : gw < wr.heap.size
  s : Words gs os st.list wr
  b : Below w.heap.size w wr
theorem words_new {w : World} {l : List (BitVec 32)} {xs : Array Value} (h : xs = (l.map V32).toArray) : Words w.heap.size 0 l (w.alloc (.cells xs 24)) := fun j hj => by
  subst h
  have h : Blk (w.alloc (.cells (l.map V32).toArray 24)) w.heap.size (l.map V32) 24 := Blk.new _ _ _
  rw [Nat.zero_add]
  exact h.cell (get_map V32 l j hj 0)
theorem tkAt_next {st : St} {pb : List (BitVec 8)} {gk gw gs os ga : Nat} {w wr : World} {k : Nat} {t : St} (ht : t = runs st (sched pb) k) (h0 : TkS ga gk gw t.list pb wr) (hl : ga < wr.heap.size ∧ gk < wr.heap.size ∧ gw < wr.heap.size) (hs : Words gs os st.list wr) (hb : Below w.heap.size w wr) (hgs : gs < w.heap.size)
    (t' : St) (h' : t' = rnd t (KC.getD k 0) ((sched pb).getD k 0)) (xs : Array Value) (hx : xs = (t'.list.map V32).toArray) : TkAt st pb gk gw gs os w (k + 1) (.slice (some ⟨wr.heap.size, 0, none⟩) 8 8) (wr.alloc (.cells xs 24)) := by
  have hsz := hb.size
  have e : runs st (sched pb) (k + 1) = t' := by rw [h', ht]; rfl
  refine ⟨⟨wr.heap.size, 8, rfl, hsz, by simp, ?_⟩, by simp; omega, by simp; omega, hs.alloc (by omega) _, hb.alloc hsz _⟩
  rw [e]
  exact ⟨words_new hx, h0.2.1.alloc hl.2.1 _, h0.2.2.alloc hl.2.2 _⟩
def sumTo (l m : List (BitVec 32)) (k : Nat) : List (BitVec 32) := (List.range k).map fun i => l.getD i 0 + m.getD i 0
theorem sumTo_length (l m : List (BitVec 32)) (k : Nat) : (sumTo l m k).length = k := by simp [sumTo]
theorem sumTo_succ (l m : List (BitVec 32)) (k : Nat) : sumTo l m (k + 1) = sumTo l m k ++ [l.getD k 0 + m.getD k 0] := by simp [sumTo, List.range_succ]
theorem sumTo_plus (s t : St) : sumTo s.list t.list 8 = (plus s t).list := by
  simp [sumTo, plus, St.list, List.range_succ]
def TkO (ga gs os : Nat) (la ls : List (BitVec 32)) (W : World) : Prop := Words ga 0 la W ∧ Words gs os ls W
theorem TkO.alloc {ga gs os : Nat} {la ls : List (BitVec 32)} {W : World} (h : TkO ga gs os la ls W) (h1 : ga < W.heap.size) (h2 : gs < W.heap.size) (o : Obj) : TkO ga gs os la ls (W.alloc o) := ⟨h.1.alloc h1 o, h.2.alloc h2 o⟩
def OutAt (ga gs os : Nat) (la ls : List (BitVec 32)) (B : Nat) (w : World) (k : Nat) (v : Value) (wr : World) : Prop :=
  TkO ga gs os la ls wr ∧ ga < wr.heap.size ∧ gs < wr.heap.size ∧ wr.ownsRow B 24 1 v (sumTo ls la k).length ((sumTo ls la k).map V32) ∧ B ≤ wr.heap.size ∧ ga < B ∧ gs < B ∧ w.heap.size ≤ B ∧ Below w.heap.size w wr
theorem outAt_drew {ga gs os : Nat} {la ls : List (BitVec 32)} {B : Nat} {w : World} {k : Nat} {v : Value} {wr : World} (h : OutAt ga gs os la ls B w k v wr) : OutAt ga gs os la ls B w k v wr.drew := by
  obtain ⟨h1, h2, h3, h4, h5, h6, h7, h8, h9⟩ := h
  exact ⟨h1, h2, h3, h4, h5, h6, h7, h8, h9.drew⟩
theorem outAt_next {ga gs os : Nat} {la ls : List (BitVec 32)} {B : Nat} {w : World} {k : Nat} {v v' : Value} {wr w1 : World} {o : Obj} {z : BitVec 32} (h : OutAt ga gs os la ls B w k v wr) (hz : ls.getD k 0 + la.getD k 0 = z)
    (ho : w1.ownsRow B 24 1 v' (sumTo ls la k ++ [z]).length ((sumTo ls la k ++ [z]).map V32)) (hg : (wr.alloc o).grownBy w1 v.ownBlock) : OutAt ga gs os la ls B w (k + 1) v' w1 := by
  obtain ⟨h1, h2, h3, h4, h5, h6, h7, h8, h9⟩ := h
  have hv : ∀ j, v.ownBlock = some j → B ≤ j := fun j hj => (h4.lt j hj).1
  have hs1 : wr.heap.size + 1 ≤ w1.heap.size := by have := hg.size; simpa using this
  have ne : ∀ g, g < B → g < wr.heap.size → w1.heap[g]? = wr.heap[g]? := fun g hg1 hg2 => by
    rw [hg.block g (by simp; omega) (fun e => by have := hv g e.symm; omega)]
    exact Below.heap_alloc wr o g hg2
  refine ⟨⟨h1.1.block (ne _ h6 h2), h1.2.block (ne _ h7 h3)⟩, by omega, by omega, ?_, by omega, h6, h7, h8, (h9.alloc (by omega) o).grown hg (by simp; omega) (fun j hj => by have := hv j hj; omega)⟩
  rw [sumTo_succ, hz]; exact ho
theorem one_w32 (l : List (BitVec 32)) : ∀ u ∈ l.map V32, u.oneCell' = true := by
  intro u hu
  obtain ⟨x, _, rfl⟩ := List.mem_map.1 hu
  rfl
theorem own_mono {w : World} {B B' n : Nat} {v : Value} {xs : List Value} (h : w.ownsRow B 24 1 v n xs) (hB : B' ≤ B) : w.ownsRow B' 24 1 v n xs := by
  refine ⟨h.1, ?_⟩
  rcases h.2 with h | ⟨g, cap, cur, e, hb, rest⟩
  · exact .inl h
  · exact .inr ⟨g, cap, cur, e, by omega, rest⟩
set_option maxRecDepth 100000 in
set_option maxHeartbeats 2000000 in
theorem take_any (st : St) (pb : List (BitVec 8)) (hps : pb.length = 64) (gs os cs g o cap : Nat) (w : World) (hgs : gs < w.heap.size) (hs : Words gs os st.list w) (hg : g < w.heap.size) (hc : ∀ j, j < 64 → w.cell? ⟨g, o + j, none⟩ = some (V8 (pb.getD j 0))) :
    Calls Tryz.prog 156 #[.slice (some ⟨gs, os, none⟩) 8 cs, .slice (some ⟨g, o, none⟩) 64 cap] w fun e w' => ∃ v, e = .returned v ∧ RelN w.heap.size w (take st pb).list v w' := by
  obtain ⟨i0, hi, hz0, hz1, hz2⟩ := info_parts info36
  have HI := Lib.hid hi; have HZ0 := Lib.hid hz0; have HZ1 := Lib.hid hz1; have HZ2 := Lib.hid hz2
  have HC := Lib.hid hc
  have HS := Lib.hid hs
  clear hi hz0 hz1 hz2 hc hs
  go_enter Tryz.func156, Tryz.ntmps156
  go_wp2_with fail
  refine (numbers_any pb hps g o cap _ hg HC.out).mono ?_
  rintro e1 w1 ⟨v1, rfl, hr1⟩
  obtain ⟨gw, cw, rfl, hcw, hgw, hgw1⟩ := own_form hr1.1 (by rw [sched_length]; omega)
  have hww := own_words hr1.1
  have hb1 := hr1.2
  rw [sched_length] at hcw ⊢
  have HWW := Lib.hid hww; have HB1 := Lib.hid hb1
  clear hr1 hww hb1 HC
  go_wp2_with fail
  refine (constants_any _).mono ?_
  rintro e2 w2 ⟨v2, rfl, ⟨gk, ck, rfl, hgk, hok⟩, hb2⟩
  have hkw := own_words hok
  have hgk2 : gk < w2.heap.size := (hok.lt gk rfl).2
  rw [show KC.length = 64 from rfl]
  have hsz1 := HB1.out.size
  have hsz2 := hb2.size
  have HB2 : Hid (Below w.heap.size w w2) := Lib.hid (HB1.out.trans (hb2.mono hsz1))
  have HW2 : Hid (Words gw 0 (sched pb) w2) := Lib.hid (HWW.out.below hb2 hgw1)
  have HK2 := Lib.hid hkw
  have HS2 : Hid (Words gs os st.list w2) := Lib.hid (HS.out.below HB2.out hgs)
  have HNW : Hid (∀ j u, (st.list.map V32)[j]? = some u → w2.cell? ((⟨gs, os, none⟩ : Addr).add j) = some u) := Lib.hid (fun j u hj => by
    have h8 : j < st.list.length := by have := (List.getElem?_eq_some_iff.1 hj).1; simpa using this
    rw [Addr.add_mid, HS2.out j h8, ← hj, get_map V32 _ j h8 0])
  have hgw2 : gw < w2.heap.size := by omega
  clear hok hkw hb2 HWW HB1 HS
  go_wp2_with (first
    | (at_builtin; refine wpList_append_own _ rfl _ (.tmp 16) 98 rfl w2.heap.size 24 i0 (.int .u32 0) 1 4 Tryz.underlying98 HI.out HZ0.out HZ1.out HZ2.out rfl (by decide) (.slice none 0 0) 0 [] rfl (World.ownsRow_nil _ _ _ _) ⟨gs, os, none⟩ 8 cs (st.list.map V32) rfl rfl HNW.out (one_w32 _) (by unfold maxLen; decide) (by decide) (Nat.le_refl _) ?_; intro v3 w3 ho hgr _; have HO := Lib.hid ho; have HG := Lib.hid hgr; clear ho hgr)
    | fail)
  have HT0 : Hid (TkAt st pb gk gw gs os w 0 v3 w3) := Lib.hid (by
    have hb3 : Below w2.heap.size w2 w3 := (Below.refl _ _).grown HG.out (Nat.le_refl _) (fun k hk => by cases hk)
    have ho : w3.ownsRow w2.heap.size 24 1 v3 st.list.length (st.list.map V32) := HO.out
    obtain ⟨ga, ca, rfl, _, hga, hga3⟩ := own_form ho (by simp [St.list])
    have hsz3 := hb3.size
    exact ⟨⟨ga, ca, rfl, by omega, hga3, own_words ho, HK2.out.below hb3 hgk2, HW2.out.below hb3 hgw2⟩, by omega, by omega, HS2.out.below hb3 (by omega), HB2.out.trans (hb3.mono (by omega))⟩)
  clear HO HG HNW HS2 HK2 HW2 HB2 hcw hgw1 hgk2 hgw2
  go_wp2
  go_loopw [7, 8] (fun v i wr => ∃ k : Nat, k ≤ 64 ∧ i = .int .i64 k ∧ TkAt st pb gk gw gs os w k v wr) (fun _ i _ => 64 - (intOf i).toNat)
  case atStart => exact ⟨0, by omega, rfl, HT0.out⟩
  case round =>
    clear HT0
    obtain ⟨k, hk, rfl, hT⟩ := hrel
    obtain ⟨⟨ga, ca, rfl, hga, hga1, htk⟩, hk1, hw1, hs1, hb1⟩ := hT
    obtain ⟨wo, rfl⟩ : ∃ W : World, W = wr := ⟨_, rfl⟩
    by_cases hlt : k < 64
    · obtain ⟨t, ht⟩ : ∃ t, runs st (sched pb) k = t := ⟨_, rfl⟩
      rw [ht] at htk
      have HT := Lib.hid ht
      obtain ⟨xa, xb, xc, xd, xe, xf, xg, xh⟩ := t
      have HTK : Hid (TkS ga gk gw [xa, xb, xc, xd, xe, xf, xg, xh] pb wo) := Lib.hid htk
      have HLT : Hid (ga < wo.heap.size ∧ gk < wo.heap.size ∧ gw < wo.heap.size) := Lib.hid ⟨hga1, hk1, hw1⟩
      have HSW := Lib.hid hs1
      have HBW := Lib.hid hb1
      obtain ⟨kk, hkk⟩ : ∃ b, KC.getD k 0 = b := ⟨_, rfl⟩
      obtain ⟨ww, hww⟩ : ∃ b, (sched pb).getD k 0 = b := ⟨_, rfl⟩
      have HKK : Hid (∀ W, TkS ga gk gw [xa, xb, xc, xd, xe, xf, xg, xh] pb W → W.cell? ⟨gk, 0 + k, none⟩ = some (V32 kk)) := Lib.hid (fun W hW => by rw [← hkk]; exact hW.2.1 k hlt)
      have HWW : Hid (∀ W, TkS ga gk gw [xa, xb, xc, xd, xe, xf, xg, xh] pb W → W.cell? ⟨gw, 0 + k, none⟩ = some (V32 ww)) := Lib.hid (fun W hW => by rw [← hww]; exact hW.2.2 k (by rw [sched_length]; omega))
      have HKW : Hid (∃ _ : Unit, KC.getD k 0 = kk ∧ (sched pb).getD k 0 = ww) := Lib.hid ⟨(), hkk, hww⟩
      clear hkk hww htk ht hs1 hb1
      go_wp2
      refine gS (.take 0 (.take 1 (.take 2 (.take 3 (.take 4 (.take 5 (.take 7 (.take 8 (.take 9 (.take 12 (.take 13 (.take 14 (.take 18 (.take 19 (.take 20 (.take 21 (.take 22 (.take 23 (.take 24 (.take 25 (.take 26 (.take 27 (.take 28 (.take 29 (.take 30 (.take 31 (.take 32 (.take 33 (.take 35 (.take 36 (.take 37 (.take 38 (.take 40 (.take 41 (.take 42 (.take 43 (.step 6 (.step 10 (.take 11 (.step 15 (.take 16 (.take 17 (.take 34 (.take 39 (.take 44 (.take 45 (.nil))))))))))))))))))))))))))))))))))))))))))))))) (TkS ga gk gw [xa, xb, xc, xd, xe, xf, xg, xh] pb) (HTK.out) ?_
      refine wpG_take _ (Value.slice (some ⟨ga, 0, none⟩) 8 ca) rfl (by rfl) (fun _ _ => rfl) ?_; try simp only [pS]
      refine wpG_take _ (.pointer (some ⟨ga, 0 + (7), none⟩)) rfl (by rfl) (fun _ _ => ex_idx rfl rfl rfl rfl (by omega) (by omega)) ?_; try simp only [pS]
      refine wpG_take _ (V32 (xh)) rfl (by rfl) (fun W hW => ex_load32 rfl rfl (hW.1 7 (by simp))) ?_; try simp only [pS]
      refine wpG_take _ (Value.slice (some ⟨ga, 0, none⟩) 8 ca) rfl (by rfl) (fun _ _ => rfl) ?_; try simp only [pS]
      refine wpG_take _ (.pointer (some ⟨ga, 0 + (4), none⟩)) rfl (by rfl) (fun _ _ => ex_idx rfl rfl rfl rfl (by omega) (by omega)) ?_; try simp only [pS]
      refine wpG_take _ (V32 (xe)) rfl (by rfl) (fun W hW => ex_load32 rfl rfl (hW.1 4 (by simp))) ?_; try simp only [pS]
      refine wpG_take _ (Value.slice (some ⟨ga, 0, none⟩) 8 ca) rfl (by rfl) (fun _ _ => rfl) ?_; try simp only [pS]
      refine wpG_take _ (.pointer (some ⟨ga, 0 + (4), none⟩)) rfl (by rfl) (fun _ _ => ex_idx rfl rfl rfl rfl (by omega) (by omega)) ?_; try simp only [pS]
      refine wpG_take _ (V32 (xe)) rfl (by rfl) (fun W hW => ex_load32 rfl rfl (hW.1 4 (by simp))) ?_; try simp only [pS]
      refine wpG_take _ (Value.slice (some ⟨ga, 0, none⟩) 8 ca) rfl (by rfl) (fun _ _ => rfl) ?_; try simp only [pS]
      refine wpG_take _ (.pointer (some ⟨ga, 0 + (4), none⟩)) rfl (by rfl) (fun _ _ => ex_idx rfl rfl rfl rfl (by omega) (by omega)) ?_; try simp only [pS]
      refine wpG_take _ (V32 (xe)) rfl (by rfl) (fun W hW => ex_load32 rfl rfl (hW.1 4 (by simp))) ?_; try simp only [pS]
      refine wpG_take _ (Value.slice (some ⟨ga, 0, none⟩) 8 ca) rfl (by rfl) (fun _ _ => rfl) ?_; try simp only [pS]
      refine wpG_take _ (.pointer (some ⟨ga, 0 + (4), none⟩)) rfl (by rfl) (fun _ _ => ex_idx rfl rfl rfl rfl (by omega) (by omega)) ?_; try simp only [pS]
      refine wpG_take _ (V32 (xe)) rfl (by rfl) (fun W hW => ex_load32 rfl rfl (hW.1 4 (by simp))) ?_; try simp only [pS]
      refine wpG_take _ (Value.slice (some ⟨ga, 0, none⟩) 8 ca) rfl (by rfl) (fun _ _ => rfl) ?_; try simp only [pS]
      refine wpG_take _ (.pointer (some ⟨ga, 0 + (5), none⟩)) rfl (by rfl) (fun _ _ => ex_idx rfl rfl rfl rfl (by omega) (by omega)) ?_; try simp only [pS]
      refine wpG_take _ (V32 (xf)) rfl (by rfl) (fun W hW => ex_load32 rfl rfl (hW.1 5 (by simp))) ?_; try simp only [pS]
      refine wpG_take _ (V32 ((xe) &&& (xf))) rfl (by rfl) (fun _ _ => ex_and32 rfl rfl rfl) ?_; try simp only [pS]
      refine wpG_take _ (Value.slice (some ⟨ga, 0, none⟩) 8 ca) rfl (by rfl) (fun _ _ => rfl) ?_; try simp only [pS]
      refine wpG_take _ (.pointer (some ⟨ga, 0 + (4), none⟩)) rfl (by rfl) (fun _ _ => ex_idx rfl rfl rfl rfl (by omega) (by omega)) ?_; try simp only [pS]
      refine wpG_take _ (V32 (xe)) rfl (by rfl) (fun W hW => ex_load32 rfl rfl (hW.1 4 (by simp))) ?_; try simp only [pS]
      refine wpG_take _ (V32 (~~~ (xe))) rfl (by rfl) (fun _ _ => ex_not32 rfl rfl) ?_; try simp only [pS]
      refine wpG_take _ (Value.slice (some ⟨ga, 0, none⟩) 8 ca) rfl (by rfl) (fun _ _ => rfl) ?_; try simp only [pS]
      refine wpG_take _ (.pointer (some ⟨ga, 0 + (6), none⟩)) rfl (by rfl) (fun _ _ => ex_idx rfl rfl rfl rfl (by omega) (by omega)) ?_; try simp only [pS]
      refine wpG_take _ (V32 (xg)) rfl (by rfl) (fun W hW => ex_load32 rfl rfl (hW.1 6 (by simp))) ?_; try simp only [pS]
      refine wpG_take _ (V32 ((~~~ (xe)) &&& (xg))) rfl (by rfl) (fun _ _ => ex_and32 rfl rfl rfl) ?_; try simp only [pS]
      refine wpG_take _ (V32 (((xe) &&& (xf)) ^^^ ((~~~ (xe)) &&& (xg)))) rfl (by rfl) (fun _ _ => ex_xor32 rfl rfl rfl) ?_; try simp only [pS]
      refine wpG_take _ (Value.slice (some ⟨gk, 0, none⟩) 64 ck) rfl (by rfl) (fun _ _ => rfl) ?_; try simp only [pS]
      refine wpG_take _ (.int .i64 ((k : Nat) : Int)) rfl (by rfl) (fun _ _ => rfl) ?_; try simp only [pS]
      refine wpG_take _ (.pointer (some ⟨gk, 0 + (k), none⟩)) rfl (by rfl) (fun _ _ => ex_idx rfl rfl rfl rfl (by omega) (by omega)) ?_; try simp only [pS]
      refine wpG_take _ (V32 (kk)) rfl (by rfl) (fun W hW => ex_load32 rfl rfl (HKK.out W hW)) ?_; try simp only [pS]
      refine wpG_take _ (Value.slice (some ⟨gw, 0, none⟩) 64 cw) rfl (by rfl) (fun _ _ => rfl) ?_; try simp only [pS]
      refine wpG_take _ (.int .i64 ((k : Nat) : Int)) rfl (by rfl) (fun _ _ => rfl) ?_; try simp only [pS]
      refine wpG_take _ (.pointer (some ⟨gw, 0 + (k), none⟩)) rfl (by rfl) (fun _ _ => ex_idx rfl rfl rfl rfl (by omega) (by omega)) ?_; try simp only [pS]
      refine wpG_take _ (V32 (ww)) rfl (by rfl) (fun W hW => ex_load32 rfl rfl (HWW.out W hW)) ?_; try simp only [pS]
      refine wpG_same _ rfl (by rfl) 159 #[V32 (xe), .int .i64 ((6 : Nat) : Int)] (fun _ => by go_simp) HTK.out (V32 (rot (xe) 6)) (refTurned_any _ 6 (by decide) _) ?_; try simp only [pS]
      refine wpG_same _ rfl (by rfl) 159 #[V32 (xe), .int .i64 ((11 : Nat) : Int)] (fun _ => by go_simp) HTK.out (V32 (rot (xe) 11)) (refTurned_any _ 11 (by decide) _) ?_; try simp only [pS]
      refine wpG_take _ (V32 ((rot (xe) 6) ^^^ (rot (xe) 11))) rfl (by rfl) (fun _ _ => ex_xor32 rfl rfl rfl) ?_; try simp only [pS]
      refine wpG_same _ rfl (by rfl) 159 #[V32 (xe), .int .i64 ((25 : Nat) : Int)] (fun _ => by go_simp) HTK.out (V32 (rot (xe) 25)) (refTurned_any _ 25 (by decide) _) ?_; try simp only [pS]
      refine wpG_take _ (V32 (((rot (xe) 6) ^^^ (rot (xe) 11)) ^^^ (rot (xe) 25))) rfl (by rfl) (fun _ _ => ex_xor32 rfl rfl rfl) ?_; try simp only [pS]
      refine wpG_take _ (V32 ((xh) + (((rot (xe) 6) ^^^ (rot (xe) 11)) ^^^ (rot (xe) 25)))) rfl (by rfl) (fun _ _ => ex_add32 rfl rfl rfl) ?_; try simp only [pS]
      refine wpG_take _ (V32 (((xh) + (((rot (xe) 6) ^^^ (rot (xe) 11)) ^^^ (rot (xe) 25))) + (((xe) &&& (xf)) ^^^ ((~~~ (xe)) &&& (xg))))) rfl (by rfl) (fun _ _ => ex_add32 rfl rfl rfl) ?_; try simp only [pS]
      refine wpG_take _ (V32 ((((xh) + (((rot (xe) 6) ^^^ (rot (xe) 11)) ^^^ (rot (xe) 25))) + (((xe) &&& (xf)) ^^^ ((~~~ (xe)) &&& (xg)))) + (kk))) rfl (by rfl) (fun _ _ => ex_add32 rfl rfl rfl) ?_; try simp only [pS]
      refine wpG_take _ (V32 (((((xh) + (((rot (xe) 6) ^^^ (rot (xe) 11)) ^^^ (rot (xe) 25))) + (((xe) &&& (xf)) ^^^ ((~~~ (xe)) &&& (xg)))) + (kk)) + (ww))) rfl (by rfl) (fun _ _ => ex_add32 rfl rfl rfl) ?_; try simp only [pS]
      refine wpG_take _ (V32 (((((xh) + (((rot (xe) 6) ^^^ (rot (xe) 11)) ^^^ (rot (xe) 25))) + (((xe) &&& (xf)) ^^^ ((~~~ (xe)) &&& (xg)))) + (kk)) + (ww))) rfl (by rfl) (fun _ _ => rfl) ?_; try simp only [pS]
      refine wpG_nil ?_
      obtain ⟨T, hT⟩ : ∃ T : BitVec 32, ((((xh) + (((rot (xe) 6) ^^^ (rot (xe) 11)) ^^^ (rot (xe) 25))) + (((xe) &&& (xf)) ^^^ ((~~~ (xe)) &&& (xg)))) + (kk)) + (ww) = T := ⟨_, rfl⟩
      rw [hT]
      have HTT := Lib.hid hT
      clear hT
      have HTK := HTK
      go_wp2
      refine gS (.take 0 (.take 1 (.take 2 (.take 4 (.take 5 (.take 6 (.take 9 (.take 10 (.take 11 (.take 14 (.take 15 (.take 16 (.take 17 (.take 18 (.take 19 (.take 20 (.take 21 (.take 22 (.take 23 (.take 24 (.take 25 (.take 26 (.take 27 (.take 28 (.take 29 (.take 30 (.take 31 (.take 32 (.take 33 (.take 34 (.take 35 (.take 36 (.step 3 (.step 7 (.take 8 (.step 12 (.take 13 (.take 37 (.take 38 (.nil)))))))))))))))))))))))))))))))))))))))) (TkS ga gk gw [xa, xb, xc, xd, xe, xf, xg, xh] pb) (HTK.out) ?_
      refine wpG_take _ (Value.slice (some ⟨ga, 0, none⟩) 8 ca) rfl (by rfl) (fun _ _ => rfl) ?_; try simp only [pS]
      refine wpG_take _ (.pointer (some ⟨ga, 0 + (0), none⟩)) rfl (by rfl) (fun _ _ => ex_idx rfl rfl rfl rfl (by omega) (by omega)) ?_; try simp only [pS]
      refine wpG_take _ (V32 (xa)) rfl (by rfl) (fun W hW => ex_load32 rfl rfl (hW.1 0 (by simp))) ?_; try simp only [pS]
      refine wpG_take _ (Value.slice (some ⟨ga, 0, none⟩) 8 ca) rfl (by rfl) (fun _ _ => rfl) ?_; try simp only [pS]
      refine wpG_take _ (.pointer (some ⟨ga, 0 + (0), none⟩)) rfl (by rfl) (fun _ _ => ex_idx rfl rfl rfl rfl (by omega) (by omega)) ?_; try simp only [pS]
      refine wpG_take _ (V32 (xa)) rfl (by rfl) (fun W hW => ex_load32 rfl rfl (hW.1 0 (by simp))) ?_; try simp only [pS]
      refine wpG_take _ (Value.slice (some ⟨ga, 0, none⟩) 8 ca) rfl (by rfl) (fun _ _ => rfl) ?_; try simp only [pS]
      refine wpG_take _ (.pointer (some ⟨ga, 0 + (0), none⟩)) rfl (by rfl) (fun _ _ => ex_idx rfl rfl rfl rfl (by omega) (by omega)) ?_; try simp only [pS]
      refine wpG_take _ (V32 (xa)) rfl (by rfl) (fun W hW => ex_load32 rfl rfl (hW.1 0 (by simp))) ?_; try simp only [pS]
      refine wpG_take _ (Value.slice (some ⟨ga, 0, none⟩) 8 ca) rfl (by rfl) (fun _ _ => rfl) ?_; try simp only [pS]
      refine wpG_take _ (.pointer (some ⟨ga, 0 + (0), none⟩)) rfl (by rfl) (fun _ _ => ex_idx rfl rfl rfl rfl (by omega) (by omega)) ?_; try simp only [pS]
      refine wpG_take _ (V32 (xa)) rfl (by rfl) (fun W hW => ex_load32 rfl rfl (hW.1 0 (by simp))) ?_; try simp only [pS]
      refine wpG_take _ (Value.slice (some ⟨ga, 0, none⟩) 8 ca) rfl (by rfl) (fun _ _ => rfl) ?_; try simp only [pS]
      refine wpG_take _ (.pointer (some ⟨ga, 0 + (1), none⟩)) rfl (by rfl) (fun _ _ => ex_idx rfl rfl rfl rfl (by omega) (by omega)) ?_; try simp only [pS]
      refine wpG_take _ (V32 (xb)) rfl (by rfl) (fun W hW => ex_load32 rfl rfl (hW.1 1 (by simp))) ?_; try simp only [pS]
      refine wpG_take _ (V32 ((xa) &&& (xb))) rfl (by rfl) (fun _ _ => ex_and32 rfl rfl rfl) ?_; try simp only [pS]
      refine wpG_take _ (Value.slice (some ⟨ga, 0, none⟩) 8 ca) rfl (by rfl) (fun _ _ => rfl) ?_; try simp only [pS]
      refine wpG_take _ (.pointer (some ⟨ga, 0 + (0), none⟩)) rfl (by rfl) (fun _ _ => ex_idx rfl rfl rfl rfl (by omega) (by omega)) ?_; try simp only [pS]
      refine wpG_take _ (V32 (xa)) rfl (by rfl) (fun W hW => ex_load32 rfl rfl (hW.1 0 (by simp))) ?_; try simp only [pS]
      refine wpG_take _ (Value.slice (some ⟨ga, 0, none⟩) 8 ca) rfl (by rfl) (fun _ _ => rfl) ?_; try simp only [pS]
      refine wpG_take _ (.pointer (some ⟨ga, 0 + (2), none⟩)) rfl (by rfl) (fun _ _ => ex_idx rfl rfl rfl rfl (by omega) (by omega)) ?_; try simp only [pS]
      refine wpG_take _ (V32 (xc)) rfl (by rfl) (fun W hW => ex_load32 rfl rfl (hW.1 2 (by simp))) ?_; try simp only [pS]
      refine wpG_take _ (V32 ((xa) &&& (xc))) rfl (by rfl) (fun _ _ => ex_and32 rfl rfl rfl) ?_; try simp only [pS]
      refine wpG_take _ (V32 (((xa) &&& (xb)) ^^^ ((xa) &&& (xc)))) rfl (by rfl) (fun _ _ => ex_xor32 rfl rfl rfl) ?_; try simp only [pS]
      refine wpG_take _ (Value.slice (some ⟨ga, 0, none⟩) 8 ca) rfl (by rfl) (fun _ _ => rfl) ?_; try simp only [pS]
      refine wpG_take _ (.pointer (some ⟨ga, 0 + (1), none⟩)) rfl (by rfl) (fun _ _ => ex_idx rfl rfl rfl rfl (by omega) (by omega)) ?_; try simp only [pS]
      refine wpG_take _ (V32 (xb)) rfl (by rfl) (fun W hW => ex_load32 rfl rfl (hW.1 1 (by simp))) ?_; try simp only [pS]
      refine wpG_take _ (Value.slice (some ⟨ga, 0, none⟩) 8 ca) rfl (by rfl) (fun _ _ => rfl) ?_; try simp only [pS]
      refine wpG_take _ (.pointer (some ⟨ga, 0 + (2), none⟩)) rfl (by rfl) (fun _ _ => ex_idx rfl rfl rfl rfl (by omega) (by omega)) ?_; try simp only [pS]
      refine wpG_take _ (V32 (xc)) rfl (by rfl) (fun W hW => ex_load32 rfl rfl (hW.1 2 (by simp))) ?_; try simp only [pS]
      refine wpG_take _ (V32 ((xb) &&& (xc))) rfl (by rfl) (fun _ _ => ex_and32 rfl rfl rfl) ?_; try simp only [pS]
      refine wpG_take _ (V32 ((((xa) &&& (xb)) ^^^ ((xa) &&& (xc))) ^^^ ((xb) &&& (xc)))) rfl (by rfl) (fun _ _ => ex_xor32 rfl rfl rfl) ?_; try simp only [pS]
      refine wpG_same _ rfl (by rfl) 159 #[V32 (xa), .int .i64 ((2 : Nat) : Int)] (fun _ => by go_simp) HTK.out (V32 (rot (xa) 2)) (refTurned_any _ 2 (by decide) _) ?_; try simp only [pS]
      refine wpG_same _ rfl (by rfl) 159 #[V32 (xa), .int .i64 ((13 : Nat) : Int)] (fun _ => by go_simp) HTK.out (V32 (rot (xa) 13)) (refTurned_any _ 13 (by decide) _) ?_; try simp only [pS]
      refine wpG_take _ (V32 ((rot (xa) 2) ^^^ (rot (xa) 13))) rfl (by rfl) (fun _ _ => ex_xor32 rfl rfl rfl) ?_; try simp only [pS]
      refine wpG_same _ rfl (by rfl) 159 #[V32 (xa), .int .i64 ((22 : Nat) : Int)] (fun _ => by go_simp) HTK.out (V32 (rot (xa) 22)) (refTurned_any _ 22 (by decide) _) ?_; try simp only [pS]
      refine wpG_take _ (V32 (((rot (xa) 2) ^^^ (rot (xa) 13)) ^^^ (rot (xa) 22))) rfl (by rfl) (fun _ _ => ex_xor32 rfl rfl rfl) ?_; try simp only [pS]
      refine wpG_take _ (V32 ((((rot (xa) 2) ^^^ (rot (xa) 13)) ^^^ (rot (xa) 22)) + ((((xa) &&& (xb)) ^^^ ((xa) &&& (xc))) ^^^ ((xb) &&& (xc))))) rfl (by rfl) (fun _ _ => ex_add32 rfl rfl rfl) ?_; try simp only [pS]
      refine wpG_take _ (V32 ((((rot (xa) 2) ^^^ (rot (xa) 13)) ^^^ (rot (xa) 22)) + ((((xa) &&& (xb)) ^^^ ((xa) &&& (xc))) ^^^ ((xb) &&& (xc))))) rfl (by rfl) (fun _ _ => rfl) ?_; try simp only [pS]
      refine wpG_nil ?_
      obtain ⟨U, hU⟩ : ∃ U : BitVec 32, (((rot (xa) 2) ^^^ (rot (xa) 13)) ^^^ (rot (xa) 22)) + ((((xa) &&& (xb)) ^^^ ((xa) &&& (xc))) ^^^ ((xb) &&& (xc))) = U := ⟨_, rfl⟩
      rw [hU]
      have HUU := Lib.hid hU
      clear hU
      go_wp2
      refine gS (.take 0 (.take 1 (.take 2 (.take 3 (.take 4 (.take 5 (.take 6 (.take 7 (.take 8 (.take 9 (.take 10 (.take 11 (.take 12 (.take 13 (.take 14 (.take 15 (.take 16 (.take 17 (.take 18 (.take 19 (.take 20 (.take 21 (.take 22 (.take 23 (.take 24 (.take 25 (.step 26 (.take 27 (.nil))))))))))))))))))))))))))))) (TkS ga gk gw [xa, xb, xc, xd, xe, xf, xg, xh] pb) (HTK.out) ?_
      refine wpG_take _ (V32 (T)) rfl (by rfl) (fun _ _ => rfl) ?_; try simp only [pS]
      refine wpG_take _ (V32 (U)) rfl (by rfl) (fun _ _ => rfl) ?_; try simp only [pS]
      refine wpG_take _ (V32 ((T) + (U))) rfl (by rfl) (fun _ _ => ex_add32 rfl rfl rfl) ?_; try simp only [pS]
      refine wpG_take _ (Value.slice (some ⟨ga, 0, none⟩) 8 ca) rfl (by rfl) (fun _ _ => rfl) ?_; try simp only [pS]
      refine wpG_take _ (.pointer (some ⟨ga, 0 + (0), none⟩)) rfl (by rfl) (fun _ _ => ex_idx rfl rfl rfl rfl (by omega) (by omega)) ?_; try simp only [pS]
      refine wpG_take _ (V32 (xa)) rfl (by rfl) (fun W hW => ex_load32 rfl rfl (hW.1 0 (by simp))) ?_; try simp only [pS]
      refine wpG_take _ (Value.slice (some ⟨ga, 0, none⟩) 8 ca) rfl (by rfl) (fun _ _ => rfl) ?_; try simp only [pS]
      refine wpG_take _ (.pointer (some ⟨ga, 0 + (1), none⟩)) rfl (by rfl) (fun _ _ => ex_idx rfl rfl rfl rfl (by omega) (by omega)) ?_; try simp only [pS]
      refine wpG_take _ (V32 (xb)) rfl (by rfl) (fun W hW => ex_load32 rfl rfl (hW.1 1 (by simp))) ?_; try simp only [pS]
      refine wpG_take _ (Value.slice (some ⟨ga, 0, none⟩) 8 ca) rfl (by rfl) (fun _ _ => rfl) ?_; try simp only [pS]
      refine wpG_take _ (.pointer (some ⟨ga, 0 + (2), none⟩)) rfl (by rfl) (fun _ _ => ex_idx rfl rfl rfl rfl (by omega) (by omega)) ?_; try simp only [pS]
      refine wpG_take _ (V32 (xc)) rfl (by rfl) (fun W hW => ex_load32 rfl rfl (hW.1 2 (by simp))) ?_; try simp only [pS]
      refine wpG_take _ (Value.slice (some ⟨ga, 0, none⟩) 8 ca) rfl (by rfl) (fun _ _ => rfl) ?_; try simp only [pS]
      refine wpG_take _ (.pointer (some ⟨ga, 0 + (3), none⟩)) rfl (by rfl) (fun _ _ => ex_idx rfl rfl rfl rfl (by omega) (by omega)) ?_; try simp only [pS]
      refine wpG_take _ (V32 (xd)) rfl (by rfl) (fun W hW => ex_load32 rfl rfl (hW.1 3 (by simp))) ?_; try simp only [pS]
      refine wpG_take _ (V32 (T)) rfl (by rfl) (fun _ _ => rfl) ?_; try simp only [pS]
      refine wpG_take _ (V32 ((xd) + (T))) rfl (by rfl) (fun _ _ => ex_add32 rfl rfl rfl) ?_; try simp only [pS]
      refine wpG_take _ (Value.slice (some ⟨ga, 0, none⟩) 8 ca) rfl (by rfl) (fun _ _ => rfl) ?_; try simp only [pS]
      refine wpG_take _ (.pointer (some ⟨ga, 0 + (4), none⟩)) rfl (by rfl) (fun _ _ => ex_idx rfl rfl rfl rfl (by omega) (by omega)) ?_; try simp only [pS]
      refine wpG_take _ (V32 (xe)) rfl (by rfl) (fun W hW => ex_load32 rfl rfl (hW.1 4 (by simp))) ?_; try simp only [pS]
      refine wpG_take _ (Value.slice (some ⟨ga, 0, none⟩) 8 ca) rfl (by rfl) (fun _ _ => rfl) ?_; try simp only [pS]
      refine wpG_take _ (.pointer (some ⟨ga, 0 + (5), none⟩)) rfl (by rfl) (fun _ _ => ex_idx rfl rfl rfl rfl (by omega) (by omega)) ?_; try simp only [pS]
      refine wpG_take _ (V32 (xf)) rfl (by rfl) (fun W hW => ex_load32 rfl rfl (hW.1 5 (by simp))) ?_; try simp only [pS]
      refine wpG_take _ (Value.slice (some ⟨ga, 0, none⟩) 8 ca) rfl (by rfl) (fun _ _ => rfl) ?_; try simp only [pS]
      refine wpG_take _ (.pointer (some ⟨ga, 0 + (6), none⟩)) rfl (by rfl) (fun _ _ => ex_idx rfl rfl rfl rfl (by omega) (by omega)) ?_; try simp only [pS]
      refine wpG_take _ (V32 (xg)) rfl (by rfl) (fun W hW => ex_load32 rfl rfl (hW.1 6 (by simp))) ?_; try simp only [pS]
      refine wpG_mk _ rfl (by rfl) _ _ (ex_slice8 rfl rfl rfl rfl rfl rfl rfl rfl rfl) (TkS ga gk gw [xa, xb, xc, xd, xe, xf, xg, xh] pb) (HTK.out.alloc (o := _) HLT.out.1 HLT.out.2.1 HLT.out.2.2) (fun _ h => h) ?_; try simp only [pS]
      refine wpG_take _ (.slice (some ⟨wo.drew.drew.drew.heap.size, 0, none⟩) 8 8) rfl (by rfl) (fun _ _ => rfl) ?_; try simp only [pS]
      refine wpG_nil ?_
      have HN : Hid (TkAt st pb gk gw gs os w (k + 1) (.slice (some ⟨wo.drew.drew.drew.heap.size, 0, none⟩) 8 8) (wo.drew.drew.drew.alloc (.cells #[V32 (T + U), V32 xa, V32 xb, V32 xc, V32 (xd + T), V32 xe, V32 xf, V32 xg] 24))) := Lib.hid
        (tkAt_next (wr := wo.drew.drew.drew) (t := ⟨xa, xb, xc, xd, xe, xf, xg, xh⟩) (ga := ga) HT.out.symm HTK.out HLT.out HSW.out HBW.out.drew.drew.drew hgs ⟨T + U, xa, xb, xc, xd + T, xe, xf, xg⟩ (by
          obtain ⟨_, e1, e2⟩ := HKW.out
          rw [e1, e2, ← HTT.out, ← HUU.out]; rfl) _ rfl)
      clear HTK HLT HSW HBW HKK HWW HTT HUU HKW hga1 hk1 hw1
      generalize wo.drew.drew.drew.alloc (.cells #[V32 (T + U), V32 xa, V32 xb, V32 xc, V32 (xd + T), V32 xe, V32 xf, V32 xg] 24) = wn at HN ⊢
      go_wp2
      go_roundw
      case rel => exact ⟨k + 1, by omega, by go_num, HN.out⟩
      case measure => simp [intOf]; omega
    · obtain rfl : k = 64 := by omega
      clear hlt hk
      have HO0 : Hid (OutAt ga gs os (runs st (sched pb) 64).list st.list wo.heap.size w 0 (.slice none 0 0) wo) := Lib.hid
        ⟨⟨htk.1, hs1⟩, hga1, by have := hb1.size; omega, World.ownsRow_nil _ _ _ _, Nat.le_refl _, hga1, by have := hb1.size; omega, hb1.size, hb1⟩
      clear htk hs1 hb1 hk1 hw1
      obtain ⟨la, hla⟩ : ∃ la, (runs st (sched pb) 64).list = la := ⟨_, rfl⟩
      obtain ⟨ls, hls⟩ : ∃ ls, st.list = ls := ⟨_, rfl⟩
      have hl8 : la.length = 8 := by rw [← hla]; rfl
      have hs8 : ls.length = 8 := by rw [← hls]; rfl
      have HSUM : Hid (sumTo ls la 8 = (take st pb).list) := Lib.hid (by rw [← hla, ← hls, sumTo_plus]; rfl)
      rw [hla, hls] at HO0
      clear hla hls
      obtain ⟨B, hB⟩ : ∃ B, wo.heap.size = B := ⟨_, rfl⟩
      rw [hB] at HO0
      clear hB hga1
      go_wp2
      go_loopw [11, 12] (fun v i wr => ∃ k : Nat, k ≤ 8 ∧ i = .int .i64 k ∧ OutAt ga gs os la ls B w k v wr) (fun _ i _ => 8 - (intOf i).toNat)
      case atStart => exact ⟨0, by omega, rfl, HO0.out⟩
      case round =>
        clear HO0
        obtain ⟨k, hk, rfl, hO⟩ := hrel
        have HO := Lib.hid hO
        clear hO
        by_cases hlt : k < 8
        · obtain ⟨x, hx⟩ : ∃ x, ls.getD k 0 = x := ⟨_, rfl⟩
          obtain ⟨y, hy⟩ : ∃ y, la.getD k 0 = y := ⟨_, rfl⟩
          have HX : Hid (∀ W, TkO ga gs os la ls W → W.cell? ⟨gs, os + k, none⟩ = some (V32 x)) := Lib.hid (fun W hW => by rw [← hx]; exact hW.2 k (by omega))
          have HY : Hid (∀ W, TkO ga gs os la ls W → W.cell? ⟨ga, 0 + k, none⟩ = some (V32 y)) := Lib.hid (fun W hW => by rw [← hy]; exact hW.1 k (by omega))
          have HXY : Hid (ls.getD k 0 + la.getD k 0 = x + y) := Lib.hid (by rw [hx, hy])
          clear hx hy
          go_wp2
          refine gS (.take 0 (.take 1 (.take 2 (.take 3 (.take 4 (.take 5 (.take 6 (.take 7 (.take 8 (.take 9 (.step 10 (.step 11 (.take 12 (.nil)))))))))))))) (TkO ga gs os la ls) (HO.out.1) ?_
          refine wpG_take _ (_) rfl (by rfl) (fun _ _ => rfl) ?_; try simp only [pS]
          refine wpG_take _ (Value.slice (some ⟨gs, os, none⟩) 8 cs) rfl (by rfl) (fun _ _ => rfl) ?_; try simp only [pS]
          refine wpG_take _ (.int .i64 ((k : Nat) : Int)) rfl (by rfl) (fun _ _ => rfl) ?_; try simp only [pS]
          refine wpG_take _ (.pointer (some ⟨gs, os + (k), none⟩)) rfl (by rfl) (fun _ _ => ex_idx rfl rfl rfl rfl (by omega) (by omega)) ?_; try simp only [pS]
          refine wpG_take _ (V32 (x)) rfl (by rfl) (fun W hW => ex_load32 rfl rfl (HX.out W hW)) ?_; try simp only [pS]
          refine wpG_take _ (Value.slice (some ⟨ga, 0, none⟩) 8 ca) rfl (by rfl) (fun _ _ => rfl) ?_; try simp only [pS]
          refine wpG_take _ (.int .i64 ((k : Nat) : Int)) rfl (by rfl) (fun _ _ => rfl) ?_; try simp only [pS]
          refine wpG_take _ (.pointer (some ⟨ga, 0 + (k), none⟩)) rfl (by rfl) (fun _ _ => ex_idx rfl rfl rfl rfl (by omega) (by omega)) ?_; try simp only [pS]
          refine wpG_take _ (V32 (y)) rfl (by rfl) (fun W hW => ex_load32 rfl rfl (HY.out W hW)) ?_; try simp only [pS]
          refine wpG_take _ (V32 ((x) + (y))) rfl (by rfl) (fun _ _ => ex_add32 rfl rfl rfl) ?_; try simp only [pS]
          refine wpG_mk _ rfl (by rfl) _ _ (ex_slice1 rfl rfl) (TkO ga gs os la ls) (HO.out.1.alloc HO.out.2.1 HO.out.2.2.1 _) (fun _ h => h) ?_; try simp only [pS]
          refine wpG_app32 _ rfl (by rfl) (.tmp 136) (.tmp 146) rfl _ rfl B (sumTo ls la k) (HO.out.2.2.2.1.alloc _) (x + y) ⟨wr.drew.heap.size, 0, none⟩ 1 rfl (one_at _ _ _ 0 _ rfl) (by rw [sumTo_length]; omega) (by have h1 : B ≤ wr.heap.size := HO.out.2.2.2.2.1; simp; omega) ?_
          intro v' w1 ho hgr _
          have HN := Lib.hid (outAt_next (wr := wr.drew) (outAt_drew HO.out) HXY.out ho hgr)
          clear ho hgr
          refine ⟨HN.out.1, ?_⟩; try simp only [pS]
          refine wpG_take _ (v') rfl (by rfl) (fun _ _ => rfl) ?_; try simp only [pS]
          refine wpG_nil ?_
          go_wp2
          go_roundw
          case rel => exact ⟨k + 1, by omega, by go_num, HN.out⟩
          case measure => simp [intOf]; omega
        · obtain rfl : k = 8 := by omega
          go_wp2
          go_ret
          obtain ⟨h1, h2, h3, h4, h5, h6, h7, h8, h9⟩ := HO.out
          rw [HSUM.out] at h4
          exact ⟨_, rfl, own_mono h4 h8, h9⟩
end Go.Proofs.YtjgjohdeeeoeoaaGreatDoor
