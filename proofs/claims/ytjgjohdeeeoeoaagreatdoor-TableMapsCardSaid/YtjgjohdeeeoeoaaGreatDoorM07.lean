/- The 64 numbers of a piece, as the reference reckons them. -/
import Derived.Test.YtjgjohdeeeoeoaaGreatDoorM06
set_option linter.all false
namespace Go.Proofs.YtjgjohdeeeoeoaaGreatDoor
open Go.RowKit
variable {l la ls : List (BitVec 32)} {pb : List (BitVec 8)} {B ga gk gs gw k os : Nat} {v v' : Value} {W w w1 wr : World}
theorem Pu {o : Obj} {x : BitVec 32} (h : C9 w.heap.size w l v wr) (ho : w1.ownsRow w.heap.size 24 1 v' (l ++ [x]).length ((l ++ [x]).map V32)) (hg : (wr.alloc o).grownBy w1 v.ownBlock) : C9 w.heap.size w (l ++ [x]) v' w1 :=
 ⟨ho, (h.2.alloc h.2.size o).grown hg (by have := h.2.size; simp; omega) (fun j hj => (h.1.lt j hj).1)⟩
set_option maxRecDepth 100000 in
set_option maxHeartbeats 1000000 in
theorem F9 (pb : List (BitVec 8)) (hps : pb.length = 64) (g o cap : Nat) (w : World) (hg : g < w.heap.size) (hc : ∀ j, j < 64 → w.cell? ⟨g, o + j, none⟩ = some (V8 (pb.getD j 0))) :
  Calls Tryz.prog 157 #[.slice (some ⟨g, o, none⟩) 64 cap] w fun e w' => ∃ v, e = .returned v ∧ C9 w.heap.size w (mf pb) v w' := by
 obtain ⟨i0, hi, ad, ae, af⟩ := info_parts Hw;have HI := zH hi; have aj := zH ad; have ak := zH ae; have al := zH af;have HC := zH hc;clear hi ad ae af hc;go_enter Tryz.func157, Tryz.ntmps157
 go_wp2
 go_loopw [3, 4] (fun v i wr => ∃ k : Nat, k ≤ 16 ∧ i = .int .i64 k ∧ C9 w.heap.size w (Wp pb k) v wr) (fun _ i _ => 16 - (intOf i).toNat)
 case atStart => exact ⟨0, by omega, rfl, World.ownsRow_nil _ _ _ _, Below.refl _ _⟩
 case round =>
  obtain ⟨k, hk, rfl, hR⟩ := hrel;have HR := zH hR;clear hR;by_cases hlt : k < 16
  ·go_wp2
   go_loop [5, 6] (fun x i => ∃ j : Nat, j ≤ 4 ∧ i = .int .i64 j ∧ x = V32 (part pb k j)) (fun _ i => 4 - (intOf i).toNat)
   case atStart => exact ⟨0, by omega, rfl, rfl⟩
   case round =>
    obtain ⟨j, hj, rfl, rfl⟩ := hrel;by_cases hlj : j < 4
    ·have cx : wr.cell? ⟨g, o + (4 * k + j), none⟩ = some (V8 (pb.getD (4 * k + j) 0)) := (HR.out.2.cell (p := ⟨g, o + (4 * k + j), none⟩) hg).trans (HC.out (4 * k + j) (by omega))
     obtain ⟨b, hb⟩ : ∃ b, pb.getD (4 * k + j) 0 = b := ⟨_, rfl⟩;rw [hb] at cx;have m1 := a14 (part pb k j);have c1 := a2j b;have a1 := Pm pb k j b hb;clear hb
     go_wp2
     go_round
     case rel => exact ⟨j + 1, by omega, by go_num, rfl⟩
     case measure => simp [intOf]; omega
    ·obtain rfl : j = 4 := by omega
     rw [Pn]
     go_wp2_with (first
      | (at_builtin; refine wpList_append_own _ rfl (.tmp 29) (.tmp 31) 98 rfl w.heap.size 24 i0 (.int .u32 0) 1 4 Tryz.underlying98 HI.out aj.out ak.out al.out rfl (by decide) _ _ _ rfl (HR.out.1.alloc _) ⟨wr.heap.size, 0, none⟩ 1 1 [V32 (Qh pb k)] rfl rfl (qt _ _ _) (tn _) (by rw [B7]; unfold maxLen; omega) (by rw [B7]; omega) (by have := HR.out.2.size; simp; omega) ?_; intro v' w1 ho hgr _; have HN := zH (Pv HR.out ho hgr HR.out.2.size); clear ho hgr)
      | fail)
     go_roundw
     case rel =>
      refine ⟨k + 1, by omega, by go_num, ?_⟩;rw [We]; exact HN.out
     case measure => simp [intOf]; omega
  ·obtain rfl : k = 16 := by omega
   go_wp2
   rw [show ((16 : Nat) : Int) = (16 : Int) from rfl];have aa := HR;clear HR;go_loopw [3, 7] (fun v i wr => ∃ k : Nat, 16 ≤ k ∧ k ≤ 64 ∧ i = .int .i64 k ∧ C9 w.heap.size w (Wx pb (k - 16)) v wr) (fun _ i _ => 64 - (intOf i).toNat)
   case atStart => exact ⟨16, by omega, by omega, rfl, aa.out⟩
   case round =>
    clear aa;obtain ⟨k, a9, hk, rfl, hR⟩ := hrel;by_cases hlt : k < 64
    ·have a5 : (Wx pb (k - 16)).length = k := by rw [B8]; omega
     obtain ⟨g2, a3, rfl, hc, an, ab⟩ := uq hR.1 (by omega);rw [a5] at hR hc ⊢;have HR := zH hR;have HL := zH a5;obtain ⟨a0, a6⟩ : ∃ b, (Wx pb (k - 16)).getD (k - 15) 0 = b := ⟨_, rfl⟩;obtain ⟨a2, h2⟩ : ∃ b, (Wx pb (k - 16)).getD (k - 2) 0 = b := ⟨_, rfl⟩;obtain ⟨a4, a8⟩ : ∃ b, (Wx pb (k - 16)).getD (k - 16) 0 = b := ⟨_, rfl⟩;obtain ⟨a7, h7⟩ : ∃ b, (Wx pb (k - 16)).getD (k - 7) 0 = b := ⟨_, rfl⟩;have ag : Hid (∀ W, Words g2 0 (Wx pb (k - 16)) W → W.cell? ⟨g2, 0 + (k - 15), none⟩ = some (V32 a0)) := zH (fun W hW => by rw [← a6]; exact hW _ (by omega));have H2 : Hid (∀ W, Words g2 0 (Wx pb (k - 16)) W → W.cell? ⟨g2, 0 + (k - 2), none⟩ = some (V32 a2)) := zH (fun W hW => by rw [← h2]; exact hW _ (by omega));have ah : Hid (∀ W, Words g2 0 (Wx pb (k - 16)) W → W.cell? ⟨g2, 0 + (k - 16), none⟩ = some (V32 a4)) := zH (fun W hW => by rw [← a8]; exact hW _ (by omega));have H7 : Hid (∀ W, Words g2 0 (Wx pb (k - 16)) W → W.cell? ⟨g2, 0 + (k - 7), none⟩ = some (V32 a7)) := zH (fun W hW => by rw [← h7]; exact hW _ (by omega))
     have ai : Hid (Tt (Wx pb (k - 16)) k = a4 + s0 a0 + a7 + s1 a2) := by
      show Tt (Wx pb (k - 16)) k = a4 + s0 a0 + a7 + s1 a2;rw [← a6, ← h2, ← a8, ← h7]; rfl
     clear a6 h2 a8 h7 a5 hR
     go_wp2
     refine gS (.take 0 (.take 1 (.take 2 (.take 3 (.take 4 (.take 5 (.take 6 (.take 7 (.take 8 (.take 9 (.take 10 (.take 11 (.nil))))))))))))) (Words g2 0 (Wx pb (k - 16))) (da HR.out.1) ?_;refine gU (Value.slice (some ⟨g2, 0, none⟩) k a3) rfl (fun _ _ => rfl) ?_;refine gU (.int .i64 ((k : Nat) : Int)) rfl (fun _ _ => rfl) ?_;refine gU (.int .i64 ((k - 15 : Nat) : Int)) rfl (fun _ _ => ym (c := 15) rfl rfl rfl (by omega) (by omega)) ?_;refine gU (.pointer (some ⟨g2, 0 + (k - 15), none⟩)) rfl (fun _ _ => c9 rfl rfl rfl rfl (by omega) (by omega)) ?_;refine gU (V32 (a0)) rfl (fun W hW => ba rfl rfl (ag.out W hW)) ?_;refine gU (Value.slice (some ⟨g2, 0, none⟩) k a3) rfl (fun _ _ => rfl) ?_;refine gU (.int .i64 ((k : Nat) : Int)) rfl (fun _ _ => rfl) ?_;refine gU (.int .i64 ((k - 2 : Nat) : Int)) rfl (fun _ _ => ym (c := 2) rfl rfl rfl (by omega) (by omega)) ?_;refine gU (.pointer (some ⟨g2, 0 + (k - 2), none⟩)) rfl (fun _ _ => c9 rfl rfl rfl rfl (by omega) (by omega)) ?_;refine gU (V32 (a2)) rfl (fun W hW => ba rfl rfl (H2.out W hW)) ?_;refine gU (V32 (a0)) rfl (fun _ _ => rfl) ?_;refine gU (V32 (a2)) rfl (fun _ _ => rfl) ?_;refine au ?_
     go_wp2
     have HQ : Hid (C9 w.heap.size w (Wx pb (k - 16)) (.slice (some ⟨g2, 0, none⟩) k a3) wr.drew.drew) := zH ⟨HR.out.1, HR.out.2.drew.drew⟩;have am : g2 < wr.drew.drew.heap.size := ab;clear HR ab;refine gS (.take 0 (.take 1 (.take 2 (.take 3 (.take 4 (.take 5 (.take 6 (.take 8 (.take 11 (.take 15 (.take 16 (.take 17 (.take 18 (.take 19 (.take 21 (.take 23 (.take 26 (.step 7 (.step 9 (.take 10 (.step 12 (.take 13 (.take 14 (.take 20 (.step 22 (.step 24 (.take 25 (.step 27 (.take 28 (.take 29 (.step 30 (.step 31 (.take 32 (.nil)))))))))))))))))))))))))))))))))) (Words g2 0 (Wx pb (k - 16))) (da HQ.out.1) ?_;refine gU (Value.slice (some ⟨g2, 0, none⟩) k a3) rfl (fun _ _ => rfl) ?_;refine gU (Value.slice (some ⟨g2, 0, none⟩) k a3) rfl (fun _ _ => rfl) ?_;refine gU (.int .i64 ((k : Nat) : Int)) rfl (fun _ _ => rfl) ?_;refine gU (.int .i64 ((k - 16 : Nat) : Int)) rfl (fun _ _ => ym (c := 16) rfl rfl rfl (by omega) (by omega)) ?_;refine gU (.pointer (some ⟨g2, 0 + (k - 16), none⟩)) rfl (fun _ _ => c9 rfl rfl rfl rfl (by omega) (by omega)) ?_;refine gU (V32 (a4)) rfl (fun W hW => ba rfl rfl (ah.out W hW)) ?_;refine gU (V32 (a0)) rfl (fun _ _ => rfl) ?_;refine gU (V32 (a0)) rfl (fun _ _ => rfl) ?_;refine gU (V32 (a0)) rfl (fun _ _ => rfl) ?_;refine gU (Value.slice (some ⟨g2, 0, none⟩) k a3) rfl (fun _ _ => rfl) ?_;refine gU (.int .i64 ((k : Nat) : Int)) rfl (fun _ _ => rfl) ?_;refine gU (.int .i64 ((k - 7 : Nat) : Int)) rfl (fun _ _ => ym (c := 7) rfl rfl rfl (by omega) (by omega)) ?_;refine gU (.pointer (some ⟨g2, 0 + (k - 7), none⟩)) rfl (fun _ _ => c9 rfl rfl rfl rfl (by omega) (by omega)) ?_;refine gU (V32 (a7)) rfl (fun W hW => ba rfl rfl (H7.out W hW)) ?_;refine gU (V32 (a2)) rfl (fun _ _ => rfl) ?_;refine gU (V32 (a2)) rfl (fun _ _ => rfl) ?_;refine gU (V32 (a2)) rfl (fun _ _ => rfl) ?_;refine fu _ rfl (by rfl) 159 #[V32 (a0), .int .i64 ((7 : Nat) : Int)] (fun _ => by go_simp) (da HQ.out.1) (V32 (rot (a0) 7)) (cv _ 7 (by decide) _) ?_; try simp only [pS]
     refine fu _ rfl (by rfl) 159 #[V32 (a0), .int .i64 ((18 : Nat) : Int)] (fun _ => by go_simp) (da HQ.out.1) (V32 (rot (a0) 18)) (cv _ 18 (by decide) _) ?_; try simp only [pS]
     refine gU (V32 ((rot (a0) 7) ^^^ (rot (a0) 18))) rfl (fun _ _ => gy rfl rfl rfl) ?_;refine fu _ rfl (by rfl) 160 #[V32 (a0), .int .i64 ((3 : Nat) : Int)] (fun _ => by go_simp) (da HQ.out.1) (V32 (sh (a0) 3)) (uu _ 3 (by decide) _) ?_; try simp only [pS]
     refine gU (V32 (((rot (a0) 7) ^^^ (rot (a0) 18)) ^^^ (sh (a0) 3))) rfl (fun _ _ => gy rfl rfl rfl) ?_;refine gU (V32 ((a4) + (((rot (a0) 7) ^^^ (rot (a0) 18)) ^^^ (sh (a0) 3)))) rfl (fun _ _ => gu rfl rfl rfl) ?_;refine gU (V32 (((a4) + (((rot (a0) 7) ^^^ (rot (a0) 18)) ^^^ (sh (a0) 3))) + (a7))) rfl (fun _ _ => gu rfl rfl rfl) ?_;refine fu _ rfl (by rfl) 159 #[V32 (a2), .int .i64 ((17 : Nat) : Int)] (fun _ => by go_simp) (da HQ.out.1) (V32 (rot (a2) 17)) (cv _ 17 (by decide) _) ?_; try simp only [pS]
     refine fu _ rfl (by rfl) 159 #[V32 (a2), .int .i64 ((19 : Nat) : Int)] (fun _ => by go_simp) (da HQ.out.1) (V32 (rot (a2) 19)) (cv _ 19 (by decide) _) ?_; try simp only [pS]
     refine gU (V32 ((rot (a2) 17) ^^^ (rot (a2) 19))) rfl (fun _ _ => gy rfl rfl rfl) ?_;refine fu _ rfl (by rfl) 160 #[V32 (a2), .int .i64 ((10 : Nat) : Int)] (fun _ => by go_simp) (da HQ.out.1) (V32 (sh (a2) 10)) (uu _ 10 (by decide) _) ?_; try simp only [pS]
     refine gU (V32 (((rot (a2) 17) ^^^ (rot (a2) 19)) ^^^ (sh (a2) 10))) rfl (fun _ _ => gy rfl rfl rfl) ?_;refine gU (V32 ((((a4) + (((rot (a0) 7) ^^^ (rot (a0) 18)) ^^^ (sh (a0) 3))) + (a7)) + (((rot (a2) 17) ^^^ (rot (a2) 19)) ^^^ (sh (a2) 10)))) rfl (fun _ _ => gu rfl rfl rfl) ?_;obtain ⟨X, hX⟩ : ∃ X : BitVec 32, (((a4) + (((rot (a0) 7) ^^^ (rot (a0) 18)) ^^^ (sh (a0) 3))) + (a7)) + (((rot (a2) 17) ^^^ (rot (a2) 19)) ^^^ (sh (a2) 10)) = X := ⟨_, rfl⟩;have HX := zH hX;rw [hX];clear hX;refine bm _ rfl (by rfl) _ _ (Bd rfl rfl) (Words g2 0 (Wx pb (k - 16))) ((da HQ.out.1).alloc am _) (fun _ h => h) ?_; try simp only [pS]
     refine C1 _ rfl (by rfl) (.tmp 47) (.tmp 77) rfl _ rfl w.heap.size (Wx pb (k - 16)) (HQ.out.1.alloc _) X ⟨wr.drew.drew.heap.size, 0, none⟩ 1 rfl (qt _ _ _ 0 _ rfl) (by rw [HL.out]; omega) (by have h1 : w.heap.size ≤ wr.heap.size := HQ.out.2.size; simp; omega) ?_;intro v' w1 ho hgr hkp;refine ⟨hkp _ _ _ rfl, ?_⟩;have HN := zH (Pu HQ.out ho hgr);clear ho hgr hkp; try simp only [pS]
     refine gU (v') rfl (fun _ _ => rfl) ?_;refine au ?_
     go_wp2
     go_roundw
     case rel =>
      refine ⟨k + 1, by omega, by omega, by go_num, ?_⟩;rw [show k + 1 - 16 = k - 16 + 1 by omega, Wx, show 16 + (k - 16) = k by omega, ai.out];rw [← HX.out] at HN;exact HN.out
     case measure => simp [intOf]; omega
    ·obtain rfl : k = 64 := by omega
     have HR := zH hR;clear hR hlt hk a9
     go_wp2
     go_ret;exact ⟨_, rfl, HR.out⟩
def TkS (ga gk gw : Nat) (L : List (BitVec 32)) (pb : List (BitVec 8)) (W : World) : Prop := Words ga 0 L W ∧ Words gk 0 KC W ∧ Words gw 0 (mf pb) W
theorem TkS.alloc {L : List (BitVec 32)} {o : Obj} (h : TkS ga gk gw L pb W) (h1 : ga < W.heap.size) (h2 : gk < W.heap.size) (h3 : gw < W.heap.size) : TkS ga gk gw L pb (W.alloc o) :=
 ⟨h.1.alloc h1 o, h.2.1.alloc h2 o, h.2.2.alloc h3 o⟩
structure TkAt (st : St) (pb : List (BitVec 8)) (gk gw gs os : Nat) (w : World) (k : Nat) (v : Value) (wr : World) : Prop where
 h : ∃ ga ca, v = .slice (some ⟨ga, 0, none⟩) 8 ca ∧ w.heap.size ≤ ga ∧ ga < wr.heap.size ∧ TkS ga gk gw (Fz st (mf pb) k).list pb wr
 kl : gk < wr.heap.size
 wl : gw < wr.heap.size
 s : Words gs os st.list wr
 b : Below w.heap.size w wr
theorem C0 {xs : Array Value} (h : xs = (l.map V32).toArray) : Words w.heap.size 0 l (w.alloc (.cells xs 24)) := fun j hj => by
 subst h;have h : Blk (w.alloc (.cells (l.map V32).toArray 24)) w.heap.size (l.map V32) 24 := Blk.new _ _ _;rw [Nat.zero_add];exact h.cell (sd V32 l j hj 0)
theorem Qa {st : St} {t : St} (ht : t = Fz st (mf pb) k) (h0 : TkS ga gk gw t.list pb wr) (hl : ga < wr.heap.size ∧ gk < wr.heap.size ∧ gw < wr.heap.size) (hs : Words gs os st.list wr) (hb : Below w.heap.size w wr) (hgs : gs < w.heap.size)
  (t' : St) (h' : t' = rnd t (KC.getD k 0) ((mf pb).getD k 0)) (xs : Array Value) (hx : xs = (t'.list.map V32).toArray) : TkAt st pb gk gw gs os w (k + 1) (.slice (some ⟨wr.heap.size, 0, none⟩) 8 8) (wr.alloc (.cells xs 24)) := by
 have a0 := hb.size;have e : Fz st (mf pb) (k + 1) = t' := by rw [h', ht]; rfl
 refine ⟨⟨wr.heap.size, 8, rfl, a0, by simp, ?_⟩, by simp; omega, by simp; omega, hs.alloc (by omega) _, hb.alloc a0 _⟩;rw [e];exact ⟨C0 hx, h0.2.1.alloc hl.2.1 _, h0.2.2.alloc hl.2.2 _⟩
def nx (l m : List (BitVec 32)) (k : Nat) : List (BitVec 32) := (List.range k).map fun i => l.getD i 0 + m.getD i 0
theorem Dr (l m : List (BitVec 32)) (k : Nat) : (nx l m k).length = k := by simp [nx]
theorem J3 (l m : List (BitVec 32)) (k : Nat) : nx l m (k + 1) = nx l m k ++ [l.getD k 0 + m.getD k 0] := by simp [nx, List.range_succ]
theorem J2 (s t : St) : nx s.list t.list 8 = (a1b s t).list := by
 simp [nx, a1b, St.list, List.range_succ]
def TkO (ga gs os : Nat) (la ls : List (BitVec 32)) (W : World) : Prop := Words ga 0 la W ∧ Words gs os ls W
theorem TkO.alloc (h : TkO ga gs os la ls W) (h1 : ga < W.heap.size) (h2 : gs < W.heap.size) (o : Obj) : TkO ga gs os la ls (W.alloc o) := ⟨h.1.alloc h1 o, h.2.alloc h2 o⟩
def B5 (ga gs os : Nat) (la ls : List (BitVec 32)) (B : Nat) (w : World) (k : Nat) (v : Value) (wr : World) : Prop :=
 TkO ga gs os la ls wr ∧ ga < wr.heap.size ∧ gs < wr.heap.size ∧ wr.ownsRow B 24 1 v (nx ls la k).length ((nx ls la k).map V32) ∧ B ≤ wr.heap.size ∧ ga < B ∧ gs < B ∧ w.heap.size ≤ B ∧ Below w.heap.size w wr
theorem Ik (h : B5 ga gs os la ls B w k v wr) : B5 ga gs os la ls B w k v wr.drew := by
 obtain ⟨h1, h2, h3, h4, h5, h6, h7, h8, h9⟩ := h;exact ⟨h1, h2, h3, h4, h5, h6, h7, h8, h9.drew⟩
theorem Il {o : Obj} {z : BitVec 32} (h : B5 ga gs os la ls B w k v wr) (hz : ls.getD k 0 + la.getD k 0 = z)
  (ho : w1.ownsRow B 24 1 v' (nx ls la k ++ [z]).length ((nx ls la k ++ [z]).map V32)) (hg : (wr.alloc o).grownBy w1 v.ownBlock) : B5 ga gs os la ls B w (k + 1) v' w1 := by
 obtain ⟨h1, h2, h3, h4, h5, h6, h7, h8, h9⟩ := h;have hv : ∀ j, v.ownBlock = some j → B ≤ j := fun j hj => (h4.lt j hj).1
 have a0 : wr.heap.size + 1 ≤ w1.heap.size := by have := hg.size; simpa using this
 have ne : ∀ g, g < B → g < wr.heap.size → w1.heap[g]? = wr.heap[g]? := fun g hg1 hg2 => by
  rw [hg.block g (by simp; omega) (fun e => by have := hv g e.symm; omega)];exact Below.heap_alloc wr o g hg2
 refine ⟨⟨h1.1.block (ne _ h6 h2), h1.2.block (ne _ h7 h3)⟩, by omega, by omega, ?_, by omega, h6, h7, h8, (h9.alloc (by omega) o).grown hg (by simp; omega) (fun j hj => by have := hv j hj; omega)⟩;rw [J3, hz]; exact ho
theorem Yk (l : List (BitVec 32)) : ∀ u ∈ l.map V32, u.oneCell' = true := by
 intro u hu;obtain ⟨x, _, rfl⟩ := List.mem_map.1 hu;rfl
theorem U4 {B' n : Nat} {xs : List Value} (h : w.ownsRow B 24 1 v n xs) (hB : B' ≤ B) : w.ownsRow B' 24 1 v n xs := by
 refine ⟨h.1, ?_⟩;rcases h.2 with h | ⟨g, cap, cur, e, hb, rest⟩
 ·exact .inl h
 ·exact .inr ⟨g, cap, cur, e, by omega, rest⟩
set_option maxRecDepth 100000 in
set_option maxHeartbeats 2000000 in
theorem Vi (st : St) (pb : List (BitVec 8)) (hps : pb.length = 64) (gs os cs g o cap : Nat) (w : World) (hgs : gs < w.heap.size) (hs : Words gs os st.list w) (hg : g < w.heap.size) (hc : ∀ j, j < 64 → w.cell? ⟨g, o + j, none⟩ = some (V8 (pb.getD j 0))) :
  Calls Tryz.prog 156 #[.slice (some ⟨gs, os, none⟩) 8 cs, .slice (some ⟨g, o, none⟩) 64 cap] w fun e w' => ∃ v, e = .returned v ∧ C9 w.heap.size w (take st pb).list v w' := by
 obtain ⟨i0, hi, b7, b8, b9⟩ := info_parts Hw;have HI := zH hi; have bc := zH b7; have bd := zH b8; have bf := zH b9;have HC := zH hc;have HS := zH hs;clear hi b7 b8 b9 hc hs;go_enter Tryz.func156, Tryz.ntmps156
 go_wp2_with fail
 refine (F9 pb hps g o cap _ hg HC.out).mono ?_;rintro e1 w1 ⟨v1, rfl, ag⟩;obtain ⟨gw, cw, rfl, b5, bk, a8⟩ := uq ag.1 (by rw [p0]; omega);have a3 := da ag.1;have a2 := ag.2;rw [p0] at b5 ⊢;have a5 := zH a3; have ai := zH a2;clear ag a3 a2 HC
 go_wp2_with fail
 refine (Aw _).mono ?_;rintro e2 w2 ⟨v2, rfl, ⟨gk, ck, rfl, bj, ap⟩, ad⟩;have b6 := da ap;have a7 : gk < w2.heap.size := (ap.lt gk rfl).2;rw [show KC.length = 64 from rfl];have aq := ai.out.size;have bh := ad.size;have aj : Hid (Below w.heap.size w w2) := zH (ai.out.trans (ad.mono aq));have b4 : Hid (Words gw 0 (mf pb) w2) := zH (a5.out.below ad a8);have aw := zH b6;have ak : Hid (Words gs os st.list w2) := zH (HS.out.below aj.out hgs)
 have az : Hid (∀ j u, (st.list.map V32)[j]? = some u → w2.cell? ((⟨gs, os, none⟩ : Addr).add j) = some u) := zH (fun j u hj => by
  have h8 : j < st.list.length := by have := (List.getElem?_eq_some_iff.1 hj).1; simpa using this
  rw [Addr.add_mid, ak.out j h8, ← hj, sd V32 _ j h8 0])
 have a9 : gw < w2.heap.size := by omega
 clear ap b6 ad a5 ai HS
 go_wp2_with (first
  | (at_builtin; refine wpList_append_own _ rfl _ (.tmp 16) 98 rfl w2.heap.size 24 i0 (.int .u32 0) 1 4 Tryz.underlying98 HI.out bc.out bd.out bf.out rfl (by decide) (.slice none 0 0) 0 [] rfl (World.ownsRow_nil _ _ _ _) ⟨gs, os, none⟩ 8 cs (st.list.map V32) rfl rfl az.out (Yk _) (by unfold maxLen; decide) (by decide) (Nat.le_refl _) ?_; intro v3 w3 ho hgr _; have HO := zH ho; have HG := zH hgr; clear ho hgr)
  | fail)
 have b1 : Hid (TkAt st pb gk gw gs os w 0 v3 w3) := zH (by
  have a6 : Below w2.heap.size w2 w3 := (Below.refl _ _).grown HG.out (Nat.le_refl _) (fun k hk => by cases hk);have ho : w3.ownsRow w2.heap.size 24 1 v3 st.list.length (st.list.map V32) := HO.out;obtain ⟨ga, ca, rfl, _, bg, am⟩ := uq ho (by simp [St.list]);have bi := a6.size
  exact ⟨⟨ga, ca, rfl, by omega, am, da ho, aw.out.below a6 a7, b4.out.below a6 a9⟩, by omega, by omega, ak.out.below a6 (by omega), aj.out.trans (a6.mono (by omega))⟩)
 clear HO HG az ak aw b4 aj b5 a8 a7 a9
 go_wp2
 go_loopw [7, 8] (fun v i wr => ∃ k : Nat, k ≤ 64 ∧ i = .int .i64 k ∧ TkAt st pb gk gw gs os w k v wr) (fun _ i _ => 64 - (intOf i).toNat)
 case atStart => exact ⟨0, by omega, rfl, b1.out⟩
 case round =>
  clear b1;obtain ⟨k, hk, rfl, hT⟩ := hrel;obtain ⟨⟨ga, ca, rfl, bg, a1, aa⟩, an, ar, ah, a2⟩ := hT;obtain ⟨wo, rfl⟩ : ∃ W : World, W = wr := ⟨_, rfl⟩;by_cases hlt : k < 64
  ·obtain ⟨t, ht⟩ : ∃ t, Fz st (mf pb) k = t := ⟨_, rfl⟩
   rw [ht] at aa;have HT := zH ht;obtain ⟨xa, xb, xc, xd, xe, xf, xg, xh⟩ := t;have a0 : Hid (TkS ga gk gw [xa, xb, xc, xd, xe, xf, xg, xh] pb wo) := zH aa;have a4 : Hid (ga < wo.heap.size ∧ gk < wo.heap.size ∧ gw < wo.heap.size) := zH ⟨a1, an, ar⟩;have b0 := zH ah;have av := zH a2;obtain ⟨kk, ao⟩ : ∃ b, KC.getD k 0 = b := ⟨_, rfl⟩;obtain ⟨ww, a3⟩ : ∃ b, (mf pb).getD k 0 = b := ⟨_, rfl⟩;have ax : Hid (∀ W, TkS ga gk gw [xa, xb, xc, xd, xe, xf, xg, xh] pb W → W.cell? ⟨gk, 0 + k, none⟩ = some (V32 kk)) := zH (fun W hW => by rw [← ao]; exact hW.2.1 k hlt);have a5 : Hid (∀ W, TkS ga gk gw [xa, xb, xc, xd, xe, xf, xg, xh] pb W → W.cell? ⟨gw, 0 + k, none⟩ = some (V32 ww)) := zH (fun W hW => by rw [← a3]; exact hW.2.2 k (by rw [p0]; omega));have ay : Hid (∃ _ : Unit, KC.getD k 0 = kk ∧ (mf pb).getD k 0 = ww) := zH ⟨(), ao, a3⟩;clear ao a3 aa ht ah a2
   go_wp2
   refine gS (.take 0 (.take 1 (.take 2 (.take 3 (.take 4 (.take 5 (.take 7 (.take 8 (.take 9 (.take 12 (.take 13 (.take 14 (.take 18 (.take 19 (.take 20 (.take 21 (.take 22 (.take 23 (.take 24 (.take 25 (.take 26 (.take 27 (.take 28 (.take 29 (.take 30 (.take 31 (.take 32 (.take 33 (.take 35 (.take 36 (.take 37 (.take 38 (.take 40 (.take 41 (.take 42 (.take 43 (.step 6 (.step 10 (.take 11 (.step 15 (.take 16 (.take 17 (.take 34 (.take 39 (.take 44 (.take 45 (.nil))))))))))))))))))))))))))))))))))))))))))))))) (TkS ga gk gw [xa, xb, xc, xd, xe, xf, xg, xh] pb) (a0.out) ?_;refine gU (Value.slice (some ⟨ga, 0, none⟩) 8 ca) rfl (fun _ _ => rfl) ?_;refine gU (.pointer (some ⟨ga, 0 + (7), none⟩)) rfl (fun _ _ => c9 rfl rfl rfl rfl (by omega) (by omega)) ?_;refine gU (V32 (xh)) rfl (fun W hW => ba rfl rfl (hW.1 7 (by simp))) ?_;refine gU (Value.slice (some ⟨ga, 0, none⟩) 8 ca) rfl (fun _ _ => rfl) ?_;refine gU (.pointer (some ⟨ga, 0 + (4), none⟩)) rfl (fun _ _ => c9 rfl rfl rfl rfl (by omega) (by omega)) ?_;refine gU (V32 (xe)) rfl (fun W hW => ba rfl rfl (hW.1 4 (by simp))) ?_;refine gU (Value.slice (some ⟨ga, 0, none⟩) 8 ca) rfl (fun _ _ => rfl) ?_;refine gU (.pointer (some ⟨ga, 0 + (4), none⟩)) rfl (fun _ _ => c9 rfl rfl rfl rfl (by omega) (by omega)) ?_;refine gU (V32 (xe)) rfl (fun W hW => ba rfl rfl (hW.1 4 (by simp))) ?_;refine gU (Value.slice (some ⟨ga, 0, none⟩) 8 ca) rfl (fun _ _ => rfl) ?_;refine gU (.pointer (some ⟨ga, 0 + (4), none⟩)) rfl (fun _ _ => c9 rfl rfl rfl rfl (by omega) (by omega)) ?_;refine gU (V32 (xe)) rfl (fun W hW => ba rfl rfl (hW.1 4 (by simp))) ?_;refine gU (Value.slice (some ⟨ga, 0, none⟩) 8 ca) rfl (fun _ _ => rfl) ?_;refine gU (.pointer (some ⟨ga, 0 + (4), none⟩)) rfl (fun _ _ => c9 rfl rfl rfl rfl (by omega) (by omega)) ?_;refine gU (V32 (xe)) rfl (fun W hW => ba rfl rfl (hW.1 4 (by simp))) ?_;refine gU (Value.slice (some ⟨ga, 0, none⟩) 8 ca) rfl (fun _ _ => rfl) ?_;refine gU (.pointer (some ⟨ga, 0 + (5), none⟩)) rfl (fun _ _ => c9 rfl rfl rfl rfl (by omega) (by omega)) ?_;refine gU (V32 (xf)) rfl (fun W hW => ba rfl rfl (hW.1 5 (by simp))) ?_;refine gU (V32 ((xe) &&& (xf))) rfl (fun _ _ => qf rfl rfl rfl) ?_;refine gU (Value.slice (some ⟨ga, 0, none⟩) 8 ca) rfl (fun _ _ => rfl) ?_;refine gU (.pointer (some ⟨ga, 0 + (4), none⟩)) rfl (fun _ _ => c9 rfl rfl rfl rfl (by omega) (by omega)) ?_;refine gU (V32 (xe)) rfl (fun W hW => ba rfl rfl (hW.1 4 (by simp))) ?_;refine gU (V32 (~~~ (xe))) rfl (fun _ _ => S9 rfl rfl) ?_;refine gU (Value.slice (some ⟨ga, 0, none⟩) 8 ca) rfl (fun _ _ => rfl) ?_;refine gU (.pointer (some ⟨ga, 0 + (6), none⟩)) rfl (fun _ _ => c9 rfl rfl rfl rfl (by omega) (by omega)) ?_;refine gU (V32 (xg)) rfl (fun W hW => ba rfl rfl (hW.1 6 (by simp))) ?_;refine gU (V32 ((~~~ (xe)) &&& (xg))) rfl (fun _ _ => qf rfl rfl rfl) ?_;refine gU (V32 (((xe) &&& (xf)) ^^^ ((~~~ (xe)) &&& (xg)))) rfl (fun _ _ => gy rfl rfl rfl) ?_;refine gU (Value.slice (some ⟨gk, 0, none⟩) 64 ck) rfl (fun _ _ => rfl) ?_;refine gU (.int .i64 ((k : Nat) : Int)) rfl (fun _ _ => rfl) ?_;refine gU (.pointer (some ⟨gk, 0 + (k), none⟩)) rfl (fun _ _ => c9 rfl rfl rfl rfl (by omega) (by omega)) ?_;refine gU (V32 (kk)) rfl (fun W hW => ba rfl rfl (ax.out W hW)) ?_;refine gU (Value.slice (some ⟨gw, 0, none⟩) 64 cw) rfl (fun _ _ => rfl) ?_;refine gU (.int .i64 ((k : Nat) : Int)) rfl (fun _ _ => rfl) ?_;refine gU (.pointer (some ⟨gw, 0 + (k), none⟩)) rfl (fun _ _ => c9 rfl rfl rfl rfl (by omega) (by omega)) ?_;refine gU (V32 (ww)) rfl (fun W hW => ba rfl rfl (a5.out W hW)) ?_;refine fu _ rfl (by rfl) 159 #[V32 (xe), .int .i64 ((6 : Nat) : Int)] (fun _ => by go_simp) a0.out (V32 (rot (xe) 6)) (cv _ 6 (by decide) _) ?_; try simp only [pS]
   refine fu _ rfl (by rfl) 159 #[V32 (xe), .int .i64 ((11 : Nat) : Int)] (fun _ => by go_simp) a0.out (V32 (rot (xe) 11)) (cv _ 11 (by decide) _) ?_; try simp only [pS]
   refine gU (V32 ((rot (xe) 6) ^^^ (rot (xe) 11))) rfl (fun _ _ => gy rfl rfl rfl) ?_;refine fu _ rfl (by rfl) 159 #[V32 (xe), .int .i64 ((25 : Nat) : Int)] (fun _ => by go_simp) a0.out (V32 (rot (xe) 25)) (cv _ 25 (by decide) _) ?_; try simp only [pS]
   refine gU (V32 (((rot (xe) 6) ^^^ (rot (xe) 11)) ^^^ (rot (xe) 25))) rfl (fun _ _ => gy rfl rfl rfl) ?_;refine gU (V32 ((xh) + (((rot (xe) 6) ^^^ (rot (xe) 11)) ^^^ (rot (xe) 25)))) rfl (fun _ _ => gu rfl rfl rfl) ?_;refine gU (V32 (((xh) + (((rot (xe) 6) ^^^ (rot (xe) 11)) ^^^ (rot (xe) 25))) + (((xe) &&& (xf)) ^^^ ((~~~ (xe)) &&& (xg))))) rfl (fun _ _ => gu rfl rfl rfl) ?_;refine gU (V32 ((((xh) + (((rot (xe) 6) ^^^ (rot (xe) 11)) ^^^ (rot (xe) 25))) + (((xe) &&& (xf)) ^^^ ((~~~ (xe)) &&& (xg)))) + (kk))) rfl (fun _ _ => gu rfl rfl rfl) ?_;refine gU (V32 (((((xh) + (((rot (xe) 6) ^^^ (rot (xe) 11)) ^^^ (rot (xe) 25))) + (((xe) &&& (xf)) ^^^ ((~~~ (xe)) &&& (xg)))) + (kk)) + (ww))) rfl (fun _ _ => gu rfl rfl rfl) ?_;refine gU (V32 (((((xh) + (((rot (xe) 6) ^^^ (rot (xe) 11)) ^^^ (rot (xe) 25))) + (((xe) &&& (xf)) ^^^ ((~~~ (xe)) &&& (xg)))) + (kk)) + (ww))) rfl (fun _ _ => rfl) ?_;refine au ?_;obtain ⟨T, hT⟩ : ∃ T : BitVec 32, ((((xh) + (((rot (xe) 6) ^^^ (rot (xe) 11)) ^^^ (rot (xe) 25))) + (((xe) &&& (xf)) ^^^ ((~~~ (xe)) &&& (xg)))) + (kk)) + (ww) = T := ⟨_, rfl⟩;rw [hT];have b2 := zH hT;clear hT;have a0 := a0
   go_wp2
   refine gS (.take 0 (.take 1 (.take 2 (.take 4 (.take 5 (.take 6 (.take 9 (.take 10 (.take 11 (.take 14 (.take 15 (.take 16 (.take 17 (.take 18 (.take 19 (.take 20 (.take 21 (.take 22 (.take 23 (.take 24 (.take 25 (.take 26 (.take 27 (.take 28 (.take 29 (.take 30 (.take 31 (.take 32 (.take 33 (.take 34 (.take 35 (.take 36 (.step 3 (.step 7 (.take 8 (.step 12 (.take 13 (.take 37 (.take 38 (.nil)))))))))))))))))))))))))))))))))))))))) (TkS ga gk gw [xa, xb, xc, xd, xe, xf, xg, xh] pb) (a0.out) ?_;refine gU (Value.slice (some ⟨ga, 0, none⟩) 8 ca) rfl (fun _ _ => rfl) ?_;refine gU (.pointer (some ⟨ga, 0 + (0), none⟩)) rfl (fun _ _ => c9 rfl rfl rfl rfl (by omega) (by omega)) ?_;refine gU (V32 (xa)) rfl (fun W hW => ba rfl rfl (hW.1 0 (by simp))) ?_;refine gU (Value.slice (some ⟨ga, 0, none⟩) 8 ca) rfl (fun _ _ => rfl) ?_;refine gU (.pointer (some ⟨ga, 0 + (0), none⟩)) rfl (fun _ _ => c9 rfl rfl rfl rfl (by omega) (by omega)) ?_;refine gU (V32 (xa)) rfl (fun W hW => ba rfl rfl (hW.1 0 (by simp))) ?_;refine gU (Value.slice (some ⟨ga, 0, none⟩) 8 ca) rfl (fun _ _ => rfl) ?_;refine gU (.pointer (some ⟨ga, 0 + (0), none⟩)) rfl (fun _ _ => c9 rfl rfl rfl rfl (by omega) (by omega)) ?_;refine gU (V32 (xa)) rfl (fun W hW => ba rfl rfl (hW.1 0 (by simp))) ?_;refine gU (Value.slice (some ⟨ga, 0, none⟩) 8 ca) rfl (fun _ _ => rfl) ?_;refine gU (.pointer (some ⟨ga, 0 + (0), none⟩)) rfl (fun _ _ => c9 rfl rfl rfl rfl (by omega) (by omega)) ?_;refine gU (V32 (xa)) rfl (fun W hW => ba rfl rfl (hW.1 0 (by simp))) ?_;refine gU (Value.slice (some ⟨ga, 0, none⟩) 8 ca) rfl (fun _ _ => rfl) ?_;refine gU (.pointer (some ⟨ga, 0 + (1), none⟩)) rfl (fun _ _ => c9 rfl rfl rfl rfl (by omega) (by omega)) ?_;refine gU (V32 (xb)) rfl (fun W hW => ba rfl rfl (hW.1 1 (by simp))) ?_;refine gU (V32 ((xa) &&& (xb))) rfl (fun _ _ => qf rfl rfl rfl) ?_;refine gU (Value.slice (some ⟨ga, 0, none⟩) 8 ca) rfl (fun _ _ => rfl) ?_;refine gU (.pointer (some ⟨ga, 0 + (0), none⟩)) rfl (fun _ _ => c9 rfl rfl rfl rfl (by omega) (by omega)) ?_;refine gU (V32 (xa)) rfl (fun W hW => ba rfl rfl (hW.1 0 (by simp))) ?_;refine gU (Value.slice (some ⟨ga, 0, none⟩) 8 ca) rfl (fun _ _ => rfl) ?_;refine gU (.pointer (some ⟨ga, 0 + (2), none⟩)) rfl (fun _ _ => c9 rfl rfl rfl rfl (by omega) (by omega)) ?_;refine gU (V32 (xc)) rfl (fun W hW => ba rfl rfl (hW.1 2 (by simp))) ?_;refine gU (V32 ((xa) &&& (xc))) rfl (fun _ _ => qf rfl rfl rfl) ?_;refine gU (V32 (((xa) &&& (xb)) ^^^ ((xa) &&& (xc)))) rfl (fun _ _ => gy rfl rfl rfl) ?_;refine gU (Value.slice (some ⟨ga, 0, none⟩) 8 ca) rfl (fun _ _ => rfl) ?_;refine gU (.pointer (some ⟨ga, 0 + (1), none⟩)) rfl (fun _ _ => c9 rfl rfl rfl rfl (by omega) (by omega)) ?_;refine gU (V32 (xb)) rfl (fun W hW => ba rfl rfl (hW.1 1 (by simp))) ?_;refine gU (Value.slice (some ⟨ga, 0, none⟩) 8 ca) rfl (fun _ _ => rfl) ?_;refine gU (.pointer (some ⟨ga, 0 + (2), none⟩)) rfl (fun _ _ => c9 rfl rfl rfl rfl (by omega) (by omega)) ?_;refine gU (V32 (xc)) rfl (fun W hW => ba rfl rfl (hW.1 2 (by simp))) ?_;refine gU (V32 ((xb) &&& (xc))) rfl (fun _ _ => qf rfl rfl rfl) ?_;refine gU (V32 ((((xa) &&& (xb)) ^^^ ((xa) &&& (xc))) ^^^ ((xb) &&& (xc)))) rfl (fun _ _ => gy rfl rfl rfl) ?_;refine fu _ rfl (by rfl) 159 #[V32 (xa), .int .i64 ((2 : Nat) : Int)] (fun _ => by go_simp) a0.out (V32 (rot (xa) 2)) (cv _ 2 (by decide) _) ?_; try simp only [pS]
   refine fu _ rfl (by rfl) 159 #[V32 (xa), .int .i64 ((13 : Nat) : Int)] (fun _ => by go_simp) a0.out (V32 (rot (xa) 13)) (cv _ 13 (by decide) _) ?_; try simp only [pS]
   refine gU (V32 ((rot (xa) 2) ^^^ (rot (xa) 13))) rfl (fun _ _ => gy rfl rfl rfl) ?_;refine fu _ rfl (by rfl) 159 #[V32 (xa), .int .i64 ((22 : Nat) : Int)] (fun _ => by go_simp) a0.out (V32 (rot (xa) 22)) (cv _ 22 (by decide) _) ?_; try simp only [pS]
   refine gU (V32 (((rot (xa) 2) ^^^ (rot (xa) 13)) ^^^ (rot (xa) 22))) rfl (fun _ _ => gy rfl rfl rfl) ?_;refine gU (V32 ((((rot (xa) 2) ^^^ (rot (xa) 13)) ^^^ (rot (xa) 22)) + ((((xa) &&& (xb)) ^^^ ((xa) &&& (xc))) ^^^ ((xb) &&& (xc))))) rfl (fun _ _ => gu rfl rfl rfl) ?_;refine gU (V32 ((((rot (xa) 2) ^^^ (rot (xa) 13)) ^^^ (rot (xa) 22)) + ((((xa) &&& (xb)) ^^^ ((xa) &&& (xc))) ^^^ ((xb) &&& (xc))))) rfl (fun _ _ => rfl) ?_;refine au ?_;obtain ⟨U, hU⟩ : ∃ U : BitVec 32, (((rot (xa) 2) ^^^ (rot (xa) 13)) ^^^ (rot (xa) 22)) + ((((xa) &&& (xb)) ^^^ ((xa) &&& (xc))) ^^^ ((xb) &&& (xc))) = U := ⟨_, rfl⟩;rw [hU];have b3 := zH hU;clear hU
   go_wp2
   refine gS (.take 0 (.take 1 (.take 2 (.take 3 (.take 4 (.take 5 (.take 6 (.take 7 (.take 8 (.take 9 (.take 10 (.take 11 (.take 12 (.take 13 (.take 14 (.take 15 (.take 16 (.take 17 (.take 18 (.take 19 (.take 20 (.take 21 (.take 22 (.take 23 (.take 24 (.take 25 (.step 26 (.take 27 (.nil))))))))))))))))))))))))))))) (TkS ga gk gw [xa, xb, xc, xd, xe, xf, xg, xh] pb) (a0.out) ?_;refine gU (V32 (T)) rfl (fun _ _ => rfl) ?_;refine gU (V32 (U)) rfl (fun _ _ => rfl) ?_;refine gU (V32 ((T) + (U))) rfl (fun _ _ => gu rfl rfl rfl) ?_;refine gU (Value.slice (some ⟨ga, 0, none⟩) 8 ca) rfl (fun _ _ => rfl) ?_;refine gU (.pointer (some ⟨ga, 0 + (0), none⟩)) rfl (fun _ _ => c9 rfl rfl rfl rfl (by omega) (by omega)) ?_;refine gU (V32 (xa)) rfl (fun W hW => ba rfl rfl (hW.1 0 (by simp))) ?_;refine gU (Value.slice (some ⟨ga, 0, none⟩) 8 ca) rfl (fun _ _ => rfl) ?_;refine gU (.pointer (some ⟨ga, 0 + (1), none⟩)) rfl (fun _ _ => c9 rfl rfl rfl rfl (by omega) (by omega)) ?_;refine gU (V32 (xb)) rfl (fun W hW => ba rfl rfl (hW.1 1 (by simp))) ?_;refine gU (Value.slice (some ⟨ga, 0, none⟩) 8 ca) rfl (fun _ _ => rfl) ?_;refine gU (.pointer (some ⟨ga, 0 + (2), none⟩)) rfl (fun _ _ => c9 rfl rfl rfl rfl (by omega) (by omega)) ?_;refine gU (V32 (xc)) rfl (fun W hW => ba rfl rfl (hW.1 2 (by simp))) ?_;refine gU (Value.slice (some ⟨ga, 0, none⟩) 8 ca) rfl (fun _ _ => rfl) ?_;refine gU (.pointer (some ⟨ga, 0 + (3), none⟩)) rfl (fun _ _ => c9 rfl rfl rfl rfl (by omega) (by omega)) ?_;refine gU (V32 (xd)) rfl (fun W hW => ba rfl rfl (hW.1 3 (by simp))) ?_;refine gU (V32 (T)) rfl (fun _ _ => rfl) ?_;refine gU (V32 ((xd) + (T))) rfl (fun _ _ => gu rfl rfl rfl) ?_;refine gU (Value.slice (some ⟨ga, 0, none⟩) 8 ca) rfl (fun _ _ => rfl) ?_;refine gU (.pointer (some ⟨ga, 0 + (4), none⟩)) rfl (fun _ _ => c9 rfl rfl rfl rfl (by omega) (by omega)) ?_;refine gU (V32 (xe)) rfl (fun W hW => ba rfl rfl (hW.1 4 (by simp))) ?_;refine gU (Value.slice (some ⟨ga, 0, none⟩) 8 ca) rfl (fun _ _ => rfl) ?_;refine gU (.pointer (some ⟨ga, 0 + (5), none⟩)) rfl (fun _ _ => c9 rfl rfl rfl rfl (by omega) (by omega)) ?_;refine gU (V32 (xf)) rfl (fun W hW => ba rfl rfl (hW.1 5 (by simp))) ?_;refine gU (Value.slice (some ⟨ga, 0, none⟩) 8 ca) rfl (fun _ _ => rfl) ?_;refine gU (.pointer (some ⟨ga, 0 + (6), none⟩)) rfl (fun _ _ => c9 rfl rfl rfl rfl (by omega) (by omega)) ?_;refine gU (V32 (xg)) rfl (fun W hW => ba rfl rfl (hW.1 6 (by simp))) ?_;refine bm _ rfl (by rfl) _ _ (Mt rfl rfl rfl rfl rfl rfl rfl rfl rfl) (TkS ga gk gw [xa, xb, xc, xd, xe, xf, xg, xh] pb) (a0.out.alloc (o := _) a4.out.1 a4.out.2.1 a4.out.2.2) (fun _ h => h) ?_; try simp only [pS]
   refine gU (.slice (some ⟨wo.drew.drew.drew.heap.size, 0, none⟩) 8 8) rfl (fun _ _ => rfl) ?_;refine au ?_
   have HN : Hid (TkAt st pb gk gw gs os w (k + 1) (.slice (some ⟨wo.drew.drew.drew.heap.size, 0, none⟩) 8 8) (wo.drew.drew.drew.alloc (.cells #[V32 (T + U), V32 xa, V32 xb, V32 xc, V32 (xd + T), V32 xe, V32 xf, V32 xg] 24))) := zH
    (Qa (wr := wo.drew.drew.drew) (t := ⟨xa, xb, xc, xd, xe, xf, xg, xh⟩) (ga := ga) HT.out.symm a0.out a4.out b0.out av.out.drew.drew.drew hgs ⟨T + U, xa, xb, xc, xd + T, xe, xf, xg⟩ (by
     obtain ⟨_, e1, e2⟩ := ay.out
     rw [e1, e2, ← b2.out, ← b3.out]; rfl) _ rfl)
   clear a0 a4 b0 av ax a5 b2 b3 ay a1 an ar;generalize wo.drew.drew.drew.alloc (.cells #[V32 (T + U), V32 xa, V32 xb, V32 xc, V32 (xd + T), V32 xe, V32 xf, V32 xg] 24) = wn at HN ⊢
   go_wp2
   go_roundw
   case rel => exact ⟨k + 1, by omega, by go_num, HN.out⟩
   case measure => simp [intOf]; omega
  ·obtain rfl : k = 64 := by omega
   clear hlt hk
   have ab : Hid (B5 ga gs os (Fz st (mf pb) 64).list st.list wo.heap.size w 0 (.slice none 0 0) wo) := zH
    ⟨⟨aa.1, ah⟩, a1, by have := a2.size; omega, World.ownsRow_nil _ _ _ _, Nat.le_refl _, a1, by have := a2.size; omega, a2.size, a2⟩
   clear aa ah a2 an ar;obtain ⟨la, ae⟩ : ∃ la, (Fz st (mf pb) 64).list = la := ⟨_, rfl⟩;obtain ⟨ls, af⟩ : ∃ ls, st.list = ls := ⟨_, rfl⟩;have bl : la.length = 8 := (by rw [← ae]; rfl);have bn : ls.length = 8 := (by rw [← af]; rfl);have al : Hid (nx ls la 8 = (take st pb).list) := zH (by rw [← ae, ← af, J2]; rfl);rw [ae, af] at ab;clear ae af;obtain ⟨B, hB⟩ : ∃ B, wo.heap.size = B := ⟨_, rfl⟩;rw [hB] at ab;clear hB a1
   go_wp2
   go_loopw [11, 12] (fun v i wr => ∃ k : Nat, k ≤ 8 ∧ i = .int .i64 k ∧ B5 ga gs os la ls B w k v wr) (fun _ i _ => 8 - (intOf i).toNat)
   case atStart => exact ⟨0, by omega, rfl, ab.out⟩
   case round =>
    clear ab;obtain ⟨k, hk, rfl, hO⟩ := hrel;have HO := zH hO;clear hO;by_cases hlt : k < 8
    ·obtain ⟨x, hx⟩ : ∃ x, ls.getD k 0 = x := ⟨_, rfl⟩
     obtain ⟨y, hy⟩ : ∃ y, la.getD k 0 = y := ⟨_, rfl⟩;have HX : Hid (∀ W, TkO ga gs os la ls W → W.cell? ⟨gs, os + k, none⟩ = some (V32 x)) := zH (fun W hW => by rw [← hx]; exact hW.2 k (by omega));have HY : Hid (∀ W, TkO ga gs os la ls W → W.cell? ⟨ga, 0 + k, none⟩ = some (V32 y)) := zH (fun W hW => by rw [← hy]; exact hW.1 k (by omega));have bb : Hid (ls.getD k 0 + la.getD k 0 = x + y) := zH (by rw [hx, hy]);clear hx hy
     go_wp2
     refine gS (.take 0 (.take 1 (.take 2 (.take 3 (.take 4 (.take 5 (.take 6 (.take 7 (.take 8 (.take 9 (.step 10 (.step 11 (.take 12 (.nil)))))))))))))) (TkO ga gs os la ls) (HO.out.1) ?_;refine gU (_) rfl (fun _ _ => rfl) ?_;refine gU (Value.slice (some ⟨gs, os, none⟩) 8 cs) rfl (fun _ _ => rfl) ?_;refine gU (.int .i64 ((k : Nat) : Int)) rfl (fun _ _ => rfl) ?_;refine gU (.pointer (some ⟨gs, os + (k), none⟩)) rfl (fun _ _ => c9 rfl rfl rfl rfl (by omega) (by omega)) ?_;refine gU (V32 (x)) rfl (fun W hW => ba rfl rfl (HX.out W hW)) ?_;refine gU (Value.slice (some ⟨ga, 0, none⟩) 8 ca) rfl (fun _ _ => rfl) ?_;refine gU (.int .i64 ((k : Nat) : Int)) rfl (fun _ _ => rfl) ?_;refine gU (.pointer (some ⟨ga, 0 + (k), none⟩)) rfl (fun _ _ => c9 rfl rfl rfl rfl (by omega) (by omega)) ?_;refine gU (V32 (y)) rfl (fun W hW => ba rfl rfl (HY.out W hW)) ?_;refine gU (V32 ((x) + (y))) rfl (fun _ _ => gu rfl rfl rfl) ?_;refine bm _ rfl (by rfl) _ _ (Bd rfl rfl) (TkO ga gs os la ls) (HO.out.1.alloc HO.out.2.1 HO.out.2.2.1 _) (fun _ h => h) ?_; try simp only [pS]
     refine C1 _ rfl (by rfl) (.tmp 136) (.tmp 146) rfl _ rfl B (nx ls la k) (HO.out.2.2.2.1.alloc _) (x + y) ⟨wr.drew.heap.size, 0, none⟩ 1 rfl (qt _ _ _ 0 _ rfl) (by rw [Dr]; omega) (by have h1 : B ≤ wr.heap.size := HO.out.2.2.2.2.1; simp; omega) ?_;intro v' w1 ho hgr _;have HN := zH (Il (wr := wr.drew) (Ik HO.out) bb.out ho hgr);clear ho hgr;refine ⟨HN.out.1, ?_⟩; try simp only [pS]
     refine gU (v') rfl (fun _ _ => rfl) ?_;refine au ?_
     go_wp2
     go_roundw
     case rel => exact ⟨k + 1, by omega, by go_num, HN.out⟩
     case measure => simp [intOf]; omega
    ·obtain rfl : k = 8 := by omega
     go_wp2
     go_ret;obtain ⟨h1, h2, h3, h4, h5, h6, h7, h8, h9⟩ := HO.out;rw [al.out] at h4;exact ⟨_, rfl, U4 h4 h8, h9⟩
end Go.Proofs.YtjgjohdeeeoeoaaGreatDoor
