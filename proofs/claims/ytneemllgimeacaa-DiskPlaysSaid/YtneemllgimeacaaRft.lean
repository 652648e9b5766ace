/- The document's disk: Fault. -/
import Derived.Test.YtneemllgimeacaaRk
namespace Go.Proofs.Ytneemllgimeacaa
open Go.RowKit

theorem came_c {W Z : World} {D q : Nat} {vm vc vb vs va v : Value} {S : Nat → Prop} {t : Rsk} {l : List (Nat × Bs)} (h : RkIn W D q vm vc vb vs va S t) (hq : q < W.heap.size) (hz : Below W.heap.size W Z) (ho : OwnP Z W.heap.size v l) :
    (∃ sp n c, v = .slice sp n c) ∧ (∃ u, Z.cell? ⟨D, 3, none⟩ = some u) ∧ Z.frozen? ⟨D, 3, none⟩ = false ∧
      RkIn (Z.setCell ⟨D, 3, none⟩ v) D q vm v vb vs va (Ext S W (Z.setCell ⟨D, 3, none⟩ v)) { t with cache := l } ∧ Chg (fun k => k = D) W (Z.setCell ⟨D, 3, none⟩ v) := by
  have hc : Chg (fun _ => False) W Z := Chg.of_below hz
  have hbD : Blk Z D (rcells q vm vc vb vs va t) 40 := h.blk.chg hc id
  obtain ⟨h1, h2⟩ := h.put (j := 3) (u := v) (vm' := vm) (vc' := v) (vb' := vb) (vs' := vs) (va' := va) (t' := { t with cache := l }) hq hc id rfl h.nlt (owns_chg h.om hc (fun _ _ h => h)) (own0 ho) (owns_chg h.ob hc (fun _ _ h => h)) (owns_chg h.os hc (fun _ _ h => h)) (owns_chg h.oa hc (fun _ _ h => h))
    (fun g hg => .inl (h.sm g hg)) (own_new ho (Nat.le_refl _)) (fun g hg => .inl (h.sb g hg)) (fun g hg => .inl (h.ss g hg)) (fun g hg => .inl (h.sa g hg)) (own_lt h.om ho (Nat.le_refl _))
  exact ⟨own_slice3 ho, ⟨_, hbD.cell rfl⟩, hbD.free 3, h1, h2.mono (fun k hk => by rcases hk with hk | hk; exact hk.elim; exact hk)⟩
theorem came_s {W Z : World} {D q : Nat} {vm vc vb vs va v : Value} {S : Nat → Prop} {t : Rsk} {l : List Nat} (h : RkIn W D q vm vc vb vs va S t) (hq : q < W.heap.size) (hz : Below W.heap.size W Z) (ho : OwnN Z W.heap.size v l) :
    (∃ sp n c, v = .slice sp n c) ∧ (∃ u, Z.cell? ⟨D, 5, none⟩ = some u) ∧ Z.frozen? ⟨D, 5, none⟩ = false ∧
      RkIn (Z.setCell ⟨D, 5, none⟩ v) D q vm vc vb v va (Ext S W (Z.setCell ⟨D, 5, none⟩ v)) { t with stuck := l } ∧ Chg (fun k => k = D) W (Z.setCell ⟨D, 5, none⟩ v) := by
  have hc : Chg (fun _ => False) W Z := Chg.of_below hz
  have hbD : Blk Z D (rcells q vm vc vb vs va t) 40 := h.blk.chg hc id
  obtain ⟨h1, h2⟩ := h.put (j := 5) (u := v) (vm' := vm) (vc' := vc) (vb' := vb) (vs' := v) (va' := va) (t' := { t with stuck := l }) hq hc id rfl h.nlt (owns_chg h.om hc (fun _ _ h => h)) (owns_chg h.oc hc (fun _ _ h => h)) (owns_chg h.ob hc (fun _ _ h => h)) (own0 ho) (owns_chg h.oa hc (fun _ _ h => h))
    (fun g hg => .inl (h.sm g hg)) (fun g hg => .inl (h.sc g hg)) (fun g hg => .inl (h.sb g hg)) (own_new ho (Nat.le_refl _)) (fun g hg => .inl (h.sa g hg)) h.ap
  exact ⟨own_slice3 ho, ⟨_, hbD.cell rfl⟩, hbD.free 5, h1, h2.mono (fun k hk => by rcases hk with hk | hk; exact hk.elim; exact hk)⟩
/-- A row of numbers without one, and that one behind. -/
theorem app_wo {W Z : World} {v : Value} {l : List Nat} {a : Nat} (hz : Below W.heap.size W Z) (ho : OwnN Z W.heap.size v (woN l a)) (hl : l.length < 1000000) (ty : TypeId) :
    ∃ v' w, (Builtin.append_ #[38, 38] ty #[v, .slice (some ⟨Z.heap.size, 0, none⟩) 1 1]).run Try.prog (Z.alloc (.cells #[.int .u16 (a : Int)] 41)) = .ok v' w ∧ OwnN w W.heap.size v' (woN l a ++ [a]) ∧ Below W.heap.size W w := by
  obtain ⟨v', w, hr, ho', hgr, _⟩ := ownN_app (ho.alloc (.cells #[.int .u16 (a : Int)] 41)) (by have := hz.size; simp; omega) (Nat.lt_of_le_of_lt (List.length_filter_le _ _) hl) a (adr := ⟨Z.heap.size, 0, none⟩) (c := 1) (cell_one_new Z _ 41) ty
  exact ⟨v', w, hr, ho', (hz.alloc hz.size _).grown hgr (by have := hz.size; simp; omega) (fun j hj => (ho.lt j hj).1)⟩
def rfault (t : Rsk) (k : Nat) (a : Nat) (b : Bs) : Int × Rsk :=
  if a < t.n then (if k = 0 ∧ b.length ≠ 512 then (1, t) else (0, match k with
    | 0 => { t with cache := others t.cache a, m := others t.m a ++ [(a, b)] }
    | 1 => { t with cache := others t.cache a, bad := woN t.bad a ++ [a] }
    | _ => { t with cache := others t.cache a, stuck := woN t.stuck a ++ [a] })) else (1, t)
def Rfaulted (D q : Nat) (S : Nat → Prop) (r : Int × Rsk) (w : World) (e : Ending) (w' : World) : Prop :=
  e = .returned (.int .i64 r.1) ∧ RkAt w' D q (Ext S w w') r.2 ∧ Chg (fun k => k = D) w w'
theorem fault_end {W W6 w : World} {D q : Nat} {S : Nat → Prop} {t : Rsk} (h : RkAt w D q (Ext (Ext S W W6) W6 w) t) (hab : Chg (fun k => k = D) W W6) (hbc : Chg (fun k => k = D) W6 w) (hq : q < W.heap.size) : Rfaulted D q S (0, t) W (.returned (.int .i64 0)) w :=
  ⟨rfl, h.ext3 hab.size hq, hab.trans' hbc⟩
set_option maxRecDepth 100000 in
set_option maxHeartbeats 4000000 in
theorem rfault_any (D q : Nat) (S : Nat → Prop) (t : Rsk) (k a : Nat) (b : Bs) (ha : a < 65536) (hk : k ≤ 2) (w : World) (h : RkAt w D q S t) (hq : q < w.heap.size) (hs : Small t) :
    Calls Try.prog 41 #[.pointer (some ⟨D, 0, none⟩), .int .i64 (k : Int), .int .u16 (a : Int), .string (bstr b)] w (Rfaulted D q S (rfault t k a b) w) := by
  have HK := Lib.hid h
  have HS := Lib.hid hs
  obtain ⟨vm, vc, vb, vs, va, h⟩ := h
  obtain ⟨c0, -, -, c3, -, -, -, -, -⟩ := h.c
  have hn := h.nlt
  have wa := IntWalk.i64_in (a : Int) (by omega)
  have H := Lib.hid h
  have hbs := bstr_size b
  clear h hs
  unfold rfault
  by_cases hlt : a < t.n
  · rw [if_pos hlt]
    have hge : ¬ ((t.n : Int) ≤ (a : Int)) := by omega
    clear hlt
    by_cases hb : k = 0 ∧ b.length ≠ 512
    · rw [if_pos hb]
      obtain ⟨rfl, hb⟩ := hb
      have hne : ¬ ((bstr b).size : Int) = 512 := by omega
      clear hb
      go_enter Try.func41, Try.ntmps41
      go_wp2_with fail
      go_ret
      exact ⟨rfl, HK.out.ext hq, Chg.refl _ _⟩
    · rw [if_neg hb]
      match k, hk with
      | 0, _ =>
        have hbl : b.length = 512 := by
          by_cases h : b.length = 512
          · exact h
          · exact absurd ⟨rfl, h⟩ hb
        rw [hbl] at hbs
        have hne : ((bstr b).size : Int) = 512 := by omega
        clear hb hbl hk
        go_enter Try.func41, Try.ntmps41
        go_wp2_with fail
        refine (rdrop_any t.cache vc a ha HS.out.c w (own_ps H.out.oc)).mono ?_
        rintro e w1 ⟨v1, rfl, ho1, hw1⟩
        obtain ⟨⟨sp1, n1, d1, rfl⟩, ⟨u1, hu1⟩, hf1, k1, m1⟩ := came_c H.out hq hw1 ho1
        have K1 := Lib.hid k1
        have M1 := Lib.hid m1
        have hq6 : q < (w1.setCell ⟨D, 3, none⟩ (.slice sp1 n1 d1)).heap.size := Nat.lt_of_lt_of_le hq m1.size
        obtain ⟨-, -, g2, -, g4, g5, -, -, -⟩ := k1.c
        clear c0 c3 k1 m1 ho1 hw1
        go_wp2_with fail
        generalize w1.setCell ⟨D, 3, none⟩ (.slice sp1 n1 d1) = W6 at K1 M1 hq6 g2 g4 g5 ⊢
        clear hu1 hf1
        refine (rdrop_any t.m vm a ha HS.out.m W6 (own_ps K1.out.om)).mono ?_
        rintro e w3 ⟨v3, rfl, ho3, hw3⟩
        obtain ⟨v9, w5, hr, ⟨sp9, n9, c9, rfl⟩, ⟨u9, hu9⟩, hf9, hb9, hrk, hch⟩ := came_m K1.out hq6 (hw3.alloc hw3.size (.cells (pcells (a, b)).toArray 92)) (ho3.alloc (.cells (pcells (a, b)).toArray 92)) b (c := 1) (Blk.new w3 (pcells (a, b)) 92) HS.out.m 37
        have HRR := Lib.hid hr
        have HF := Lib.hid (fault_end ⟨_, _, _, _, _, hrk⟩ M1.out hch hq)
        clear hr hrk hch hb9 ho3 hw3
        go_wp2_with (first | (at_builtin; refine wpL_ok rfl (ex_app37 rfl rfl rfl HRR.out) ?_) | fail)
        go_ret
        exact HF.out
      | 1, _ =>
        clear hb hk
        go_enter Try.func41, Try.ntmps41
        go_wp2_with fail
        refine (rdrop_any t.cache vc a ha HS.out.c w (own_ps H.out.oc)).mono ?_
        rintro e w1 ⟨v1, rfl, ho1, hw1⟩
        obtain ⟨⟨sp1, n1, d1, rfl⟩, ⟨u1, hu1⟩, hf1, k1, m1⟩ := came_c H.out hq hw1 ho1
        have K1 := Lib.hid k1
        have M1 := Lib.hid m1
        have hq6 : q < (w1.setCell ⟨D, 3, none⟩ (.slice sp1 n1 d1)).heap.size := Nat.lt_of_lt_of_le hq m1.size
        obtain ⟨-, -, g2, -, g4, g5, -, -, -⟩ := k1.c
        clear c0 c3 k1 m1 ho1 hw1
        go_wp2_with fail
        generalize w1.setCell ⟨D, 3, none⟩ (.slice sp1 n1 d1) = W6 at K1 M1 hq6 g2 g4 g5 ⊢
        clear hu1 hf1
        refine (rwithout_any t.bad vb a ha HS.out.b W6 (own_ns K1.out.ob)).mono ?_
        rintro e w3 ⟨v3, rfl, ho3, hw3⟩
        obtain ⟨v9, w5, hr, ho9, hb9⟩ := app_wo hw3 ho3 HS.out.b 38
        obtain ⟨⟨sp9, n9, c9, rfl⟩, ⟨u9, hu9⟩, hf9, hrk, hch⟩ := came_b K1.out hq6 hb9 ho9
        have HRR := Lib.hid hr
        have HF := Lib.hid (fault_end ⟨_, _, _, _, _, hrk⟩ M1.out hch hq)
        clear hr hrk hch hb9 ho3 hw3 ho9
        go_wp2_with (first | (at_builtin; refine wpL_ok rfl (ex_app38 rfl rfl rfl HRR.out) ?_) | fail)
        go_ret
        exact HF.out
      | 2, _ =>
        clear hb hk
        go_enter Try.func41, Try.ntmps41
        go_wp2_with fail
        refine (rdrop_any t.cache vc a ha HS.out.c w (own_ps H.out.oc)).mono ?_
        rintro e w1 ⟨v1, rfl, ho1, hw1⟩
        obtain ⟨⟨sp1, n1, d1, rfl⟩, ⟨u1, hu1⟩, hf1, k1, m1⟩ := came_c H.out hq hw1 ho1
        have K1 := Lib.hid k1
        have M1 := Lib.hid m1
        have hq6 : q < (w1.setCell ⟨D, 3, none⟩ (.slice sp1 n1 d1)).heap.size := Nat.lt_of_lt_of_le hq m1.size
        obtain ⟨-, -, g2, -, g4, g5, -, -, -⟩ := k1.c
        clear c0 c3 k1 m1 ho1 hw1
        go_wp2_with fail
        generalize w1.setCell ⟨D, 3, none⟩ (.slice sp1 n1 d1) = W6 at K1 M1 hq6 g2 g4 g5 ⊢
        clear hu1 hf1
        refine (rwithout_any t.stuck vs a ha HS.out.s W6 (own_ns K1.out.os)).mono ?_
        rintro e w3 ⟨v3, rfl, ho3, hw3⟩
        obtain ⟨v9, w5, hr, ho9, hb9⟩ := app_wo hw3 ho3 HS.out.s 38
        obtain ⟨⟨sp9, n9, c9, rfl⟩, ⟨u9, hu9⟩, hf9, hrk, hch⟩ := came_s K1.out hq6 hb9 ho9
        have HRR := Lib.hid hr
        have HF := Lib.hid (fault_end ⟨_, _, _, _, _, hrk⟩ M1.out hch hq)
        clear hr hrk hch hb9 ho3 hw3 ho9
        go_wp2_with (first | (at_builtin; refine wpL_ok rfl (ex_app38 rfl rfl rfl HRR.out) ?_) | fail)
        go_ret
        exact HF.out
  · rw [if_neg hlt]
    have hge : (t.n : Int) ≤ (a : Int) := by omega
    clear hlt
    go_enter Try.func41, Try.ntmps41
    go_wp2_with fail
    go_ret
    exact ⟨rfl, HK.out.ext hq, Chg.refl _ _⟩
end Go.Proofs.Ytneemllgimeacaa
