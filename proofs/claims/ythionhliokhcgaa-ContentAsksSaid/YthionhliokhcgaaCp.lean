/- Content: the law's takes: changes into a shelf. -/
import Derived.Test.YthionhliokhcgaaCo
import Derived.Deep.QuietTactic
import Derived.BigQuiet
import Derived.Laws.OwnMore
namespace Go.Proofs.Ythionhliokhcgaa
open Go.RowKit Go.Shelf

attribute [local go_sem] Oper.semAt_some

/-- Changes that rise, of whole leaves. -/
structure OkCs (cs : List (Nat × B8)) : Prop where
  lt : ∀ c ∈ cs, c.1 < 64 ∧ (c.2.length = 0 ∨ c.2.length = 512)
  up : ∀ i c c', cs[i]? = some c → cs[i + 1]? = some c' → c.1 < c'.1
def appC (m : List B8) (cs : List (Nat × B8)) : List B8 := cs.foldl (fun m c => m.set c.1 c.2) m
theorem appC_snoc (m : List B8) (cs : List (Nat × B8)) (c : Nat × B8) : appC m (cs ++ [c]) = (appC m cs).set c.1 c.2 := by simp [appC]
theorem appC_len (m : List B8) (cs : List (Nat × B8)) : (appC m cs).length = m.length := by
  unfold appC
  induction cs generalizing m with
  | nil => rfl
  | cons c cs ih => rw [List.foldl_cons, ih, List.length_set]
/-- Changes as they are read. -/
structure RdH (X : World) (g : Nat) (cs : List (Nat × B8)) : Prop where
  at_ : ∀ i c, cs[i]? = some c → ∃ sp cap, X.cell? ⟨g, i * 2, none⟩ = some (.int .u32 (c.1 : Int)) ∧ X.cell? ⟨g, i * 2 + 1, none⟩ = some (.slice sp c.2.length cap) ∧ OwnB X 0 (.slice sp c.2.length cap) c.2
theorem RdH.keep {X Y : World} {g D : Nat} {cs : List (Nat × B8)} (h : RdH X g cs) {l l' : List Value} (hb : Blk X g l 47) (hd : Blk X D l' 33) (hc : Chg (fun k => k = D) X Y) : RdH Y g cs := ⟨fun i c hi => by
  obtain ⟨sp, cap, h1, h2, h3⟩ := h.at_ i c hi
  have hne : ¬ g = D := fun e => by subst e; exact absurd (hb.same hd) (by decide)
  have hcell : ∀ j, Y.cell? ⟨g, j, none⟩ = X.cell? ⟨g, j, none⟩ := fun j => World.cell?_of_block (w := X) (a := ⟨g, j, none⟩) (hc.block g hb.lt hne)
  exact ⟨sp, cap, (hcell _).trans h1, (hcell _).trans h2, c_owns_chg h3 hc (fun k hk e => by have e : k = D := e; subst e; exact c_own_ne h3 hd (by decide) hk)⟩⟩
theorem flat_at : ∀ (rs : List (Nat × Value)) (i : Nat) (r : Nat × Value), rs[i]? = some r → (rs.flatMap chC)[i * 2]? = some (.int .u32 (r.1 : Int)) ∧ (rs.flatMap chC)[i * 2 + 1]? = some r.2
  | [], i, r, h => by simp at h
  | x :: rs, 0, r, h => by simp at h; subst h; exact ⟨rfl, rfl⟩
  | x :: rs, i + 1, r, h => by
    have ih := flat_at rs i r (by simpa using h)
    rw [List.flatMap_cons]
    have e1 : (i + 1) * 2 = i * 2 + 1 + 1 := by omega
    rw [e1]
    exact ⟨by simpa using ih.1, by simpa using ih.2⟩
theorem ChAt.rd {w : World} {B : Nat} {v : Value} {cs : List (Nat × B8)} (h : ChAt w B v cs) : ∃ sp cap, v = .slice sp cs.length cap ∧ cs.length ≤ cap ∧ (0 < cs.length → ∃ g, sp = some ⟨g, 0, none⟩ ∧ RdH w g cs ∧ ∃ l, Blk w g l 47) := by
  obtain ⟨rs, h1, h2, h3⟩ := h
  obtain ⟨sp, cap, e, hc, _, hg⟩ := c_owns_form h2
  refine ⟨sp, cap, by rw [e, h1], by omega, fun h0 => ?_⟩
  obtain ⟨g, rfl, hlt, how⟩ := hg (by omega)
  rcases h2.2 with ⟨e2, _⟩ | ⟨g', cap', cur, e2, _, hgg, hc2, hm2, hs2, ht⟩
  · rw [e] at e2; cases e2
  · rw [e] at e2
    cases e2
    have hblk : Blk w g cur.toList 47 := by unfold Blk; simpa using hgg
    refine ⟨g, rfl, ⟨fun i c hc => ?_⟩, _, hblk⟩
    obtain ⟨r, hr⟩ : ∃ r, rs[i]? = some r := ⟨_, List.getElem?_eq_getElem (by have := (List.getElem?_eq_some_iff.1 hc).1; omega)⟩
    obtain ⟨e1, ho⟩ := h3 i r c hr hc
    obtain ⟨f1, f2⟩ := flat_at rs i r hr
    obtain ⟨sp', cap', e3, hc3, _, hsrc, hz, _⟩ := OwnB.form ho
    have ho0 : OwnB w 0 r.2 c.2 := ⟨ho.1, by
      rcases ho.2 with hx | ⟨a, b1, b2, q1, q2, q3⟩
      · exact .inl hx
      · exact .inr ⟨a, b1, b2, q1, Nat.zero_le _, q3⟩⟩
    have hil : i < rs.length := (List.getElem?_eq_some_iff.1 hr).1
    have hx : ∀ j u, j < rs.length * 2 → (rs.flatMap chC)[j]? = some u → w.cell? ⟨g, j, none⟩ = some u := fun j u hj hu => by
      rw [← ht, List.getElem?_take, if_pos (by omega)] at hu
      exact hblk.cell hu
    refine ⟨sp', cap', ?_, ?_, by rw [← e3]; exact ho0⟩
    · rw [← e1]; exact hx _ _ (by omega) f1
    · rw [← e3]; exact hx _ _ (by omega) f2
theorem c_appNil {w : World} {sp : Option Addr} {cap : Nat} {l : B8} (h : OwnB w 0 (.slice sp l.length cap) l) (hl : l.length ≤ 1000) (ty : TypeId) :
    ∃ sp' cap' w', (Builtin.append_ #[24, 24] ty #[.slice none 0 0, .slice sp l.length cap]).run Try.prog w = .ok (.slice sp' l.length cap') w' ∧ OwnB w' w.heap.size (.slice sp' l.length cap') l ∧ Below w.heap.size w w' := by
  rcases h.2 with ⟨e, hn⟩ | ⟨g, c, cur, e, _⟩
  · have hl0 : l = [] := List.eq_nil_of_length_eq_zero hn
    subst hl0
    cases e
    obtain ⟨i0, hi, _⟩ := info_parts infoB
    exact ⟨none, 0, w, run_append_owned_none (P := Try.prog) (w := w) w.heap.size 24 ty 5 i0 1 Try.underlying24 hi (.slice none 0 0) 0 [] (World.ownsRow_nil _ _ _ _), World.ownsRow_nil _ _ _ _, Below.refl _ _⟩
  · cases e
    rcases h.2 with ⟨e, _⟩ | ⟨g', c', cur, e, _, hgg, q3, q4, q5, q6⟩
    · cases e
    · cases e
      have hb : Blk w g cur.toList 5 := by unfold Blk; simpa using hgg
      obtain ⟨v', w', hr, ho, hg, hn⟩ := ownB_app (w := w) (B := w.heap.size) (v := .slice none 0 0) (l := []) (World.ownsRow_nil _ _ _ _) (Nat.le_refl _) (l2 := l) (by simp; omega) (g := g) (f := 0) (c := cap) hb (fun j x hj => by
        have h1 : (l.map V8)[j]? = some (V8 x) := by rw [List.getElem?_map, hj]; rfl
        rw [← q6, List.getElem?_take] at h1
        split at h1
        · rw [Nat.zero_add]; exact h1
        · cases h1) ty
      rw [List.nil_append] at ho
      obtain ⟨sp', cap', rfl, _⟩ := c_owns_form ho
      exact ⟨sp', cap', w', hr, ho, (Below.refl _ _).grown hg (Nat.le_refl _) (fun k e => by cases e)⟩
section
variable {ρ : Operand → Value} {o : Oper} {x y : Operand} {w : World}
theorem c_iaH {g n cap k : Nat} (ho : o.op = .indexAddr 35 x y) (hx : ρ x = .slice (some ⟨g, 0, none⟩) n cap) (hy : ρ y = .int .i64 (k : Int)) (hk : k < n ∧ n ≤ cap) :
    (execOp ρ o).run Try.prog w = .ok (.value (.pointer (some ⟨g, k * 2, none⟩))) w := by
  have h1 : ¬ n ≤ k := by omega
  unfold execOp
  simp only [ho]
  go_simp
theorem c_faH {g a j : Nat} (hj : j = 0 ∨ j = 1) (ho : o.op = .fieldAddr 47 x j) (hx : ρ x = .pointer (some ⟨g, a, none⟩)) : (execOp ρ o).run Try.prog w = .ok (.value (.pointer (some ⟨g, a + j, none⟩))) w := by
  unfold execOp
  simp only [ho]
  rcases hj with rfl | rfl <;> go_simp
theorem c_ldU {ad : Addr} {z : Int} (ho : o.op = .load 34 x) (hx : ρ x = .pointer (some ad)) (hc : w.cell? ad = some (.int .u32 z)) : (execOp ρ o).run Try.prog w = .ok (.value (.int .u32 z)) w := by
  unfold execOp; simp only [ho]; go_simp
theorem c_sub1 {j : Nat} {k : TypeId} (ho : o.op = .binOp .sub 3 x y k) (hx : ρ x = .int .i64 ((j + 1 : Nat) : Int)) (hy : ρ y = .int .i64 1) (hj : j < 1000000) : (execOp ρ o).run Try.prog w = .ok (.value (.int .i64 (j : Int))) w := by
  have e : IntKind.i64.wrap (((j + 1 : Nat) : Int) - 1) = (j : Int) := by rw [IntKind.wrap_i64]; omega
  unfold execOp
  simp only [ho]
  have e2 : IntKind.i64.wrap (j : Int) = (j : Int) := by rw [IntKind.wrap_i64]; omega
  simp only [hx, hy, binOp]
  simp [e, e2, go_sem]
theorem c_gtI {a b : Int} {k : TypeId} {r : Bool} (ho : o.op = .binOp .gtr 3 x y k) (hx : ρ x = .int .i64 a) (hy : ρ y = .int .i64 b) (hr : decide (b < a) = r) : (execOp ρ o).run Try.prog w = .ok (.value (.bool r)) w := by
  subst hr
  unfold execOp
  simp only [ho]
  go_simp
theorem c_geU {a b : Int} {k : TypeId} {r : Bool} (ho : o.op = .binOp .geq 34 x y k) (hx : ρ x = .int .u32 a) (hy : ρ y = .int .u32 b) (hr : decide (b ≤ a) = r) : (execOp ρ o).run Try.prog w = .ok (.value (.bool r)) w := by
  subst hr
  unfold execOp
  simp only [ho]
  go_simp
theorem c_neI {a b : Int} {k : TypeId} {r : Bool} (ho : o.op = .binOp .neq 3 x y k) (hx : ρ x = .int .i64 a) (hy : ρ y = .int .i64 b) (hr : (!(a == b)) = r) : (execOp ρ o).run Try.prog w = .ok (.value (.bool r)) w := by
  subst hr
  unfold execOp
  simp only [ho]
  go_simp
  rfl
theorem c_nc {ad : Addr} (ho : o.op = .nilCheck x) (hx : ρ x = .pointer (some ad)) : (execOp ρ o).run Try.prog w = .ok (.value (.pointer (some ad))) w := by
  unfold execOp; simp only [ho]; go_simp
theorem c_faS0 {g : Nat} (ho : o.op = .fieldAddr 33 x 0) (hx : ρ x = .pointer (some ⟨g, 0, none⟩)) : (execOp ρ o).run Try.prog w = .ok (.value (.pointer (some ⟨g, 0, none⟩))) w := by
  unfold execOp; simp only [ho]; go_simp
theorem c_iaR {g k : Nat} {kd : IntKind} (ho : o.op = .indexAddr 30 x y) (hx : ρ x = .pointer (some ⟨g, 0, none⟩)) (hy : ρ y = .int kd (k : Int)) (hk : k < 64) :
    (execOp ρ o).run Try.prog w = .ok (.value (.pointer (some ⟨g, k, none⟩))) w := by
  have h1 : ¬ 64 ≤ k := by omega
  have h2 : (k : Int) < 64 := by omega
  unfold execOp
  simp only [ho]
  go_simp
end
/-- A leaf's row may be another one. -/
theorem ShW.setRow {w w1 : World} {B D : Nat} {vs : List Value} {m : List B8} {bad : Nat} {av : Value} {aq : List Nat} (h : ShW w B D vs m bad av aq) (hb : Below w.heap.size w w1) {k : Nat} (hk : k < 64) {v : Value} {l : B8} {B0 : Nat} (hv : OwnB w1 B0 v l) :
    ShW (w1.setCell ⟨D, k, none⟩ v) B D (vs.set k v) (m.set k l) bad av aq ∧ Chg (fun g => g = D) w (w1.setCell ⟨D, k, none⟩ v) ∧ (∃ c, w1.cell? ⟨D, k, none⟩ = some c) ∧ w1.frozen? ⟨D, k, none⟩ = false := by
  have h1 := h.below hb
  have hd := h1.d.set k v
  have e : (vs ++ [.int .u64 (bad : Int), av]).set k v = vs.set k v ++ [.int .u64 (bad : Int), av] := List.set_append_left _ _ (by rw [h.vl]; exact hk)
  rw [e] at hd
  have hc := chg1 w1 D k v
  have hne : ∀ {B' e' k' n' : Nat} {u : Value} {xs : List Value}, w1.ownsRow B' e' k' u n' xs → e' ≠ 33 → ∀ g, u.ownBlock = some g → ¬ g = D := fun hu he g hg e => by subst e; exact c_own_ne hu h1.d (Ne.symm he) hg
  refine ⟨⟨hd, by rw [List.length_set, h.vl], by rw [List.length_set, h.ml], fun j u x hu hx => ?_, c_owns_chg h1.q hc (hne h1.q (by decide)), h.lo, h.bad⟩, ((Chg.of_below hb : Chg (fun g => g = D) w w1)).setCell (.inl rfl) k v, h1.d.has k (by rw [List.length_append, h.vl]; omega), h1.d.free k⟩
  by_cases hjk : k = j
  · subst hjk
    rw [List.getElem?_set_self (by rw [h.vl]; exact hk)] at hu
    rw [List.getElem?_set_self (by rw [h.ml]; exact hk)] at hx
    cases hu
    cases hx
    have := c_owns_chg hv hc (hne hv (by decide))
    exact ⟨this.1, by
      rcases this.2 with hx | ⟨a, b1, b2, q1, q2, q3⟩
      · exact .inl hx
      · exact .inr ⟨a, b1, b2, q1, Nat.zero_le _, q3⟩⟩
  · rw [List.getElem?_set_ne hjk] at hu hx
    exact c_owns_chg (h1.row j u x hu hx) hc (hne (h1.row j u x hu hx) (by decide))
theorem tk_step {cs : List (Nat × B8)} {k : Nat} {c : Nat × B8} (m : List B8) (h : cs[k]? = some c) : appC m (cs.take (k + 1)) = (appC m (cs.take k)).set c.1 c.2 := by
  obtain ⟨hk, rfl⟩ := List.getElem?_eq_some_iff.1 h
  rw [List.take_succ_eq_append_getElem hk, appC_snoc]
set_option maxRecDepth 100000 in
set_option maxHeartbeats 8000000 in
theorem ctakes_any {w : World} {B D : Nat} {vs : List Value} {m : List B8} {bad : Nat} {av : Value} {aq : List Nat} (h : ShW w B D vs m bad av aq) (cs : List (Nat × B8)) (hcs : OkCs cs) (hl : cs.length ≤ 1000) (sp : Option Addr) (cap : Nat) (hcap : cs.length ≤ cap) (hrd : 0 < cs.length → ∃ g, sp = some ⟨g, 0, none⟩ ∧ RdH w g cs ∧ ∃ l, Blk w g l 47) :
    Calls Try.prog 10 #[.pointer (some ⟨D, 0, none⟩), .slice sp cs.length cap] w fun e w' => e = .returned (.bool true) ∧ ∃ vs', ShW w' B D vs' (appC m cs) bad av aq ∧ Chg (fun g => g = D) w w' := by
  have HSH := Lib.hid h; have HCS := Lib.hid hcs; have HRD := Lib.hid hrd
  generalize hPost : (fun (e : Ending) (w' : World) => e = .returned (.bool true) ∧ ∃ vs', ShW w' B D vs' (appC m cs) bad av aq ∧ Chg (fun g => g = D) w w') = Post
  have HP : Hid (∀ w' vs', ShW w' B D vs' (appC m cs) bad av aq → Chg (fun g => g = D) w w' → Post (.returned (.bool true)) w') := Lib.hid fun w' vs' h1 h2 => by rw [← hPost]; exact ⟨rfl, vs', h1, h2⟩
  obtain ⟨n, hn⟩ : ∃ n, cs.length = n := ⟨_, rfl⟩
  rw [hn] at hl hcap HRD ⊢
  have HN := Lib.hid hn
  clear h hcs hrd hPost hn
  go_enter Try.func10, Try.ntmps10
  go_wp2_with fail
  go_loopw [5] (fun i wr => ∃ (k : Nat) (vs' : List Value), k ≤ n ∧ i = .int .i64 (k : Int) ∧ ShW wr B D vs' (appC m (cs.take k)) bad av aq ∧ Chg (fun g => g = D) w wr) (fun i _ => n - (intOf i).toNat)
  case atStart => exact ⟨0, vs, by omega, rfl, by rw [List.take_zero]; exact HSH.out, Chg.refl _ _⟩
  case round =>
    obtain ⟨k, vs', hk, rfl, hs, hc⟩ := hrel
    have HS := Lib.hid hs; have HC := Lib.hid hc
    clear hs hc
    by_cases hlt : k < n
    · obtain ⟨g, rfl, hrd, ⟨lg, hbg⟩⟩ := HRD.out (by omega)
      have hrdw := hrd.keep hbg HSH.out.d HC.out
      obtain ⟨c, hck⟩ : ∃ c, cs[k]? = some c := ⟨_, List.getElem?_eq_getElem (by rw [HN.out]; exact hlt)⟩
      obtain ⟨spb, capb, r1, r2, r3⟩ := hrdw.at_ k c hck
      obtain ⟨c64, c512⟩ := HCS.out.lt c (List.mem_of_getElem? hck)
      have HCK := Lib.hid hck; have HROW := Lib.hid r3
      obtain ⟨o, ho⟩ : ∃ o, c.1 = o := ⟨_, rfl⟩
      obtain ⟨LN, hLN⟩ : ∃ L, c.2.length = L := ⟨_, rfl⟩
      rw [ho] at r1 c64
      rw [hLN] at r2 c512 HROW
      have HO := Lib.hid ho; have HLN := Lib.hid hLN
      have hprev : ∀ j, k = j + 1 → ∃ o', o' < o ∧ wr.cell? ⟨g, j * 2, none⟩ = some (.int .u32 (o' : Int)) := fun j hj => by
        obtain ⟨c', hc'⟩ : ∃ c', cs[j]? = some c' := ⟨_, List.getElem?_eq_getElem (by rw [HN.out]; omega)⟩
        obtain ⟨_, _, q1, _⟩ := hrdw.at_ j c' hc'
        refine ⟨c'.1, ?_, q1⟩
        rw [← ho]
        exact HCS.out.up j c' c hc' (by rw [← hj]; exact hck)
      have HGL : Hid (g < wr.heap.size) := Lib.hid (Nat.lt_of_lt_of_le hbg.lt HC.out.size)
      have HGD : Hid (¬ g = D) := Lib.hid (fun e => by subst e; exact absurd (hbg.same HSH.out.d) (by decide))
      clear hck r3 ho hLN hrd hrdw hbg
      have e64 : ¬ (64 : Int) ≤ (o : Int) := by omega
      have hcase : (∃ j, k = j + 1) ∨ k = 0 := by
        rcases k with _ | j
        · exact .inr rfl
        · exact .inl ⟨j, rfl⟩
      rcases hcase with ⟨j, hj⟩ | h0
      · obtain ⟨o', hlo, r0⟩ := hprev j hj
        subst hj
        clear hprev
        rcases c512 with h5 | h5
        · subst h5
          go_upto_region 4 with fail
          refine wp_region_sched (.take 0 (.take 1 (.take 2 (.take 3 (.take 4 (.take 5 (.take 6 (.take 7 (.take 8 (.take 9 (.take 10 (.take 11 (.take 12 (.take 13 (.take 14 (.take 15 (.take 16 (.take 17 (.take 18 (.take 19 (.take 20 (.take 21 (.take 22 (.take 23 (.take 24 (.take 25 (.take 26 (.take 27 (.take 28 (.take 29 (.take 30 (.take 31 (.take 32 (.take 33 (.take 34 (.take 35 (.take 36 (.take 37 (.take 38 (.take 39 (.take 40 (.take 41 (.nil))))))))))))))))))))))))))))))))))))))))))) (by kernel_rfl) (by kernel_rfl) (fun d _ _ _ _ h => by cases d <;> exact h) (fun X => X.cell? ⟨g, (j + 1) * 2, none⟩ = some (.int .u32 (o : Int)) ∧ X.cell? ⟨g, (j + 1) * 2 + 1, none⟩ = some (.slice spb 0 capb) ∧ X.cell? ⟨g, j * 2, none⟩ = some (.int .u32 (o' : Int))) ⟨r1, r2, r0⟩ ?_
          refine wpG_take _ (.slice (some ⟨g, 0, none⟩) n cap) rfl (by rfl) (fun X hX => by first | rfl | go_simp) ?_
          (try simp only [Act.put, List.setIfInBounds_toArray, List.set_cons_zero, List.set_cons_succ])
          refine wpG_take _ (.int .i64 (((j + 1) : Nat) : Int)) rfl (by rfl) (fun X hX => by first | rfl | go_simp) ?_
          (try simp only [Act.put, List.setIfInBounds_toArray, List.set_cons_zero, List.set_cons_succ])
          refine wpG_take _ (.pointer (some ⟨g, (j + 1) * 2, none⟩)) rfl (by rfl) (fun X hX => c_iaH (k := (j + 1)) rfl rfl rfl ⟨by omega, hcap⟩) ?_
          (try simp only [Act.put, List.setIfInBounds_toArray, List.set_cons_zero, List.set_cons_succ])
          refine wpG_take _ (.pointer (some ⟨g, (j + 1) * 2, none⟩)) rfl (by rfl) (fun X hX => c_faH (a := (j + 1) * 2) (j := 0) (.inl rfl) rfl rfl) ?_
          (try simp only [Act.put, List.setIfInBounds_toArray, List.set_cons_zero, List.set_cons_succ])
          refine wpG_take _ (.int .u32 (o : Int)) rfl (by rfl) (fun X hX => c_ldU rfl rfl hX.1) ?_
          (try simp only [Act.put, List.setIfInBounds_toArray, List.set_cons_zero, List.set_cons_succ])
          refine wpG_take _ (.bool false) rfl (by rfl) (fun X hX => c_geU rfl rfl rfl (by rw [decide_eq_false_iff_not]; exact e64)) ?_
          (try simp only [Act.put, List.setIfInBounds_toArray, List.set_cons_zero, List.set_cons_succ])
          refine wpG_take _ (.bool false) rfl (by rfl) (fun X hX => by first | rfl | go_simp) ?_
          (try simp only [Act.put, List.setIfInBounds_toArray, List.set_cons_zero, List.set_cons_succ])
          refine wpG_take _ (.int .i64 (((j + 1) : Nat) : Int)) rfl (by rfl) (fun X hX => by first | rfl | go_simp) ?_
          (try simp only [Act.put, List.setIfInBounds_toArray, List.set_cons_zero, List.set_cons_succ])
          refine wpG_take _ (.bool true) rfl (by rfl) (fun X hX => c_gtI rfl rfl rfl (by first | (rw [decide_eq_true_iff]; omega) | (rw [decide_eq_false_iff_not]; omega))) ?_
          (try simp only [Act.put, List.setIfInBounds_toArray, List.set_cons_zero, List.set_cons_succ])
          refine wpG_take _ (.bool true) rfl (by rfl) (fun X hX => by first | rfl | go_simp) ?_
          (try simp only [Act.put, List.setIfInBounds_toArray, List.set_cons_zero, List.set_cons_succ])
          refine wpG_take _ (.slice (some ⟨g, 0, none⟩) n cap) rfl (by rfl) (fun X hX => by first | rfl | go_simp) ?_
          (try simp only [Act.put, List.setIfInBounds_toArray, List.set_cons_zero, List.set_cons_succ])
          refine wpG_take _ (.int .i64 (((j + 1) : Nat) : Int)) rfl (by rfl) (fun X hX => by first | rfl | go_simp) ?_
          (try simp only [Act.put, List.setIfInBounds_toArray, List.set_cons_zero, List.set_cons_succ])
          refine wpG_take _ (.int .i64 (j : Int)) rfl (by rfl) (fun X hX => c_sub1 (j := j) rfl rfl rfl (by omega)) ?_
          (try simp only [Act.put, List.setIfInBounds_toArray, List.set_cons_zero, List.set_cons_succ])
          refine wpG_take _ (.pointer (some ⟨g, j * 2, none⟩)) rfl (by rfl) (fun X hX => c_iaH (k := j) rfl rfl rfl ⟨by omega, hcap⟩) ?_
          (try simp only [Act.put, List.setIfInBounds_toArray, List.set_cons_zero, List.set_cons_succ])
          refine wpG_take _ (.pointer (some ⟨g, j * 2, none⟩)) rfl (by rfl) (fun X hX => c_faH (a := j * 2) (j := 0) (.inl rfl) rfl rfl) ?_
          (try simp only [Act.put, List.setIfInBounds_toArray, List.set_cons_zero, List.set_cons_succ])
          refine wpG_take _ (.int .u32 (o' : Int)) rfl (by rfl) (fun X hX => c_ldU rfl rfl hX.2.2) ?_
          (try simp only [Act.put, List.setIfInBounds_toArray, List.set_cons_zero, List.set_cons_succ])
          refine wpG_take _ (.slice (some ⟨g, 0, none⟩) n cap) rfl (by rfl) (fun X hX => by first | rfl | go_simp) ?_
          (try simp only [Act.put, List.setIfInBounds_toArray, List.set_cons_zero, List.set_cons_succ])
          refine wpG_take _ (.int .i64 (((j + 1) : Nat) : Int)) rfl (by rfl) (fun X hX => by first | rfl | go_simp) ?_
          (try simp only [Act.put, List.setIfInBounds_toArray, List.set_cons_zero, List.set_cons_succ])
          refine wpG_take _ (.pointer (some ⟨g, (j + 1) * 2, none⟩)) rfl (by rfl) (fun X hX => c_iaH (k := (j + 1)) rfl rfl rfl ⟨by omega, hcap⟩) ?_
          (try simp only [Act.put, List.setIfInBounds_toArray, List.set_cons_zero, List.set_cons_succ])
          refine wpG_take _ (.pointer (some ⟨g, (j + 1) * 2, none⟩)) rfl (by rfl) (fun X hX => c_faH (a := (j + 1) * 2) (j := 0) (.inl rfl) rfl rfl) ?_
          (try simp only [Act.put, List.setIfInBounds_toArray, List.set_cons_zero, List.set_cons_succ])
          refine wpG_take _ (.int .u32 (o : Int)) rfl (by rfl) (fun X hX => c_ldU rfl rfl hX.1) ?_
          (try simp only [Act.put, List.setIfInBounds_toArray, List.set_cons_zero, List.set_cons_succ])
          refine wpG_take _ (.bool false) rfl (by rfl) (fun X hX => c_geU rfl rfl rfl (by rw [decide_eq_false_iff_not]; omega)) ?_
          (try simp only [Act.put, List.setIfInBounds_toArray, List.set_cons_zero, List.set_cons_succ])
          refine wpG_take _ (.bool false) rfl (by rfl) (fun X hX => by first | rfl | go_simp) ?_
          (try simp only [Act.put, List.setIfInBounds_toArray, List.set_cons_zero, List.set_cons_succ])
          refine wpG_take _ (.bool false) rfl (by rfl) (fun X hX => by first | rfl | go_simp) ?_
          (try simp only [Act.put, List.setIfInBounds_toArray, List.set_cons_zero, List.set_cons_succ])
          refine wpG_take _ (.bool false) rfl (by rfl) (fun X hX => by first | rfl | go_simp) ?_
          (try simp only [Act.put, List.setIfInBounds_toArray, List.set_cons_zero, List.set_cons_succ])
          refine wpG_take _ (.slice (some ⟨g, 0, none⟩) n cap) rfl (by rfl) (fun X hX => by first | rfl | go_simp) ?_
          (try simp only [Act.put, List.setIfInBounds_toArray, List.set_cons_zero, List.set_cons_succ])
          refine wpG_take _ (.int .i64 (((j + 1) : Nat) : Int)) rfl (by rfl) (fun X hX => by first | rfl | go_simp) ?_
          (try simp only [Act.put, List.setIfInBounds_toArray, List.set_cons_zero, List.set_cons_succ])
          refine wpG_take _ (.pointer (some ⟨g, (j + 1) * 2, none⟩)) rfl (by rfl) (fun X hX => c_iaH (k := (j + 1)) rfl rfl rfl ⟨by omega, hcap⟩) ?_
          (try simp only [Act.put, List.setIfInBounds_toArray, List.set_cons_zero, List.set_cons_succ])
          refine wpG_take _ (.pointer (some ⟨g, (j + 1) * 2 + 1, none⟩)) rfl (by rfl) (fun X hX => c_faH (a := (j + 1) * 2) (j := 1) (.inr rfl) rfl rfl) ?_
          (try simp only [Act.put, List.setIfInBounds_toArray, List.set_cons_zero, List.set_cons_succ])
          refine wpG_take _ (.slice spb 0 capb) rfl (by rfl) (fun X hX => c_ldB rfl rfl hX.2.1) ?_
          (try simp only [Act.put, List.setIfInBounds_toArray, List.set_cons_zero, List.set_cons_succ])
          refine wpG_take _ (.int .i64 0) rfl (by rfl) (fun X hX => by first | rfl | go_simp) ?_
          (try simp only [Act.put, List.setIfInBounds_toArray, List.set_cons_zero, List.set_cons_succ])
          refine wpG_take _ (.bool false) rfl (by rfl) (fun X hX => c_neI rfl rfl rfl (by decide)) ?_
          (try simp only [Act.put, List.setIfInBounds_toArray, List.set_cons_zero, List.set_cons_succ])
          refine wpG_take _ (.bool false) rfl (by rfl) (fun X hX => by first | rfl | go_simp) ?_
          (try simp only [Act.put, List.setIfInBounds_toArray, List.set_cons_zero, List.set_cons_succ])
          refine wpG_pass _ rfl (by rfl) ?_
          (try simp only [Act.put, List.setIfInBounds_toArray, List.set_cons_zero, List.set_cons_succ])
          refine wpG_pass _ rfl (by rfl) ?_
          (try simp only [Act.put, List.setIfInBounds_toArray, List.set_cons_zero, List.set_cons_succ])
          refine wpG_pass _ rfl (by rfl) ?_
          (try simp only [Act.put, List.setIfInBounds_toArray, List.set_cons_zero, List.set_cons_succ])
          refine wpG_pass _ rfl (by rfl) ?_
          (try simp only [Act.put, List.setIfInBounds_toArray, List.set_cons_zero, List.set_cons_succ])
          refine wpG_pass _ rfl (by rfl) ?_
          (try simp only [Act.put, List.setIfInBounds_toArray, List.set_cons_zero, List.set_cons_succ])
          refine wpG_pass _ rfl (by rfl) ?_
          (try simp only [Act.put, List.setIfInBounds_toArray, List.set_cons_zero, List.set_cons_succ])
          refine wpG_pass _ rfl (by rfl) ?_
          (try simp only [Act.put, List.setIfInBounds_toArray, List.set_cons_zero, List.set_cons_succ])
          refine wpG_take _ (.bool false) rfl (by rfl) (fun X hX => by first | rfl | go_simp) ?_
          (try simp only [Act.put, List.setIfInBounds_toArray, List.set_cons_zero, List.set_cons_succ])
          refine wpG_take _ (.bool false) rfl (by rfl) (fun X hX => by first | rfl | go_simp) ?_
          (try simp only [Act.put, List.setIfInBounds_toArray, List.set_cons_zero, List.set_cons_succ])
          refine wpG_nil ?_
          go_upto_region 6 with fail
          have hs0 : ShW wr.drew.drew B D vs' (appC m (cs.take (j + 1))) bad av aq := HS.out.below ((Below.refl _ _).drew.drew)
          have hrow0 : OwnB wr.drew.drew 0 (.slice spb 0 capb) c.2 := HROW.out
          have hap := c_appNil (w := wr.drew.drew) (sp := spb) (cap := capb) (l := c.2) (by rw [HLN.out]; exact hrow0) (by rw [HLN.out]; omega) 24
          rw [HLN.out] at hap
          obtain ⟨sp1, cap1, w1, hr1, ho1, hb1⟩ := hap
          obtain ⟨h2s, h2c, ⟨_, hc1⟩, hf1⟩ := hs0.setRow hb1 c64 ho1
          rw [show o = c.1 from HO.out.symm, ← tk_step m HCK.out] at h2s
          have h2c : Chg (fun k => k = D) w _ := (HC.out.drew.drew).trans' h2c
          rw [show c.1 = o from HO.out] at h2s
          have hbx : ∀ q u, wr.drew.drew.cell? ⟨g, q, none⟩ = some u → w1.cell? ⟨g, q, none⟩ = some u ∧ (w1.setCell ⟨D, o, none⟩ (.slice sp1 0 cap1)).cell? ⟨g, q, none⟩ = some u := fun q u hq => by
            have hg1 : w1.cell? ⟨g, q, none⟩ = some u := by
              rw [hb1.cell (p := ⟨g, q, none⟩) HGL.out]; exact hq
            exact ⟨hg1, by rw [World.cell?_of_block (w := w1) (a := ⟨g, q, none⟩) ((chg1 w1 D o _).block g (Nat.lt_of_lt_of_le HGL.out hb1.size) HGD.out)]; exact hg1⟩
          have HX1 := Lib.hid (And.intro (hbx _ _ r1).1 (hbx _ _ r2).1)
          have HX2 := Lib.hid (And.intro (hbx _ _ r1).2 (hbx _ _ r2).2)
          have HR1 := Lib.hid hr1; have HC1 := Lib.hid hc1; have HF1 := Lib.hid hf1; have HSS := Lib.hid h2s; have HCC := Lib.hid h2c
          clear hs0 hrow0 ho1 hb1 hr1 hc1 hf1 h2s h2c hbx
          refine wp_region_sched (.take 0 (.take 1 (.take 2 (.take 3 (.take 4 (.take 5 (.take 6 (.take 7 (.take 8 (.take 9 (.take 10 (.take 12 (.take 13 (.step 11 (.take 14 (.step 15 (.nil))))))))))))))))) (by kernel_rfl) (by kernel_rfl) (fun d _ _ _ _ h => by cases d <;> exact h) (fun X => X.cell? ⟨g, (j + 1) * 2, none⟩ = some (.int .u32 (o : Int)) ∧ X.cell? ⟨g, (j + 1) * 2 + 1, none⟩ = some (.slice spb 0 capb)) ⟨r1, r2⟩ ?_
          refine wpG_take _ (.pointer (some ⟨D, 0, none⟩)) rfl (by rfl) (fun X hX => by first | rfl | go_simp) ?_
          (try simp only [Act.put, List.setIfInBounds_toArray, List.set_cons_zero, List.set_cons_succ])
          refine wpG_take _ (.slice (some ⟨g, 0, none⟩) n cap) rfl (by rfl) (fun X hX => by first | rfl | go_simp) ?_
          (try simp only [Act.put, List.setIfInBounds_toArray, List.set_cons_zero, List.set_cons_succ])
          refine wpG_take _ (.int .i64 (((j + 1) : Nat) : Int)) rfl (by rfl) (fun X hX => by first | rfl | go_simp) ?_
          (try simp only [Act.put, List.setIfInBounds_toArray, List.set_cons_zero, List.set_cons_succ])
          refine wpG_take _ (.pointer (some ⟨g, (j + 1) * 2, none⟩)) rfl (by rfl) (fun X hX => c_iaH (k := (j + 1)) rfl rfl rfl ⟨by omega, hcap⟩) ?_
          (try simp only [Act.put, List.setIfInBounds_toArray, List.set_cons_zero, List.set_cons_succ])
          refine wpG_take _ (.pointer (some ⟨g, (j + 1) * 2, none⟩)) rfl (by rfl) (fun X hX => c_faH (a := (j + 1) * 2) (j := 0) (.inl rfl) rfl rfl) ?_
          (try simp only [Act.put, List.setIfInBounds_toArray, List.set_cons_zero, List.set_cons_succ])
          refine wpG_take _ (.int .u32 (o : Int)) rfl (by rfl) (fun X hX => c_ldU rfl rfl hX.1) ?_
          (try simp only [Act.put, List.setIfInBounds_toArray, List.set_cons_zero, List.set_cons_succ])
          refine wpG_take _ (.slice (some ⟨g, 0, none⟩) n cap) rfl (by rfl) (fun X hX => by first | rfl | go_simp) ?_
          (try simp only [Act.put, List.setIfInBounds_toArray, List.set_cons_zero, List.set_cons_succ])
          refine wpG_take _ (.int .i64 (((j + 1) : Nat) : Int)) rfl (by rfl) (fun X hX => by first | rfl | go_simp) ?_
          (try simp only [Act.put, List.setIfInBounds_toArray, List.set_cons_zero, List.set_cons_succ])
          refine wpG_take _ (.pointer (some ⟨g, (j + 1) * 2, none⟩)) rfl (by rfl) (fun X hX => c_iaH (k := (j + 1)) rfl rfl rfl ⟨by omega, hcap⟩) ?_
          (try simp only [Act.put, List.setIfInBounds_toArray, List.set_cons_zero, List.set_cons_succ])
          refine wpG_take _ (.pointer (some ⟨g, (j + 1) * 2 + 1, none⟩)) rfl (by rfl) (fun X hX => c_faH (a := (j + 1) * 2) (j := 1) (.inr rfl) rfl rfl) ?_
          (try simp only [Act.put, List.setIfInBounds_toArray, List.set_cons_zero, List.set_cons_succ])
          refine wpG_take _ (.slice spb 0 capb) rfl (by rfl) (fun X hX => c_ldB rfl rfl hX.2) ?_
          (try simp only [Act.put, List.setIfInBounds_toArray, List.set_cons_zero, List.set_cons_succ])
          refine wpG_take _ (.pointer (some ⟨D, 0, none⟩)) rfl (by rfl) (fun X hX => c_nc rfl rfl) ?_
          (try simp only [Act.put, List.setIfInBounds_toArray, List.set_cons_zero, List.set_cons_succ])
          refine wpG_take _ (.pointer (some ⟨D, 0, none⟩)) rfl (by rfl) (fun X hX => c_faS0 rfl rfl) ?_
          (try simp only [Act.put, List.setIfInBounds_toArray, List.set_cons_zero, List.set_cons_succ])
          refine cG_mk _ rfl (by rfl) (.slice sp1 0 cap1) w1 (c_appB rfl rfl rfl HR1.out) (fun X => X.cell? ⟨g, (j + 1) * 2, none⟩ = some (.int .u32 (o : Int)) ∧ X.cell? ⟨g, (j + 1) * 2 + 1, none⟩ = some (.slice spb 0 capb)) HX1.out (fun _ h => h) ?_
          (try simp only [Act.put, List.setIfInBounds_toArray, List.set_cons_zero, List.set_cons_succ])
          refine wpG_take _ (.pointer (some ⟨D, o, none⟩)) rfl (by rfl) (fun X hX => c_iaR rfl rfl rfl c64) ?_
          (try simp only [Act.put, List.setIfInBounds_toArray, List.set_cons_zero, List.set_cons_succ])
          refine cG_st _ rfl (by rfl) _ (c_stB rfl rfl rfl HC1.out HF1.out) (fun X => X.cell? ⟨g, (j + 1) * 2, none⟩ = some (.int .u32 (o : Int)) ∧ X.cell? ⟨g, (j + 1) * 2 + 1, none⟩ = some (.slice spb 0 capb)) HX2.out (fun _ h => h) ?_
          refine wpG_nil ?_
          clear r1 r2
          go_wp2_with fail
          go_roundw
          case rel => exact ⟨(j + 1) + 1, _, by omega, by go_num, HSS.out, HCC.out⟩
          case measure => simp [intOf]; omega
        · subst h5
          go_upto_region 4 with fail
          refine wp_region_sched (.take 0 (.take 1 (.take 2 (.take 3 (.take 4 (.take 5 (.take 6 (.take 7 (.take 8 (.take 9 (.take 10 (.take 11 (.take 12 (.take 13 (.take 14 (.take 15 (.take 16 (.take 17 (.take 18 (.take 19 (.take 20 (.take 21 (.take 22 (.take 23 (.take 24 (.take 25 (.take 26 (.take 27 (.take 28 (.take 29 (.take 30 (.take 31 (.take 32 (.take 33 (.take 34 (.take 35 (.take 36 (.take 37 (.take 38 (.take 39 (.take 40 (.take 41 (.nil))))))))))))))))))))))))))))))))))))))))))) (by kernel_rfl) (by kernel_rfl) (fun d _ _ _ _ h => by cases d <;> exact h) (fun X => X.cell? ⟨g, (j + 1) * 2, none⟩ = some (.int .u32 (o : Int)) ∧ X.cell? ⟨g, (j + 1) * 2 + 1, none⟩ = some (.slice spb 512 capb) ∧ X.cell? ⟨g, j * 2, none⟩ = some (.int .u32 (o' : Int))) ⟨r1, r2, r0⟩ ?_
          refine wpG_take _ (.slice (some ⟨g, 0, none⟩) n cap) rfl (by rfl) (fun X hX => by first | rfl | go_simp) ?_
          (try simp only [Act.put, List.setIfInBounds_toArray, List.set_cons_zero, List.set_cons_succ])
          refine wpG_take _ (.int .i64 (((j + 1) : Nat) : Int)) rfl (by rfl) (fun X hX => by first | rfl | go_simp) ?_
          (try simp only [Act.put, List.setIfInBounds_toArray, List.set_cons_zero, List.set_cons_succ])
          refine wpG_take _ (.pointer (some ⟨g, (j + 1) * 2, none⟩)) rfl (by rfl) (fun X hX => c_iaH (k := (j + 1)) rfl rfl rfl ⟨by omega, hcap⟩) ?_
          (try simp only [Act.put, List.setIfInBounds_toArray, List.set_cons_zero, List.set_cons_succ])
          refine wpG_take _ (.pointer (some ⟨g, (j + 1) * 2, none⟩)) rfl (by rfl) (fun X hX => c_faH (a := (j + 1) * 2) (j := 0) (.inl rfl) rfl rfl) ?_
          (try simp only [Act.put, List.setIfInBounds_toArray, List.set_cons_zero, List.set_cons_succ])
          refine wpG_take _ (.int .u32 (o : Int)) rfl (by rfl) (fun X hX => c_ldU rfl rfl hX.1) ?_
          (try simp only [Act.put, List.setIfInBounds_toArray, List.set_cons_zero, List.set_cons_succ])
          refine wpG_take _ (.bool false) rfl (by rfl) (fun X hX => c_geU rfl rfl rfl (by rw [decide_eq_false_iff_not]; exact e64)) ?_
          (try simp only [Act.put, List.setIfInBounds_toArray, List.set_cons_zero, List.set_cons_succ])
          refine wpG_take _ (.bool false) rfl (by rfl) (fun X hX => by first | rfl | go_simp) ?_
          (try simp only [Act.put, List.setIfInBounds_toArray, List.set_cons_zero, List.set_cons_succ])
          refine wpG_take _ (.int .i64 (((j + 1) : Nat) : Int)) rfl (by rfl) (fun X hX => by first | rfl | go_simp) ?_
          (try simp only [Act.put, List.setIfInBounds_toArray, List.set_cons_zero, List.set_cons_succ])
          refine wpG_take _ (.bool true) rfl (by rfl) (fun X hX => c_gtI rfl rfl rfl (by first | (rw [decide_eq_true_iff]; omega) | (rw [decide_eq_false_iff_not]; omega))) ?_
          (try simp only [Act.put, List.setIfInBounds_toArray, List.set_cons_zero, List.set_cons_succ])
          refine wpG_take _ (.bool true) rfl (by rfl) (fun X hX => by first | rfl | go_simp) ?_
          (try simp only [Act.put, List.setIfInBounds_toArray, List.set_cons_zero, List.set_cons_succ])
          refine wpG_take _ (.slice (some ⟨g, 0, none⟩) n cap) rfl (by rfl) (fun X hX => by first | rfl | go_simp) ?_
          (try simp only [Act.put, List.setIfInBounds_toArray, List.set_cons_zero, List.set_cons_succ])
          refine wpG_take _ (.int .i64 (((j + 1) : Nat) : Int)) rfl (by rfl) (fun X hX => by first | rfl | go_simp) ?_
          (try simp only [Act.put, List.setIfInBounds_toArray, List.set_cons_zero, List.set_cons_succ])
          refine wpG_take _ (.int .i64 (j : Int)) rfl (by rfl) (fun X hX => c_sub1 (j := j) rfl rfl rfl (by omega)) ?_
          (try simp only [Act.put, List.setIfInBounds_toArray, List.set_cons_zero, List.set_cons_succ])
          refine wpG_take _ (.pointer (some ⟨g, j * 2, none⟩)) rfl (by rfl) (fun X hX => c_iaH (k := j) rfl rfl rfl ⟨by omega, hcap⟩) ?_
          (try simp only [Act.put, List.setIfInBounds_toArray, List.set_cons_zero, List.set_cons_succ])
          refine wpG_take _ (.pointer (some ⟨g, j * 2, none⟩)) rfl (by rfl) (fun X hX => c_faH (a := j * 2) (j := 0) (.inl rfl) rfl rfl) ?_
          (try simp only [Act.put, List.setIfInBounds_toArray, List.set_cons_zero, List.set_cons_succ])
          refine wpG_take _ (.int .u32 (o' : Int)) rfl (by rfl) (fun X hX => c_ldU rfl rfl hX.2.2) ?_
          (try simp only [Act.put, List.setIfInBounds_toArray, List.set_cons_zero, List.set_cons_succ])
          refine wpG_take _ (.slice (some ⟨g, 0, none⟩) n cap) rfl (by rfl) (fun X hX => by first | rfl | go_simp) ?_
          (try simp only [Act.put, List.setIfInBounds_toArray, List.set_cons_zero, List.set_cons_succ])
          refine wpG_take _ (.int .i64 (((j + 1) : Nat) : Int)) rfl (by rfl) (fun X hX => by first | rfl | go_simp) ?_
          (try simp only [Act.put, List.setIfInBounds_toArray, List.set_cons_zero, List.set_cons_succ])
          refine wpG_take _ (.pointer (some ⟨g, (j + 1) * 2, none⟩)) rfl (by rfl) (fun X hX => c_iaH (k := (j + 1)) rfl rfl rfl ⟨by omega, hcap⟩) ?_
          (try simp only [Act.put, List.setIfInBounds_toArray, List.set_cons_zero, List.set_cons_succ])
          refine wpG_take _ (.pointer (some ⟨g, (j + 1) * 2, none⟩)) rfl (by rfl) (fun X hX => c_faH (a := (j + 1) * 2) (j := 0) (.inl rfl) rfl rfl) ?_
          (try simp only [Act.put, List.setIfInBounds_toArray, List.set_cons_zero, List.set_cons_succ])
          refine wpG_take _ (.int .u32 (o : Int)) rfl (by rfl) (fun X hX => c_ldU rfl rfl hX.1) ?_
          (try simp only [Act.put, List.setIfInBounds_toArray, List.set_cons_zero, List.set_cons_succ])
          refine wpG_take _ (.bool false) rfl (by rfl) (fun X hX => c_geU rfl rfl rfl (by rw [decide_eq_false_iff_not]; omega)) ?_
          (try simp only [Act.put, List.setIfInBounds_toArray, List.set_cons_zero, List.set_cons_succ])
          refine wpG_take _ (.bool false) rfl (by rfl) (fun X hX => by first | rfl | go_simp) ?_
          (try simp only [Act.put, List.setIfInBounds_toArray, List.set_cons_zero, List.set_cons_succ])
          refine wpG_take _ (.bool false) rfl (by rfl) (fun X hX => by first | rfl | go_simp) ?_
          (try simp only [Act.put, List.setIfInBounds_toArray, List.set_cons_zero, List.set_cons_succ])
          refine wpG_take _ (.bool false) rfl (by rfl) (fun X hX => by first | rfl | go_simp) ?_
          (try simp only [Act.put, List.setIfInBounds_toArray, List.set_cons_zero, List.set_cons_succ])
          refine wpG_take _ (.slice (some ⟨g, 0, none⟩) n cap) rfl (by rfl) (fun X hX => by first | rfl | go_simp) ?_
          (try simp only [Act.put, List.setIfInBounds_toArray, List.set_cons_zero, List.set_cons_succ])
          refine wpG_take _ (.int .i64 (((j + 1) : Nat) : Int)) rfl (by rfl) (fun X hX => by first | rfl | go_simp) ?_
          (try simp only [Act.put, List.setIfInBounds_toArray, List.set_cons_zero, List.set_cons_succ])
          refine wpG_take _ (.pointer (some ⟨g, (j + 1) * 2, none⟩)) rfl (by rfl) (fun X hX => c_iaH (k := (j + 1)) rfl rfl rfl ⟨by omega, hcap⟩) ?_
          (try simp only [Act.put, List.setIfInBounds_toArray, List.set_cons_zero, List.set_cons_succ])
          refine wpG_take _ (.pointer (some ⟨g, (j + 1) * 2 + 1, none⟩)) rfl (by rfl) (fun X hX => c_faH (a := (j + 1) * 2) (j := 1) (.inr rfl) rfl rfl) ?_
          (try simp only [Act.put, List.setIfInBounds_toArray, List.set_cons_zero, List.set_cons_succ])
          refine wpG_take _ (.slice spb 512 capb) rfl (by rfl) (fun X hX => c_ldB rfl rfl hX.2.1) ?_
          (try simp only [Act.put, List.setIfInBounds_toArray, List.set_cons_zero, List.set_cons_succ])
          refine wpG_take _ (.int .i64 512) rfl (by rfl) (fun X hX => by first | rfl | go_simp) ?_
          (try simp only [Act.put, List.setIfInBounds_toArray, List.set_cons_zero, List.set_cons_succ])
          refine wpG_take _ (.bool true) rfl (by rfl) (fun X hX => c_neI rfl rfl rfl (by decide)) ?_
          (try simp only [Act.put, List.setIfInBounds_toArray, List.set_cons_zero, List.set_cons_succ])
          refine wpG_take _ (.bool true) rfl (by rfl) (fun X hX => by first | rfl | go_simp) ?_
          (try simp only [Act.put, List.setIfInBounds_toArray, List.set_cons_zero, List.set_cons_succ])
          refine wpG_take _ (.slice (some ⟨g, 0, none⟩) n cap) rfl (by rfl) (fun X hX => by first | rfl | go_simp) ?_
          (try simp only [Act.put, List.setIfInBounds_toArray, List.set_cons_zero, List.set_cons_succ])
          refine wpG_take _ (.int .i64 (((j + 1) : Nat) : Int)) rfl (by rfl) (fun X hX => by first | rfl | go_simp) ?_
          (try simp only [Act.put, List.setIfInBounds_toArray, List.set_cons_zero, List.set_cons_succ])
          refine wpG_take _ (.pointer (some ⟨g, (j + 1) * 2, none⟩)) rfl (by rfl) (fun X hX => c_iaH (k := (j + 1)) rfl rfl rfl ⟨by omega, hcap⟩) ?_
          (try simp only [Act.put, List.setIfInBounds_toArray, List.set_cons_zero, List.set_cons_succ])
          refine wpG_take _ (.pointer (some ⟨g, (j + 1) * 2 + 1, none⟩)) rfl (by rfl) (fun X hX => c_faH (a := (j + 1) * 2) (j := 1) (.inr rfl) rfl rfl) ?_
          (try simp only [Act.put, List.setIfInBounds_toArray, List.set_cons_zero, List.set_cons_succ])
          refine wpG_take _ (.slice spb 512 capb) rfl (by rfl) (fun X hX => c_ldB rfl rfl hX.2.1) ?_
          (try simp only [Act.put, List.setIfInBounds_toArray, List.set_cons_zero, List.set_cons_succ])
          refine wpG_take _ (.int .i64 512) rfl (by rfl) (fun X hX => by first | rfl | go_simp) ?_
          (try simp only [Act.put, List.setIfInBounds_toArray, List.set_cons_zero, List.set_cons_succ])
          refine wpG_take _ (.bool false) rfl (by rfl) (fun X hX => c_neI rfl rfl rfl (by decide)) ?_
          (try simp only [Act.put, List.setIfInBounds_toArray, List.set_cons_zero, List.set_cons_succ])
          refine wpG_take _ (.bool false) rfl (by rfl) (fun X hX => by first | rfl | go_simp) ?_
          (try simp only [Act.put, List.setIfInBounds_toArray, List.set_cons_zero, List.set_cons_succ])
          refine wpG_take _ (.bool false) rfl (by rfl) (fun X hX => by first | rfl | go_simp) ?_
          (try simp only [Act.put, List.setIfInBounds_toArray, List.set_cons_zero, List.set_cons_succ])
          refine wpG_nil ?_
          go_upto_region 6 with fail
          have hs0 : ShW wr.drew.drew B D vs' (appC m (cs.take (j + 1))) bad av aq := HS.out.below ((Below.refl _ _).drew.drew)
          have hrow0 : OwnB wr.drew.drew 0 (.slice spb 512 capb) c.2 := HROW.out
          have hap := c_appNil (w := wr.drew.drew) (sp := spb) (cap := capb) (l := c.2) (by rw [HLN.out]; exact hrow0) (by rw [HLN.out]; omega) 24
          rw [HLN.out] at hap
          obtain ⟨sp1, cap1, w1, hr1, ho1, hb1⟩ := hap
          obtain ⟨h2s, h2c, ⟨_, hc1⟩, hf1⟩ := hs0.setRow hb1 c64 ho1
          rw [show o = c.1 from HO.out.symm, ← tk_step m HCK.out] at h2s
          have h2c : Chg (fun k => k = D) w _ := (HC.out.drew.drew).trans' h2c
          rw [show c.1 = o from HO.out] at h2s
          have hbx : ∀ q u, wr.drew.drew.cell? ⟨g, q, none⟩ = some u → w1.cell? ⟨g, q, none⟩ = some u ∧ (w1.setCell ⟨D, o, none⟩ (.slice sp1 512 cap1)).cell? ⟨g, q, none⟩ = some u := fun q u hq => by
            have hg1 : w1.cell? ⟨g, q, none⟩ = some u := by
              rw [hb1.cell (p := ⟨g, q, none⟩) HGL.out]; exact hq
            exact ⟨hg1, by rw [World.cell?_of_block (w := w1) (a := ⟨g, q, none⟩) ((chg1 w1 D o _).block g (Nat.lt_of_lt_of_le HGL.out hb1.size) HGD.out)]; exact hg1⟩
          have HX1 := Lib.hid (And.intro (hbx _ _ r1).1 (hbx _ _ r2).1)
          have HX2 := Lib.hid (And.intro (hbx _ _ r1).2 (hbx _ _ r2).2)
          have HR1 := Lib.hid hr1; have HC1 := Lib.hid hc1; have HF1 := Lib.hid hf1; have HSS := Lib.hid h2s; have HCC := Lib.hid h2c
          clear hs0 hrow0 ho1 hb1 hr1 hc1 hf1 h2s h2c hbx
          refine wp_region_sched (.take 0 (.take 1 (.take 2 (.take 3 (.take 4 (.take 5 (.take 6 (.take 7 (.take 8 (.take 9 (.take 10 (.take 12 (.take 13 (.step 11 (.take 14 (.step 15 (.nil))))))))))))))))) (by kernel_rfl) (by kernel_rfl) (fun d _ _ _ _ h => by cases d <;> exact h) (fun X => X.cell? ⟨g, (j + 1) * 2, none⟩ = some (.int .u32 (o : Int)) ∧ X.cell? ⟨g, (j + 1) * 2 + 1, none⟩ = some (.slice spb 512 capb)) ⟨r1, r2⟩ ?_
          refine wpG_take _ (.pointer (some ⟨D, 0, none⟩)) rfl (by rfl) (fun X hX => by first | rfl | go_simp) ?_
          (try simp only [Act.put, List.setIfInBounds_toArray, List.set_cons_zero, List.set_cons_succ])
          refine wpG_take _ (.slice (some ⟨g, 0, none⟩) n cap) rfl (by rfl) (fun X hX => by first | rfl | go_simp) ?_
          (try simp only [Act.put, List.setIfInBounds_toArray, List.set_cons_zero, List.set_cons_succ])
          refine wpG_take _ (.int .i64 (((j + 1) : Nat) : Int)) rfl (by rfl) (fun X hX => by first | rfl | go_simp) ?_
          (try simp only [Act.put, List.setIfInBounds_toArray, List.set_cons_zero, List.set_cons_succ])
          refine wpG_take _ (.pointer (some ⟨g, (j + 1) * 2, none⟩)) rfl (by rfl) (fun X hX => c_iaH (k := (j + 1)) rfl rfl rfl ⟨by omega, hcap⟩) ?_
          (try simp only [Act.put, List.setIfInBounds_toArray, List.set_cons_zero, List.set_cons_succ])
          refine wpG_take _ (.pointer (some ⟨g, (j + 1) * 2, none⟩)) rfl (by rfl) (fun X hX => c_faH (a := (j + 1) * 2) (j := 0) (.inl rfl) rfl rfl) ?_
          (try simp only [Act.put, List.setIfInBounds_toArray, List.set_cons_zero, List.set_cons_succ])
          refine wpG_take _ (.int .u32 (o : Int)) rfl (by rfl) (fun X hX => c_ldU rfl rfl hX.1) ?_
          (try simp only [Act.put, List.setIfInBounds_toArray, List.set_cons_zero, List.set_cons_succ])
          refine wpG_take _ (.slice (some ⟨g, 0, none⟩) n cap) rfl (by rfl) (fun X hX => by first | rfl | go_simp) ?_
          (try simp only [Act.put, List.setIfInBounds_toArray, List.set_cons_zero, List.set_cons_succ])
          refine wpG_take _ (.int .i64 (((j + 1) : Nat) : Int)) rfl (by rfl) (fun X hX => by first | rfl | go_simp) ?_
          (try simp only [Act.put, List.setIfInBounds_toArray, List.set_cons_zero, List.set_cons_succ])
          refine wpG_take _ (.pointer (some ⟨g, (j + 1) * 2, none⟩)) rfl (by rfl) (fun X hX => c_iaH (k := (j + 1)) rfl rfl rfl ⟨by omega, hcap⟩) ?_
          (try simp only [Act.put, List.setIfInBounds_toArray, List.set_cons_zero, List.set_cons_succ])
          refine wpG_take _ (.pointer (some ⟨g, (j + 1) * 2 + 1, none⟩)) rfl (by rfl) (fun X hX => c_faH (a := (j + 1) * 2) (j := 1) (.inr rfl) rfl rfl) ?_
          (try simp only [Act.put, List.setIfInBounds_toArray, List.set_cons_zero, List.set_cons_succ])
          refine wpG_take _ (.slice spb 512 capb) rfl (by rfl) (fun X hX => c_ldB rfl rfl hX.2) ?_
          (try simp only [Act.put, List.setIfInBounds_toArray, List.set_cons_zero, List.set_cons_succ])
          refine wpG_take _ (.pointer (some ⟨D, 0, none⟩)) rfl (by rfl) (fun X hX => c_nc rfl rfl) ?_
          (try simp only [Act.put, List.setIfInBounds_toArray, List.set_cons_zero, List.set_cons_succ])
          refine wpG_take _ (.pointer (some ⟨D, 0, none⟩)) rfl (by rfl) (fun X hX => c_faS0 rfl rfl) ?_
          (try simp only [Act.put, List.setIfInBounds_toArray, List.set_cons_zero, List.set_cons_succ])
          refine cG_mk _ rfl (by rfl) (.slice sp1 512 cap1) w1 (c_appB rfl rfl rfl HR1.out) (fun X => X.cell? ⟨g, (j + 1) * 2, none⟩ = some (.int .u32 (o : Int)) ∧ X.cell? ⟨g, (j + 1) * 2 + 1, none⟩ = some (.slice spb 512 capb)) HX1.out (fun _ h => h) ?_
          (try simp only [Act.put, List.setIfInBounds_toArray, List.set_cons_zero, List.set_cons_succ])
          refine wpG_take _ (.pointer (some ⟨D, o, none⟩)) rfl (by rfl) (fun X hX => c_iaR rfl rfl rfl c64) ?_
          (try simp only [Act.put, List.setIfInBounds_toArray, List.set_cons_zero, List.set_cons_succ])
          refine cG_st _ rfl (by rfl) _ (c_stB rfl rfl rfl HC1.out HF1.out) (fun X => X.cell? ⟨g, (j + 1) * 2, none⟩ = some (.int .u32 (o : Int)) ∧ X.cell? ⟨g, (j + 1) * 2 + 1, none⟩ = some (.slice spb 512 capb)) HX2.out (fun _ h => h) ?_
          refine wpG_nil ?_
          clear r1 r2
          go_wp2_with fail
          go_roundw
          case rel => exact ⟨(j + 1) + 1, _, by omega, by go_num, HSS.out, HCC.out⟩
          case measure => simp [intOf]; omega
      · subst h0
        clear hprev
        rcases c512 with h5 | h5
        · subst h5
          go_upto_region 4 with fail
          refine wp_region_sched (.take 0 (.take 1 (.take 2 (.take 3 (.take 4 (.take 5 (.take 6 (.take 7 (.take 8 (.take 9 (.take 10 (.take 11 (.take 12 (.take 13 (.take 14 (.take 15 (.take 16 (.take 17 (.take 18 (.take 19 (.take 20 (.take 21 (.take 22 (.take 23 (.take 24 (.take 25 (.take 26 (.take 27 (.take 28 (.take 29 (.take 30 (.take 31 (.take 32 (.take 33 (.take 34 (.take 35 (.take 36 (.take 37 (.take 38 (.take 39 (.take 40 (.take 41 (.nil))))))))))))))))))))))))))))))))))))))))))) (by kernel_rfl) (by kernel_rfl) (fun d _ _ _ _ h => by cases d <;> exact h) (fun X => X.cell? ⟨g, 0 * 2, none⟩ = some (.int .u32 (o : Int)) ∧ X.cell? ⟨g, 0 * 2 + 1, none⟩ = some (.slice spb 0 capb) ∧ True) ⟨r1, r2, trivial⟩ ?_
          refine wpG_take _ (.slice (some ⟨g, 0, none⟩) n cap) rfl (by rfl) (fun X hX => by first | rfl | go_simp) ?_
          (try simp only [Act.put, List.setIfInBounds_toArray, List.set_cons_zero, List.set_cons_succ])
          refine wpG_take _ (.int .i64 ((0 : Nat) : Int)) rfl (by rfl) (fun X hX => by first | rfl | go_simp) ?_
          (try simp only [Act.put, List.setIfInBounds_toArray, List.set_cons_zero, List.set_cons_succ])
          refine wpG_take _ (.pointer (some ⟨g, 0 * 2, none⟩)) rfl (by rfl) (fun X hX => c_iaH (k := 0) rfl rfl rfl ⟨by omega, hcap⟩) ?_
          (try simp only [Act.put, List.setIfInBounds_toArray, List.set_cons_zero, List.set_cons_succ])
          refine wpG_take _ (.pointer (some ⟨g, 0 * 2, none⟩)) rfl (by rfl) (fun X hX => c_faH (a := 0 * 2) (j := 0) (.inl rfl) rfl rfl) ?_
          (try simp only [Act.put, List.setIfInBounds_toArray, List.set_cons_zero, List.set_cons_succ])
          refine wpG_take _ (.int .u32 (o : Int)) rfl (by rfl) (fun X hX => c_ldU rfl rfl hX.1) ?_
          (try simp only [Act.put, List.setIfInBounds_toArray, List.set_cons_zero, List.set_cons_succ])
          refine wpG_take _ (.bool false) rfl (by rfl) (fun X hX => c_geU rfl rfl rfl (by rw [decide_eq_false_iff_not]; exact e64)) ?_
          (try simp only [Act.put, List.setIfInBounds_toArray, List.set_cons_zero, List.set_cons_succ])
          refine wpG_take _ (.bool false) rfl (by rfl) (fun X hX => by first | rfl | go_simp) ?_
          (try simp only [Act.put, List.setIfInBounds_toArray, List.set_cons_zero, List.set_cons_succ])
          refine wpG_take _ (.int .i64 ((0 : Nat) : Int)) rfl (by rfl) (fun X hX => by first | rfl | go_simp) ?_
          (try simp only [Act.put, List.setIfInBounds_toArray, List.set_cons_zero, List.set_cons_succ])
          refine wpG_take _ (.bool false) rfl (by rfl) (fun X hX => c_gtI rfl rfl rfl (by first | (rw [decide_eq_true_iff]; omega) | (rw [decide_eq_false_iff_not]; omega))) ?_
          (try simp only [Act.put, List.setIfInBounds_toArray, List.set_cons_zero, List.set_cons_succ])
          refine wpG_take _ (.bool false) rfl (by rfl) (fun X hX => by first | rfl | go_simp) ?_
          (try simp only [Act.put, List.setIfInBounds_toArray, List.set_cons_zero, List.set_cons_succ])
          refine wpG_pass _ rfl (by rfl) ?_
          (try simp only [Act.put, List.setIfInBounds_toArray, List.set_cons_zero, List.set_cons_succ])
          refine wpG_pass _ rfl (by rfl) ?_
          (try simp only [Act.put, List.setIfInBounds_toArray, List.set_cons_zero, List.set_cons_succ])
          refine wpG_pass _ rfl (by rfl) ?_
          (try simp only [Act.put, List.setIfInBounds_toArray, List.set_cons_zero, List.set_cons_succ])
          refine wpG_pass _ rfl (by rfl) ?_
          (try simp only [Act.put, List.setIfInBounds_toArray, List.set_cons_zero, List.set_cons_succ])
          refine wpG_pass _ rfl (by rfl) ?_
          (try simp only [Act.put, List.setIfInBounds_toArray, List.set_cons_zero, List.set_cons_succ])
          refine wpG_pass _ rfl (by rfl) ?_
          (try simp only [Act.put, List.setIfInBounds_toArray, List.set_cons_zero, List.set_cons_succ])
          refine wpG_pass _ rfl (by rfl) ?_
          (try simp only [Act.put, List.setIfInBounds_toArray, List.set_cons_zero, List.set_cons_succ])
          refine wpG_pass _ rfl (by rfl) ?_
          (try simp only [Act.put, List.setIfInBounds_toArray, List.set_cons_zero, List.set_cons_succ])
          refine wpG_pass _ rfl (by rfl) ?_
          (try simp only [Act.put, List.setIfInBounds_toArray, List.set_cons_zero, List.set_cons_succ])
          refine wpG_pass _ rfl (by rfl) ?_
          (try simp only [Act.put, List.setIfInBounds_toArray, List.set_cons_zero, List.set_cons_succ])
          refine wpG_pass _ rfl (by rfl) ?_
          (try simp only [Act.put, List.setIfInBounds_toArray, List.set_cons_zero, List.set_cons_succ])
          refine wpG_pass _ rfl (by rfl) ?_
          (try simp only [Act.put, List.setIfInBounds_toArray, List.set_cons_zero, List.set_cons_succ])
          refine wpG_take _ (.bool false) rfl (by rfl) (fun X hX => by first | rfl | go_simp) ?_
          (try simp only [Act.put, List.setIfInBounds_toArray, List.set_cons_zero, List.set_cons_succ])
          refine wpG_take _ (.bool false) rfl (by rfl) (fun X hX => by first | rfl | go_simp) ?_
          (try simp only [Act.put, List.setIfInBounds_toArray, List.set_cons_zero, List.set_cons_succ])
          refine wpG_take _ (.bool false) rfl (by rfl) (fun X hX => by first | rfl | go_simp) ?_
          (try simp only [Act.put, List.setIfInBounds_toArray, List.set_cons_zero, List.set_cons_succ])
          refine wpG_take _ (.slice (some ⟨g, 0, none⟩) n cap) rfl (by rfl) (fun X hX => by first | rfl | go_simp) ?_
          (try simp only [Act.put, List.setIfInBounds_toArray, List.set_cons_zero, List.set_cons_succ])
          refine wpG_take _ (.int .i64 ((0 : Nat) : Int)) rfl (by rfl) (fun X hX => by first | rfl | go_simp) ?_
          (try simp only [Act.put, List.setIfInBounds_toArray, List.set_cons_zero, List.set_cons_succ])
          refine wpG_take _ (.pointer (some ⟨g, 0 * 2, none⟩)) rfl (by rfl) (fun X hX => c_iaH (k := 0) rfl rfl rfl ⟨by omega, hcap⟩) ?_
          (try simp only [Act.put, List.setIfInBounds_toArray, List.set_cons_zero, List.set_cons_succ])
          refine wpG_take _ (.pointer (some ⟨g, 0 * 2 + 1, none⟩)) rfl (by rfl) (fun X hX => c_faH (a := 0 * 2) (j := 1) (.inr rfl) rfl rfl) ?_
          (try simp only [Act.put, List.setIfInBounds_toArray, List.set_cons_zero, List.set_cons_succ])
          refine wpG_take _ (.slice spb 0 capb) rfl (by rfl) (fun X hX => c_ldB rfl rfl hX.2.1) ?_
          (try simp only [Act.put, List.setIfInBounds_toArray, List.set_cons_zero, List.set_cons_succ])
          refine wpG_take _ (.int .i64 0) rfl (by rfl) (fun X hX => by first | rfl | go_simp) ?_
          (try simp only [Act.put, List.setIfInBounds_toArray, List.set_cons_zero, List.set_cons_succ])
          refine wpG_take _ (.bool false) rfl (by rfl) (fun X hX => c_neI rfl rfl rfl (by decide)) ?_
          (try simp only [Act.put, List.setIfInBounds_toArray, List.set_cons_zero, List.set_cons_succ])
          refine wpG_take _ (.bool false) rfl (by rfl) (fun X hX => by first | rfl | go_simp) ?_
          (try simp only [Act.put, List.setIfInBounds_toArray, List.set_cons_zero, List.set_cons_succ])
          refine wpG_pass _ rfl (by rfl) ?_
          (try simp only [Act.put, List.setIfInBounds_toArray, List.set_cons_zero, List.set_cons_succ])
          refine wpG_pass _ rfl (by rfl) ?_
          (try simp only [Act.put, List.setIfInBounds_toArray, List.set_cons_zero, List.set_cons_succ])
          refine wpG_pass _ rfl (by rfl) ?_
          (try simp only [Act.put, List.setIfInBounds_toArray, List.set_cons_zero, List.set_cons_succ])
          refine wpG_pass _ rfl (by rfl) ?_
          (try simp only [Act.put, List.setIfInBounds_toArray, List.set_cons_zero, List.set_cons_succ])
          refine wpG_pass _ rfl (by rfl) ?_
          (try simp only [Act.put, List.setIfInBounds_toArray, List.set_cons_zero, List.set_cons_succ])
          refine wpG_pass _ rfl (by rfl) ?_
          (try simp only [Act.put, List.setIfInBounds_toArray, List.set_cons_zero, List.set_cons_succ])
          refine wpG_pass _ rfl (by rfl) ?_
          (try simp only [Act.put, List.setIfInBounds_toArray, List.set_cons_zero, List.set_cons_succ])
          refine wpG_take _ (.bool false) rfl (by rfl) (fun X hX => by first | rfl | go_simp) ?_
          (try simp only [Act.put, List.setIfInBounds_toArray, List.set_cons_zero, List.set_cons_succ])
          refine wpG_take _ (.bool false) rfl (by rfl) (fun X hX => by first | rfl | go_simp) ?_
          (try simp only [Act.put, List.setIfInBounds_toArray, List.set_cons_zero, List.set_cons_succ])
          refine wpG_nil ?_
          go_upto_region 6 with fail
          have hs0 : ShW wr.drew.drew B D vs' (appC m (cs.take 0)) bad av aq := HS.out.below ((Below.refl _ _).drew.drew)
          have hrow0 : OwnB wr.drew.drew 0 (.slice spb 0 capb) c.2 := HROW.out
          have hap := c_appNil (w := wr.drew.drew) (sp := spb) (cap := capb) (l := c.2) (by rw [HLN.out]; exact hrow0) (by rw [HLN.out]; omega) 24
          rw [HLN.out] at hap
          obtain ⟨sp1, cap1, w1, hr1, ho1, hb1⟩ := hap
          obtain ⟨h2s, h2c, ⟨_, hc1⟩, hf1⟩ := hs0.setRow hb1 c64 ho1
          rw [show o = c.1 from HO.out.symm, ← tk_step m HCK.out] at h2s
          have h2c : Chg (fun k => k = D) w _ := (HC.out.drew.drew).trans' h2c
          rw [show c.1 = o from HO.out] at h2s
          have hbx : ∀ q u, wr.drew.drew.cell? ⟨g, q, none⟩ = some u → w1.cell? ⟨g, q, none⟩ = some u ∧ (w1.setCell ⟨D, o, none⟩ (.slice sp1 0 cap1)).cell? ⟨g, q, none⟩ = some u := fun q u hq => by
            have hg1 : w1.cell? ⟨g, q, none⟩ = some u := by
              rw [hb1.cell (p := ⟨g, q, none⟩) HGL.out]; exact hq
            exact ⟨hg1, by rw [World.cell?_of_block (w := w1) (a := ⟨g, q, none⟩) ((chg1 w1 D o _).block g (Nat.lt_of_lt_of_le HGL.out hb1.size) HGD.out)]; exact hg1⟩
          have HX1 := Lib.hid (And.intro (hbx _ _ r1).1 (hbx _ _ r2).1)
          have HX2 := Lib.hid (And.intro (hbx _ _ r1).2 (hbx _ _ r2).2)
          have HR1 := Lib.hid hr1; have HC1 := Lib.hid hc1; have HF1 := Lib.hid hf1; have HSS := Lib.hid h2s; have HCC := Lib.hid h2c
          clear hs0 hrow0 ho1 hb1 hr1 hc1 hf1 h2s h2c hbx
          refine wp_region_sched (.take 0 (.take 1 (.take 2 (.take 3 (.take 4 (.take 5 (.take 6 (.take 7 (.take 8 (.take 9 (.take 10 (.take 12 (.take 13 (.step 11 (.take 14 (.step 15 (.nil))))))))))))))))) (by kernel_rfl) (by kernel_rfl) (fun d _ _ _ _ h => by cases d <;> exact h) (fun X => X.cell? ⟨g, 0 * 2, none⟩ = some (.int .u32 (o : Int)) ∧ X.cell? ⟨g, 0 * 2 + 1, none⟩ = some (.slice spb 0 capb)) ⟨r1, r2⟩ ?_
          refine wpG_take _ (.pointer (some ⟨D, 0, none⟩)) rfl (by rfl) (fun X hX => by first | rfl | go_simp) ?_
          (try simp only [Act.put, List.setIfInBounds_toArray, List.set_cons_zero, List.set_cons_succ])
          refine wpG_take _ (.slice (some ⟨g, 0, none⟩) n cap) rfl (by rfl) (fun X hX => by first | rfl | go_simp) ?_
          (try simp only [Act.put, List.setIfInBounds_toArray, List.set_cons_zero, List.set_cons_succ])
          refine wpG_take _ (.int .i64 ((0 : Nat) : Int)) rfl (by rfl) (fun X hX => by first | rfl | go_simp) ?_
          (try simp only [Act.put, List.setIfInBounds_toArray, List.set_cons_zero, List.set_cons_succ])
          refine wpG_take _ (.pointer (some ⟨g, 0 * 2, none⟩)) rfl (by rfl) (fun X hX => c_iaH (k := 0) rfl rfl rfl ⟨by omega, hcap⟩) ?_
          (try simp only [Act.put, List.setIfInBounds_toArray, List.set_cons_zero, List.set_cons_succ])
          refine wpG_take _ (.pointer (some ⟨g, 0 * 2, none⟩)) rfl (by rfl) (fun X hX => c_faH (a := 0 * 2) (j := 0) (.inl rfl) rfl rfl) ?_
          (try simp only [Act.put, List.setIfInBounds_toArray, List.set_cons_zero, List.set_cons_succ])
          refine wpG_take _ (.int .u32 (o : Int)) rfl (by rfl) (fun X hX => c_ldU rfl rfl hX.1) ?_
          (try simp only [Act.put, List.setIfInBounds_toArray, List.set_cons_zero, List.set_cons_succ])
          refine wpG_take _ (.slice (some ⟨g, 0, none⟩) n cap) rfl (by rfl) (fun X hX => by first | rfl | go_simp) ?_
          (try simp only [Act.put, List.setIfInBounds_toArray, List.set_cons_zero, List.set_cons_succ])
          refine wpG_take _ (.int .i64 ((0 : Nat) : Int)) rfl (by rfl) (fun X hX => by first | rfl | go_simp) ?_
          (try simp only [Act.put, List.setIfInBounds_toArray, List.set_cons_zero, List.set_cons_succ])
          refine wpG_take _ (.pointer (some ⟨g, 0 * 2, none⟩)) rfl (by rfl) (fun X hX => c_iaH (k := 0) rfl rfl rfl ⟨by omega, hcap⟩) ?_
          (try simp only [Act.put, List.setIfInBounds_toArray, List.set_cons_zero, List.set_cons_succ])
          refine wpG_take _ (.pointer (some ⟨g, 0 * 2 + 1, none⟩)) rfl (by rfl) (fun X hX => c_faH (a := 0 * 2) (j := 1) (.inr rfl) rfl rfl) ?_
          (try simp only [Act.put, List.setIfInBounds_toArray, List.set_cons_zero, List.set_cons_succ])
          refine wpG_take _ (.slice spb 0 capb) rfl (by rfl) (fun X hX => c_ldB rfl rfl hX.2) ?_
          (try simp only [Act.put, List.setIfInBounds_toArray, List.set_cons_zero, List.set_cons_succ])
          refine wpG_take _ (.pointer (some ⟨D, 0, none⟩)) rfl (by rfl) (fun X hX => c_nc rfl rfl) ?_
          (try simp only [Act.put, List.setIfInBounds_toArray, List.set_cons_zero, List.set_cons_succ])
          refine wpG_take _ (.pointer (some ⟨D, 0, none⟩)) rfl (by rfl) (fun X hX => c_faS0 rfl rfl) ?_
          (try simp only [Act.put, List.setIfInBounds_toArray, List.set_cons_zero, List.set_cons_succ])
          refine cG_mk _ rfl (by rfl) (.slice sp1 0 cap1) w1 (c_appB rfl rfl rfl HR1.out) (fun X => X.cell? ⟨g, 0 * 2, none⟩ = some (.int .u32 (o : Int)) ∧ X.cell? ⟨g, 0 * 2 + 1, none⟩ = some (.slice spb 0 capb)) HX1.out (fun _ h => h) ?_
          (try simp only [Act.put, List.setIfInBounds_toArray, List.set_cons_zero, List.set_cons_succ])
          refine wpG_take _ (.pointer (some ⟨D, o, none⟩)) rfl (by rfl) (fun X hX => c_iaR rfl rfl rfl c64) ?_
          (try simp only [Act.put, List.setIfInBounds_toArray, List.set_cons_zero, List.set_cons_succ])
          refine cG_st _ rfl (by rfl) _ (c_stB rfl rfl rfl HC1.out HF1.out) (fun X => X.cell? ⟨g, 0 * 2, none⟩ = some (.int .u32 (o : Int)) ∧ X.cell? ⟨g, 0 * 2 + 1, none⟩ = some (.slice spb 0 capb)) HX2.out (fun _ h => h) ?_
          refine wpG_nil ?_
          clear r1 r2
          go_wp2_with fail
          go_roundw
          case rel => exact ⟨0 + 1, _, by omega, by go_num, HSS.out, HCC.out⟩
          case measure => simp [intOf]; omega
        · subst h5
          go_upto_region 4 with fail
          refine wp_region_sched (.take 0 (.take 1 (.take 2 (.take 3 (.take 4 (.take 5 (.take 6 (.take 7 (.take 8 (.take 9 (.take 10 (.take 11 (.take 12 (.take 13 (.take 14 (.take 15 (.take 16 (.take 17 (.take 18 (.take 19 (.take 20 (.take 21 (.take 22 (.take 23 (.take 24 (.take 25 (.take 26 (.take 27 (.take 28 (.take 29 (.take 30 (.take 31 (.take 32 (.take 33 (.take 34 (.take 35 (.take 36 (.take 37 (.take 38 (.take 39 (.take 40 (.take 41 (.nil))))))))))))))))))))))))))))))))))))))))))) (by kernel_rfl) (by kernel_rfl) (fun d _ _ _ _ h => by cases d <;> exact h) (fun X => X.cell? ⟨g, 0 * 2, none⟩ = some (.int .u32 (o : Int)) ∧ X.cell? ⟨g, 0 * 2 + 1, none⟩ = some (.slice spb 512 capb) ∧ True) ⟨r1, r2, trivial⟩ ?_
          refine wpG_take _ (.slice (some ⟨g, 0, none⟩) n cap) rfl (by rfl) (fun X hX => by first | rfl | go_simp) ?_
          (try simp only [Act.put, List.setIfInBounds_toArray, List.set_cons_zero, List.set_cons_succ])
          refine wpG_take _ (.int .i64 ((0 : Nat) : Int)) rfl (by rfl) (fun X hX => by first | rfl | go_simp) ?_
          (try simp only [Act.put, List.setIfInBounds_toArray, List.set_cons_zero, List.set_cons_succ])
          refine wpG_take _ (.pointer (some ⟨g, 0 * 2, none⟩)) rfl (by rfl) (fun X hX => c_iaH (k := 0) rfl rfl rfl ⟨by omega, hcap⟩) ?_
          (try simp only [Act.put, List.setIfInBounds_toArray, List.set_cons_zero, List.set_cons_succ])
          refine wpG_take _ (.pointer (some ⟨g, 0 * 2, none⟩)) rfl (by rfl) (fun X hX => c_faH (a := 0 * 2) (j := 0) (.inl rfl) rfl rfl) ?_
          (try simp only [Act.put, List.setIfInBounds_toArray, List.set_cons_zero, List.set_cons_succ])
          refine wpG_take _ (.int .u32 (o : Int)) rfl (by rfl) (fun X hX => c_ldU rfl rfl hX.1) ?_
          (try simp only [Act.put, List.setIfInBounds_toArray, List.set_cons_zero, List.set_cons_succ])
          refine wpG_take _ (.bool false) rfl (by rfl) (fun X hX => c_geU rfl rfl rfl (by rw [decide_eq_false_iff_not]; exact e64)) ?_
          (try simp only [Act.put, List.setIfInBounds_toArray, List.set_cons_zero, List.set_cons_succ])
          refine wpG_take _ (.bool false) rfl (by rfl) (fun X hX => by first | rfl | go_simp) ?_
          (try simp only [Act.put, List.setIfInBounds_toArray, List.set_cons_zero, List.set_cons_succ])
          refine wpG_take _ (.int .i64 ((0 : Nat) : Int)) rfl (by rfl) (fun X hX => by first | rfl | go_simp) ?_
          (try simp only [Act.put, List.setIfInBounds_toArray, List.set_cons_zero, List.set_cons_succ])
          refine wpG_take _ (.bool false) rfl (by rfl) (fun X hX => c_gtI rfl rfl rfl (by first | (rw [decide_eq_true_iff]; omega) | (rw [decide_eq_false_iff_not]; omega))) ?_
          (try simp only [Act.put, List.setIfInBounds_toArray, List.set_cons_zero, List.set_cons_succ])
          refine wpG_take _ (.bool false) rfl (by rfl) (fun X hX => by first | rfl | go_simp) ?_
          (try simp only [Act.put, List.setIfInBounds_toArray, List.set_cons_zero, List.set_cons_succ])
          refine wpG_pass _ rfl (by rfl) ?_
          (try simp only [Act.put, List.setIfInBounds_toArray, List.set_cons_zero, List.set_cons_succ])
          refine wpG_pass _ rfl (by rfl) ?_
          (try simp only [Act.put, List.setIfInBounds_toArray, List.set_cons_zero, List.set_cons_succ])
          refine wpG_pass _ rfl (by rfl) ?_
          (try simp only [Act.put, List.setIfInBounds_toArray, List.set_cons_zero, List.set_cons_succ])
          refine wpG_pass _ rfl (by rfl) ?_
          (try simp only [Act.put, List.setIfInBounds_toArray, List.set_cons_zero, List.set_cons_succ])
          refine wpG_pass _ rfl (by rfl) ?_
          (try simp only [Act.put, List.setIfInBounds_toArray, List.set_cons_zero, List.set_cons_succ])
          refine wpG_pass _ rfl (by rfl) ?_
          (try simp only [Act.put, List.setIfInBounds_toArray, List.set_cons_zero, List.set_cons_succ])
          refine wpG_pass _ rfl (by rfl) ?_
          (try simp only [Act.put, List.setIfInBounds_toArray, List.set_cons_zero, List.set_cons_succ])
          refine wpG_pass _ rfl (by rfl) ?_
          (try simp only [Act.put, List.setIfInBounds_toArray, List.set_cons_zero, List.set_cons_succ])
          refine wpG_pass _ rfl (by rfl) ?_
          (try simp only [Act.put, List.setIfInBounds_toArray, List.set_cons_zero, List.set_cons_succ])
          refine wpG_pass _ rfl (by rfl) ?_
          (try simp only [Act.put, List.setIfInBounds_toArray, List.set_cons_zero, List.set_cons_succ])
          refine wpG_pass _ rfl (by rfl) ?_
          (try simp only [Act.put, List.setIfInBounds_toArray, List.set_cons_zero, List.set_cons_succ])
          refine wpG_pass _ rfl (by rfl) ?_
          (try simp only [Act.put, List.setIfInBounds_toArray, List.set_cons_zero, List.set_cons_succ])
          refine wpG_take _ (.bool false) rfl (by rfl) (fun X hX => by first | rfl | go_simp) ?_
          (try simp only [Act.put, List.setIfInBounds_toArray, List.set_cons_zero, List.set_cons_succ])
          refine wpG_take _ (.bool false) rfl (by rfl) (fun X hX => by first | rfl | go_simp) ?_
          (try simp only [Act.put, List.setIfInBounds_toArray, List.set_cons_zero, List.set_cons_succ])
          refine wpG_take _ (.bool false) rfl (by rfl) (fun X hX => by first | rfl | go_simp) ?_
          (try simp only [Act.put, List.setIfInBounds_toArray, List.set_cons_zero, List.set_cons_succ])
          refine wpG_take _ (.slice (some ⟨g, 0, none⟩) n cap) rfl (by rfl) (fun X hX => by first | rfl | go_simp) ?_
          (try simp only [Act.put, List.setIfInBounds_toArray, List.set_cons_zero, List.set_cons_succ])
          refine wpG_take _ (.int .i64 ((0 : Nat) : Int)) rfl (by rfl) (fun X hX => by first | rfl | go_simp) ?_
          (try simp only [Act.put, List.setIfInBounds_toArray, List.set_cons_zero, List.set_cons_succ])
          refine wpG_take _ (.pointer (some ⟨g, 0 * 2, none⟩)) rfl (by rfl) (fun X hX => c_iaH (k := 0) rfl rfl rfl ⟨by omega, hcap⟩) ?_
          (try simp only [Act.put, List.setIfInBounds_toArray, List.set_cons_zero, List.set_cons_succ])
          refine wpG_take _ (.pointer (some ⟨g, 0 * 2 + 1, none⟩)) rfl (by rfl) (fun X hX => c_faH (a := 0 * 2) (j := 1) (.inr rfl) rfl rfl) ?_
          (try simp only [Act.put, List.setIfInBounds_toArray, List.set_cons_zero, List.set_cons_succ])
          refine wpG_take _ (.slice spb 512 capb) rfl (by rfl) (fun X hX => c_ldB rfl rfl hX.2.1) ?_
          (try simp only [Act.put, List.setIfInBounds_toArray, List.set_cons_zero, List.set_cons_succ])
          refine wpG_take _ (.int .i64 512) rfl (by rfl) (fun X hX => by first | rfl | go_simp) ?_
          (try simp only [Act.put, List.setIfInBounds_toArray, List.set_cons_zero, List.set_cons_succ])
          refine wpG_take _ (.bool true) rfl (by rfl) (fun X hX => c_neI rfl rfl rfl (by decide)) ?_
          (try simp only [Act.put, List.setIfInBounds_toArray, List.set_cons_zero, List.set_cons_succ])
          refine wpG_take _ (.bool true) rfl (by rfl) (fun X hX => by first | rfl | go_simp) ?_
          (try simp only [Act.put, List.setIfInBounds_toArray, List.set_cons_zero, List.set_cons_succ])
          refine wpG_take _ (.slice (some ⟨g, 0, none⟩) n cap) rfl (by rfl) (fun X hX => by first | rfl | go_simp) ?_
          (try simp only [Act.put, List.setIfInBounds_toArray, List.set_cons_zero, List.set_cons_succ])
          refine wpG_take _ (.int .i64 ((0 : Nat) : Int)) rfl (by rfl) (fun X hX => by first | rfl | go_simp) ?_
          (try simp only [Act.put, List.setIfInBounds_toArray, List.set_cons_zero, List.set_cons_succ])
          refine wpG_take _ (.pointer (some ⟨g, 0 * 2, none⟩)) rfl (by rfl) (fun X hX => c_iaH (k := 0) rfl rfl rfl ⟨by omega, hcap⟩) ?_
          (try simp only [Act.put, List.setIfInBounds_toArray, List.set_cons_zero, List.set_cons_succ])
          refine wpG_take _ (.pointer (some ⟨g, 0 * 2 + 1, none⟩)) rfl (by rfl) (fun X hX => c_faH (a := 0 * 2) (j := 1) (.inr rfl) rfl rfl) ?_
          (try simp only [Act.put, List.setIfInBounds_toArray, List.set_cons_zero, List.set_cons_succ])
          refine wpG_take _ (.slice spb 512 capb) rfl (by rfl) (fun X hX => c_ldB rfl rfl hX.2.1) ?_
          (try simp only [Act.put, List.setIfInBounds_toArray, List.set_cons_zero, List.set_cons_succ])
          refine wpG_take _ (.int .i64 512) rfl (by rfl) (fun X hX => by first | rfl | go_simp) ?_
          (try simp only [Act.put, List.setIfInBounds_toArray, List.set_cons_zero, List.set_cons_succ])
          refine wpG_take _ (.bool false) rfl (by rfl) (fun X hX => c_neI rfl rfl rfl (by decide)) ?_
          (try simp only [Act.put, List.setIfInBounds_toArray, List.set_cons_zero, List.set_cons_succ])
          refine wpG_take _ (.bool false) rfl (by rfl) (fun X hX => by first | rfl | go_simp) ?_
          (try simp only [Act.put, List.setIfInBounds_toArray, List.set_cons_zero, List.set_cons_succ])
          refine wpG_take _ (.bool false) rfl (by rfl) (fun X hX => by first | rfl | go_simp) ?_
          (try simp only [Act.put, List.setIfInBounds_toArray, List.set_cons_zero, List.set_cons_succ])
          refine wpG_nil ?_
          go_upto_region 6 with fail
          have hs0 : ShW wr.drew.drew B D vs' (appC m (cs.take 0)) bad av aq := HS.out.below ((Below.refl _ _).drew.drew)
          have hrow0 : OwnB wr.drew.drew 0 (.slice spb 512 capb) c.2 := HROW.out
          have hap := c_appNil (w := wr.drew.drew) (sp := spb) (cap := capb) (l := c.2) (by rw [HLN.out]; exact hrow0) (by rw [HLN.out]; omega) 24
          rw [HLN.out] at hap
          obtain ⟨sp1, cap1, w1, hr1, ho1, hb1⟩ := hap
          obtain ⟨h2s, h2c, ⟨_, hc1⟩, hf1⟩ := hs0.setRow hb1 c64 ho1
          rw [show o = c.1 from HO.out.symm, ← tk_step m HCK.out] at h2s
          have h2c : Chg (fun k => k = D) w _ := (HC.out.drew.drew).trans' h2c
          rw [show c.1 = o from HO.out] at h2s
          have hbx : ∀ q u, wr.drew.drew.cell? ⟨g, q, none⟩ = some u → w1.cell? ⟨g, q, none⟩ = some u ∧ (w1.setCell ⟨D, o, none⟩ (.slice sp1 512 cap1)).cell? ⟨g, q, none⟩ = some u := fun q u hq => by
            have hg1 : w1.cell? ⟨g, q, none⟩ = some u := by
              rw [hb1.cell (p := ⟨g, q, none⟩) HGL.out]; exact hq
            exact ⟨hg1, by rw [World.cell?_of_block (w := w1) (a := ⟨g, q, none⟩) ((chg1 w1 D o _).block g (Nat.lt_of_lt_of_le HGL.out hb1.size) HGD.out)]; exact hg1⟩
          have HX1 := Lib.hid (And.intro (hbx _ _ r1).1 (hbx _ _ r2).1)
          have HX2 := Lib.hid (And.intro (hbx _ _ r1).2 (hbx _ _ r2).2)
          have HR1 := Lib.hid hr1; have HC1 := Lib.hid hc1; have HF1 := Lib.hid hf1; have HSS := Lib.hid h2s; have HCC := Lib.hid h2c
          clear hs0 hrow0 ho1 hb1 hr1 hc1 hf1 h2s h2c hbx
          refine wp_region_sched (.take 0 (.take 1 (.take 2 (.take 3 (.take 4 (.take 5 (.take 6 (.take 7 (.take 8 (.take 9 (.take 10 (.take 12 (.take 13 (.step 11 (.take 14 (.step 15 (.nil))))))))))))))))) (by kernel_rfl) (by kernel_rfl) (fun d _ _ _ _ h => by cases d <;> exact h) (fun X => X.cell? ⟨g, 0 * 2, none⟩ = some (.int .u32 (o : Int)) ∧ X.cell? ⟨g, 0 * 2 + 1, none⟩ = some (.slice spb 512 capb)) ⟨r1, r2⟩ ?_
          refine wpG_take _ (.pointer (some ⟨D, 0, none⟩)) rfl (by rfl) (fun X hX => by first | rfl | go_simp) ?_
          (try simp only [Act.put, List.setIfInBounds_toArray, List.set_cons_zero, List.set_cons_succ])
          refine wpG_take _ (.slice (some ⟨g, 0, none⟩) n cap) rfl (by rfl) (fun X hX => by first | rfl | go_simp) ?_
          (try simp only [Act.put, List.setIfInBounds_toArray, List.set_cons_zero, List.set_cons_succ])
          refine wpG_take _ (.int .i64 ((0 : Nat) : Int)) rfl (by rfl) (fun X hX => by first | rfl | go_simp) ?_
          (try simp only [Act.put, List.setIfInBounds_toArray, List.set_cons_zero, List.set_cons_succ])
          refine wpG_take _ (.pointer (some ⟨g, 0 * 2, none⟩)) rfl (by rfl) (fun X hX => c_iaH (k := 0) rfl rfl rfl ⟨by omega, hcap⟩) ?_
          (try simp only [Act.put, List.setIfInBounds_toArray, List.set_cons_zero, List.set_cons_succ])
          refine wpG_take _ (.pointer (some ⟨g, 0 * 2, none⟩)) rfl (by rfl) (fun X hX => c_faH (a := 0 * 2) (j := 0) (.inl rfl) rfl rfl) ?_
          (try simp only [Act.put, List.setIfInBounds_toArray, List.set_cons_zero, List.set_cons_succ])
          refine wpG_take _ (.int .u32 (o : Int)) rfl (by rfl) (fun X hX => c_ldU rfl rfl hX.1) ?_
          (try simp only [Act.put, List.setIfInBounds_toArray, List.set_cons_zero, List.set_cons_succ])
          refine wpG_take _ (.slice (some ⟨g, 0, none⟩) n cap) rfl (by rfl) (fun X hX => by first | rfl | go_simp) ?_
          (try simp only [Act.put, List.setIfInBounds_toArray, List.set_cons_zero, List.set_cons_succ])
          refine wpG_take _ (.int .i64 ((0 : Nat) : Int)) rfl (by rfl) (fun X hX => by first | rfl | go_simp) ?_
          (try simp only [Act.put, List.setIfInBounds_toArray, List.set_cons_zero, List.set_cons_succ])
          refine wpG_take _ (.pointer (some ⟨g, 0 * 2, none⟩)) rfl (by rfl) (fun X hX => c_iaH (k := 0) rfl rfl rfl ⟨by omega, hcap⟩) ?_
          (try simp only [Act.put, List.setIfInBounds_toArray, List.set_cons_zero, List.set_cons_succ])
          refine wpG_take _ (.pointer (some ⟨g, 0 * 2 + 1, none⟩)) rfl (by rfl) (fun X hX => c_faH (a := 0 * 2) (j := 1) (.inr rfl) rfl rfl) ?_
          (try simp only [Act.put, List.setIfInBounds_toArray, List.set_cons_zero, List.set_cons_succ])
          refine wpG_take _ (.slice spb 512 capb) rfl (by rfl) (fun X hX => c_ldB rfl rfl hX.2) ?_
          (try simp only [Act.put, List.setIfInBounds_toArray, List.set_cons_zero, List.set_cons_succ])
          refine wpG_take _ (.pointer (some ⟨D, 0, none⟩)) rfl (by rfl) (fun X hX => c_nc rfl rfl) ?_
          (try simp only [Act.put, List.setIfInBounds_toArray, List.set_cons_zero, List.set_cons_succ])
          refine wpG_take _ (.pointer (some ⟨D, 0, none⟩)) rfl (by rfl) (fun X hX => c_faS0 rfl rfl) ?_
          (try simp only [Act.put, List.setIfInBounds_toArray, List.set_cons_zero, List.set_cons_succ])
          refine cG_mk _ rfl (by rfl) (.slice sp1 512 cap1) w1 (c_appB rfl rfl rfl HR1.out) (fun X => X.cell? ⟨g, 0 * 2, none⟩ = some (.int .u32 (o : Int)) ∧ X.cell? ⟨g, 0 * 2 + 1, none⟩ = some (.slice spb 512 capb)) HX1.out (fun _ h => h) ?_
          (try simp only [Act.put, List.setIfInBounds_toArray, List.set_cons_zero, List.set_cons_succ])
          refine wpG_take _ (.pointer (some ⟨D, o, none⟩)) rfl (by rfl) (fun X hX => c_iaR rfl rfl rfl c64) ?_
          (try simp only [Act.put, List.setIfInBounds_toArray, List.set_cons_zero, List.set_cons_succ])
          refine cG_st _ rfl (by rfl) _ (c_stB rfl rfl rfl HC1.out HF1.out) (fun X => X.cell? ⟨g, 0 * 2, none⟩ = some (.int .u32 (o : Int)) ∧ X.cell? ⟨g, 0 * 2 + 1, none⟩ = some (.slice spb 512 capb)) HX2.out (fun _ h => h) ?_
          refine wpG_nil ?_
          clear r1 r2
          go_wp2_with fail
          go_roundw
          case rel => exact ⟨0 + 1, _, by omega, by go_num, HSS.out, HCC.out⟩
          case measure => simp [intOf]; omega
    · obtain rfl : k = n := by omega
      have HE := HP.out wr vs' (by have := HS.out; rw [List.take_of_length_le (by rw [HN.out]; omega)] at this; exact this) HC.out
      go_wp2_with fail
      first | exact HE | (go_ret; exact HE)
end Go.Proofs.Ythionhliokhcgaa
