/- A map in memory whose keys are whole numbers of one kind, whatever its values. -/
import Derived.Test.YtjgjohdeeeoeoaaGreatDoorM12
import Derived.Maps.OwnSet
import Derived.Maps.Views
import Derived.Sort.MapsRangeIn
import Derived.RangeFuncSeq
import Derived.RangeFuncWrites
import Derived.RangeFuncLeaves
import Derived.LoopIn
import Derived.LoopNIn
import Derived.RegionIn
import Derived.TacticsInMore
import Derived.RangeFuncBox
import Derived.RangeFuncNested
import Derived.RangeFuncCalls
import Derived.Maps.AppendAt
import Derived.OwnWalkIn
import Derived.Test.YtjgjohdeeeoeoaaGreatDoorM34
import Derived.Sort.AssemblyPlain
namespace Go.Proofs.YtjgjohdeeeoeoaaGreatDoor
open Go.RowKit
structure MTy (β : Type) where
  k : TypeId
  t : TypeId
  e : TypeId
  q : IntKind
  top : Nat
  ev : β → Value
  dv : β → DataW Unit
  z : β
  hk : Tryz.prog.underlying k = some (.int q)
  ht : Tryz.prog.underlying t = some (.map k e)
  hz : ∀ w, (zeroValue e).run Tryz.prog w = .ok (ev z) w
  je : ∀ {a b}, ev a = ev b → a = b
  jd : ∀ {a b}, dv a = dv b → a = b
  fit : ∀ {a : Nat}, a < top → (Lit.int q (a : Int)).wf = true
  inv : ∀ {a : Int}, (Lit.int q a).wf = true → ∃ n : Nat, a = (n : Int) ∧ n < top
section
variable {β : Type} {T : MTy β}
abbrev MTy.kv (T : MTy β) (x : Nat) : Value := .int T.q (x : Int)
abbrev MTy.kl (T : MTy β) (x : Nat) : Lit := .int T.q (x : Int)
theorem MTy.kl_inj {x y : Nat} (h : T.kl x = T.kl y) : x = y := by
  have := Lit.int.inj h
  omega
open Classical in
noncomputable def MTy.rd (T : MTy β) (v : Value) : Option (DataW Unit × List MemPlace) :=
  if h : ∃ b : β, v = T.ev b then some (T.dv h.choose, []) else none
theorem MTy.rd_mk (b : β) : T.rd (T.ev b) = some (T.dv b, []) := by
  have hx : ∃ b' : β, T.ev b = T.ev b' := ⟨b, rfl⟩
  unfold MTy.rd
  rw [dif_pos hx, ← T.je hx.choose_spec]
theorem MTy.rd_inv {v : Value} {y : DataW Unit × List MemPlace} (h : T.rd v = some y) : ∃ b : β, v = T.ev b ∧ y = (T.dv b, []) := by
  unfold MTy.rd at h
  split at h
  · rename_i hx
    cases h
    exact ⟨_, hx.choose_spec, rfl⟩
  · cases h
theorem MTy.keyed : Maps.Keyed Tryz.prog T.k := Maps.int_keyed T.hk
theorem MTy.key {x : Nat} (h : x < T.top) : keyOf Tryz.prog T.k (T.kv x) = some (T.kl x) := Maps.keyOf_int_mk T.hk (T.fit h)
theorem MTy.key_inv {key : Value} {l : Lit} (h : keyOf Tryz.prog T.k key = some l) : ∃ x : Nat, key = T.kv x ∧ l = T.kl x ∧ x < T.top := by
  cases key <;> simp [keyOf, T.hk, mapKey] at h
  rename_i q a
  obtain ⟨⟨hq, hw⟩, rfl⟩ := h
  subst hq
  obtain ⟨n, rfl, hn⟩ := T.inv hw
  exact ⟨n, rfl, rfl, hn⟩
theorem own_tightG {w : World} {M n : Nat} {D : DataW Unit} (h : w.ownsMap Tryz.prog T.k T.rd M n D) : w.ownsMap Tryz.prog T.k T.rd M (Maps.size D) D := by
  obtain ⟨es, c, h1, h2, h3, rfl⟩ := h
  exact ⟨es, c, h1, h2, by rw [Maps.size_eq, length_read]; exact Nat.le_refl _, rfl⟩
structure SaysG (T : MTy β) (D : DataW Unit) (f : Nat → Option β) : Prop where
  has : ∀ x, x < T.top → Maps.has D (T.kl x) = (f x).isSome
  at_ : ∀ x, x < T.top → D.atKey (T.kl x) (T.dv T.z) = T.dv ((f x).getD T.z)
def MapG (T : MTy β) (w : World) (M : Nat) (f : Nat → Option β) (n : Nat) : Prop :=
  ∃ D : DataW Unit, w.ownsMap Tryz.prog T.k T.rd M n D ∧ Maps.size D = n ∧ SaysG T D f
variable {w w' : World} {M n : Nat} {f : Nat → Option β}
theorem MapG.lt (h : MapG T w M f n) : M < w.heap.size := by obtain ⟨_, h, _⟩ := h; exact h.lt
theorem MapG.kept (h : MapG T w M f n) (hb : w'.heap[M]? = w.heap[M]?) : MapG T w' M f n := by
  obtain ⟨D, ⟨es, c, h1, h2⟩, h3⟩ := h
  exact ⟨D, ⟨es, c, hb.trans h1, h2⟩, h3⟩
theorem MapG.below {B : Nat} (h : MapG T w M f n) (hb : Below B w w') (hB : M < B) : MapG T w' M f n := h.kept (hb.block M hB)
theorem MapG.obj (h : MapG T w M f n) : ∃ es c, w.heap[M]? = some (.map es c) := by
  obtain ⟨D, ⟨es, c, h1, _⟩, _⟩ := h
  exact ⟨es, c, h1⟩
theorem MapG.made (w : World) : MapG T (w.alloc (.map #[] 0)) w.heap.size (fun _ => none) 0 :=
  ⟨.map [], (World.ownsMap_made w _ _ _).mono (Nat.zero_le _), rfl, fun _ _ => rfl, fun _ _ => rfl⟩
theorem MapG.look (h : MapG T w M f n) {x : Nat} (hx : x < T.top) : (Instr.lookup T.t (.map (some M)) (T.kv x) false).run Tryz.prog w = .ok (T.ev ((f x).getD T.z)) w := by
  obtain ⟨D, h1, -, h3⟩ := h
  obtain ⟨v, ps, hrun, hv⟩ := h1.lookup T.keyed T.ht (T.hz w) (T.rd_mk T.z) (T.key hx)
  obtain ⟨e, rfl, hy⟩ := T.rd_inv hv
  rw [h3.at_ x hx] at hy
  simp only [Prod.mk.injEq] at hy
  rw [hrun, ← T.jd hy.1]
def putF (f : Nat → Option β) (x : Nat) (b : β) : Nat → Option β := fun y => if y = x then some b else f y
theorem MapG.put (h : MapG T w M f n) (hn : n < 1000000) {x : Nat} (hx : x < T.top) (b : β) :
    ∃ w', (Instr.mapUpdate T.t (.map (some M)) (T.kv x) (T.ev b)).run Tryz.prog w = .ok () w' ∧ MapG T w' M (putF f x b) (if (f x).isSome then n else n + 1) ∧ w.grownBy w' (some M) := by
  obtain ⟨D, h1, h2, h3⟩ := h
  obtain ⟨w', hrun, ho, hgr⟩ := h1.update T.keyed T.ht (by unfold maxLen; omega) (T.key hx) (T.rd_mk b)
  have hm : Maps.IsMap D := h1.isMap
  have hsz : Maps.size (D.put (T.kl x) (T.dv b)) = if (f x).isSome then n else n + 1 := by
    rw [Maps.size_put (h1.tidy T.keyed), h3.has x hx, h2]
  have hkl := T.keyed.key (T.key hx)
  have ho := own_tightG ho
  rw [hsz] at ho
  refine ⟨w', hrun, ⟨_, ho, hsz, fun y hy => ?_, fun y hy => ?_⟩, hgr⟩
  · by_cases hq : y = x
    · subst hq
      rw [Maps.has_put_same hm hkl]
      simp [putF]
    · rw [Maps.has_put_other (fun e => hq (T.kl_inj e)), h3.has y hy]
      simp [putF, hq]
  · by_cases hq : y = x
    · subst hq
      rw [Maps.atKey_put_same hm hkl]
      simp [putF]
    · rw [Maps.atKey_put_other (fun e => hq (T.kl_inj e)), h3.at_ y hy]
      simp [putF, hq]
def KeysAre (T : MTy β) (f : Nat → Option β) (n : Nat) (ss : List Nat) : Prop := ss.length ≤ n ∧ ss.Nodup ∧ ∀ x, x ∈ ss ↔ (x < T.top ∧ (f x).isSome = true)
def RngG (T : MTy β) (w : World) (M r : Nat) (f : Nat → Option β) (n : Nat) (ss : List Nat) : Prop :=
  ∃ (D : DataW Unit) (left : Lit → Bool) (cnt : Nat), w.ranges Tryz.prog T.k T.rd M r n D left cnt ∧ SaysG T D f ∧ ss.length + cnt ≤ n ∧ ss.Nodup ∧ (∀ x ∈ ss, x < T.top) ∧ ∀ x, x < T.top → (x ∈ ss ↔ ((f x).isSome = true ∧ left (T.kl x) = false))
theorem RngG.of_walks {r : Nat} {ss : List Nat} (h : RngG T w M r f n ss) (hk : KeepsWalks w w') : RngG T w' M r f n ss ∧ w'.rangeLeft M r = w.rangeLeft M r := by
  obtain ⟨D, left, cnt, h1, h2⟩ := h
  have h3 := h1.of_walks hk
  exact ⟨⟨D, left, cnt, h3, h2⟩, by rw [h3.left_eq, h1.left_eq]⟩
theorem RngG.iter {r : Nat} {ss : List Nat} (h : RngG T w M r f n ss) : ∃ o : Obj, w.heap[r]? = some o ∧ o.isWalk = true := by
  obtain ⟨D, left, cnt, h1, h2⟩ := h
  exact h1.iter_walk
section
variable {F : Fence} {m : Nat} {ops : Array Oper} {rest : List Oper} {o : Oper} {a : Act} {Q : Exit → Act → World → Prop}
theorem wpListIn_range_G (hg : o.guard = none) (x : Operand) (t : TypeId) (hop : o.op = .range t x) (ht : t = T.t) (hx : a.eval x = .map (some M)) (h : MapG T w M f n)
    (hK : ∀ w', RngG T w' M w.heap.size f n [] → w.grownBy w' none → w'.heap.size = w.heap.size + 1 → wpListIn F m Tryz.prog ops Q rest (a.put o.dst (.pointer (some ⟨w.heap.size, 0, none⟩))) w') :
    wpListIn F m Tryz.prog ops Q (o :: rest) a w := by
  subst ht
  obtain ⟨D, h1, h2, h3⟩ := h
  refine wpListIn_range_own w hg x T.t hop T.k T.e T.keyed T.ht T.rd M n D hx h1 fun w' r1 r2 r3 => hK w' ⟨D, _, _, r1, h3, by rw [h2]; simp, List.nodup_nil, fun x hx => (by cases hx), fun x hx => ?_⟩ r2 r3
  rw [h3.has x hx]
  cases (f x).isSome <;> simp
theorem wpListIn_next_G (hg : o.guard = none) (it : Operand) (hop : o.op = .next it false) {r : Nat} (hit : a.eval it = .pointer (some ⟨r, 0, none⟩)) {ss : List Nat} (h : RngG T w M r f n ss)
    (hDone : KeysAre T f n ss → wpListIn F m Tryz.prog ops Q rest (a.put o.dst (.tuple #[.bool false])) w)
    (hMore : ∀ (x : Nat) (b : β) (w' : World), x < T.top → f x = some b → ss.length < n → RngG T w' M r f n (ss ++ [x]) → w'.rangeLeft M r < w.rangeLeft M r → w.grownBy w' (some r) → w'.heap.size = w.heap.size → (Instr.entry (.pointer (some ⟨r, 0, none⟩))).run Tryz.prog w' = .ok (.tuple #[T.kv x, T.ev b]) w' → wpListIn F m Tryz.prog ops Q rest (a.put o.dst (.tuple #[.bool true, T.kv x, T.ev b])) w') :
    wpListIn F m Tryz.prog ops Q (o :: rest) a w := by
  obtain ⟨D, left, cnt, h1, h2, h3, h4, h5, h6⟩ := h
  refine wpListIn_next_ranges w hg it hop T.k T.keyed T.rd (T.kv) T.ev (fun key l hk => by obtain ⟨x, hx, _⟩ := T.key_inv hk; exact ⟨x, hx⟩) (fun v y hv => by obtain ⟨b, hb, _⟩ := T.rd_inv hv; exact ⟨b, hb⟩) M r n D left cnt hit h1 ?_ ?_
  · intro _ hl
    refine hDone ⟨by omega, h4, fun x => ⟨fun hx => ⟨h5 x hx, ((h6 x (h5 x hx)).1 hx).1⟩, fun hx => (h6 x hx.1).2 ⟨hx.2, hl _⟩⟩⟩
  · intro x c l y w' cnt' hkey hlk hv hat hrg hlt hgr hsz hen
    obtain ⟨x', ex, rfl, hx'⟩ := T.key_inv hkey
    obtain rfl : x = x' := by have := Value.int.inj ex; omega
    obtain ⟨c', ec, rfl⟩ := T.rd_inv hv
    obtain rfl := T.je ec
    have hhas : Maps.has D (T.kl x) = true := Maps.has_true_of_atKey hat
    have hsome : (f x).isSome = true := by rw [← h2.has x hx']; exact hhas
    obtain ⟨b, hb⟩ := Option.isSome_iff_exists.1 hsome
    have hbc : b = c := by
      have h7 := h2.at_ x hx'
      rw [hat, hb] at h7
      exact (T.jd h7).symm
    subst hbc
    have hnew : x ∉ ss := fun hx => by have := ((h6 x hx').1 hx).2; rw [hlk] at this; cases this
    refine hMore x b w' hx' hb (by omega) ⟨D, _, cnt', hrg, h2, by simp; omega, ?_, ?_, ?_⟩ (by rw [hrg.left_eq, h1.left_eq]; exact hlt) hgr hsz hen
    · exact List.nodup_append.2 ⟨h4, by simp, fun a ha b hb => by simp at hb; subst hb; exact fun e => hnew (e ▸ ha)⟩
    · intro y hy
      rcases List.mem_append.1 hy with hy | hy
      · exact h5 y hy
      · simp at hy; subst hy; exact hx'
    · intro y hy
      by_cases hq : y = x
      · subst hq
        simp [hsome, Lit.sameKey]
      · rw [List.mem_append, h6 y hy]
        have hne : (T.kl y).sameKey (T.kl x) = false := by simp [Lit.sameKey]; omega
        simp [hq, hne]
end
end
end Go.Proofs.YtjgjohdeeeoeoaaGreatDoor
namespace Go.Proofs.YtjgjohdeeeoeoaaGreatDoor
open Go.RowKit
attribute [local go_sem] Oper.semAt_some
section
variable {β : Type} {T : MTy β}
theorem keys_any (mb : Option Nat) (w : World) : Calls Tryz.prog 37 #[.map mb] w fun e w' => e = .returned (.func (.func 68) #[] #[.pointer (some ⟨w.heap.size, 0, none⟩)]) ∧ w' = w.alloc (.cells #[.map mb] 96) := by
  go_enter Tryz.func37, Tryz.ntmps37
  go_wp2_with fail
  first | exact ⟨rfl, rfl⟩ | (go_ret; exact ⟨rfl, rfl⟩)
set_option maxRecDepth 100000 in
set_option maxHeartbeats 4000000 in
theorem keysIn_any (hT : T.t = 96) (n : Nat) (hn : 1 ≤ n) {w : World} {B M N : Nat} {f : Nat → Option β} (hb : w.cell? ⟨B, 0, none⟩ = some (.map (some M))) (hB : B < w.heap.size) (hM : MapG T w M f N) :
    SeqStopsK Fence.wide n Tryz.prog 68 #[.pointer (some ⟨B, 0, none⟩)] (fun x : Nat => #[T.kv x]) KeepsWalks (KeysAre T f N) (fun _ => True) N w := by
  intro l J Jx W hW hJ hJx hY h0
  have hm : W.cell? ⟨B, 0, none⟩ = some (.map (some M)) := (hW.cell (p := ⟨B, 0, none⟩) hB).trans hb
  have hM' : MapG T W M f N := hM.below hW hM.lt
  clear hb hM hW hB
  refine callsIn_of_wp Tryz.func68 rfl trivial ?_ rfl
  simp only [Tryz.ntmps68, List.size_toArray, List.length_cons, List.length_nil, Nat.reduceAdd, Nat.reduceSub, Array.replicate_succ, Array.replicate_zero, List.push_toArray, List.append_toArray, List.nil_append, List.cons_append]
  gi_wp2_with (first | (gi_at_range; refine wpListIn_range_G rfl _ _ rfl hT.symm rfl hM' ?_; intro w0 hrg0 hg0 hs0) | gi_in)
  (try go_frame)
  gi_loopw [3] (fun _ wr => ∃ ss : List Nat, RngG T wr M W.heap.size f N ss ∧ J ss wr) (fun _ wr => wr.rangeLeft M W.heap.size)
  case atStart => exact ⟨[], hrg0, hJ [] W w0 none h0 hg0 (fun r e => by cases e)⟩
  case round =>
    obtain ⟨ss, hrg, hJs⟩ := hrel
    gi_wp2_with (first | (gi_at_next; refine wpListIn_next_G rfl _ rfl rfl hrg ?_ ?_) | gi_in)
    · intro hd
      gi_wp2
      go_end0
      exact ⟨⟨_, rfl⟩, .inl ⟨ss, hd, hJs⟩⟩
    · intro x b w2 hx hfx hlen hrg2 hlt2 hg2 hs2 hen
      have hJ2 : J ss w2 := hJ ss wr w2 (some W.heap.size) hJs hg2 (fun r e => by cases e; exact ⟨Nat.le_refl _, hrg.iter⟩)
      obtain ⟨fn, tmps, assign, body, hy, hR⟩ := hY ss x w2 hJ2 hlen
      clear hs2
      gi_wp2
      refine hR.mono ?_
      rintro e W3 (⟨rfl, hJ3, hk3⟩ | ⟨rfl, hJx3⟩)
      · gi_wp2
        obtain ⟨hrg3, hl3⟩ := hrg2.of_walks hk3
        go_roundw
        case rel => exact ⟨ss ++ [x], hrg3, hJ3⟩
        case measure => rw [hl3]; exact hlt2
      · gi_wp2
        refine bodyPost_ret (results_none rfl _ _ _) rfl ?_
        exact ⟨⟨_, rfl⟩, .inr ⟨_, trivial, hJx3⟩⟩
end
section
variable {β : Type} {T : MTy β}
theorem infoU32 : (Tryz.prog.info? 24).map (fun i => (i.zero, i.size, i.bytes)) = some (some (.int .u32 0), 1, 4) := by kernel_rfl
def GthU (T : MTy β) (w : World) (pre : List Nat) (W : World) : Prop := (∃ v, Boxed W w.heap.size 98 v ∧ W.ownsRow w.heap.size 24 1 v pre.length (pre.map T.kv) ∧ True) ∧ Below w.heap.size w W
theorem gthU_own (w : World) {B : Nat} (hB : w.heap.size ≤ B) : OwnFrom B (GthU T w) :=
  OwnFrom.and (Own.from (holdsRow_own w.heap.size w.heap.size 98 24 1 (fun pre : List Nat => pre.length) (fun pre => pre.map T.kv) (fun _ _ => True)) _) (ownFrom_below (Nat.le_refl _) hB)
def CollPost (T : MTy β) (S : List Nat → Prop) (w : World) (e : Ending) (w' : World) : Prop :=
  ∃ v ss, e = .returned v ∧ S ss ∧ w'.ownsRow w.heap.size 24 1 v ss.length (ss.map T.kv) ∧ Below w.heap.size w w'
set_option maxRecDepth 100000 in
set_option maxHeartbeats 4000000 in
theorem appSeq_any {gf : Nat} {lb : Array Value} (eg : ∀ args w, (callFunc gf args).run Tryz.prog w = .ok (.enter gf args) w) {S Sp : List Nat → Prop} {N : Nat} (hN : N ≤ 1000000) {w : World} (hseq : SeqStopsK Fence.wide 4 Tryz.prog gf lb (fun x : Nat => #[T.kv x]) KeepsWalks S Sp N w) :
    Calls Tryz.prog 88 #[.slice none 0 0, .func (.func gf) #[] lb] w (CollPost T S w) := by
  obtain ⟨i0, hi, hz0, hz1, hz2⟩ := info_parts infoU32
  generalize hPost : CollPost T S w = Post
  have HP : Hid (∀ v ss W, S ss → W.ownsRow w.heap.size 24 1 v ss.length (ss.map T.kv) → Below w.heap.size w W → Post (.returned v) W) := Lib.hid fun v ss W h1 h2 h3 => by rw [← hPost]; exact ⟨v, ss, rfl, h1, h2, h3⟩
  clear hPost
  refine callsIn_wide.1 (callsIn_of_wp_marks (F := Fence.wide) (n := 5) Tryz.func88 rfl trivial ?_ rfl)
  simp only [Tryz.ntmps88, List.size_toArray, List.length_cons, List.length_nil, Nat.reduceAdd, Nat.reduceSub, Array.replicate_succ, Array.replicate_zero, List.push_toArray, List.append_toArray, List.nil_append, List.cons_append]
  gi_wp2
  have bO := Boxed.new w 98 (.slice none 0 0)
  have hB0 : Below w.heap.size w (w.alloc (.cells #[.slice none 0 0] 98)) := (Below.refl _ w).alloc (Nat.le_refl _) _
  refine wpIn_rangeFunc_ownF (n := 5) rfl (by omega) (gf := gf) (lb := lb) rfl trivial eg hseq walksK_t walksK_b hB0 (fun _ => rfl) (GthU T w) (fun _ _ _ => False) (gthU_own w (by simp)) (fun _ _ _ _ _ hs _ _ => hs) ⟨⟨_, bO, ⟨rfl, .inl ⟨rfl, rfl⟩⟩, trivial⟩, hB0⟩
    (fun x => { tmps := #[.slice none 0 0, .func (.func gf) #[] lb, .pointer (some ⟨w.heap.size, 0, none⟩), undef, .slice none 0 0, T.kv x, .func (.func gf) #[] lb, T.kv x, undef, undef, undef, undef, undef], defers := [] }) ?assign ?body ?done ?stop
  case assign =>
    intro l x W K hK
    gi_wp2
    exact hK
  case body =>
    rintro l pre x W ⟨⟨v, hv, hrow, -⟩, hB⟩ hlt
    have hc := hv.cell
    gi_wp2_with (gi_at_builtin; refine wpListIn_append_own _ rfl _ _ 98 rfl w.heap.size 24 i0 (.int .u32 0) 1 4 Tryz.underlying98 hi hz0 hz1 hz2 rfl (by decide) _ _ _ rfl (hrow.alloc _) ⟨W.heap.size, 0, none⟩ 1 1 [T.kv x] rfl rfl (cell_one_new _ _ _) (by simp [Value.oneCell']) (by unfold maxLen; omega) (by omega) (by have := hB.size; simp; omega) ?_; intro v' w1 hown' hgrow _; obtain ⟨g', cap', rfl⟩ := ownsRow_succ hown'; obtain ⟨hv1, hv2, hr2, hk2, hb2⟩ := hv.appended (by decide) hrow hB.size (Nat.le_refl _) hown' hgrow; have hc1 := hv1.cell; have hf1 := hv1.frozen)
    exact ⟨hk2, hk2.walks, ⟨_, hv2, by simpa using hr2, trivial⟩, hB.trans hb2⟩
  case done =>
    rintro D ys W hD hS ⟨⟨v, hv, hrow, -⟩, hB⟩ hK
    have hc := hv.cell
    gi_wp2
    refine ⟨by simp, .inl ⟨_, _, rfl, run_takeDeferred hK, ?_⟩⟩
    refine ⟨_, results_tmp rfl _ _ _, ?_⟩
    exact HP.out v ys _ hS (ownsRow_putObj hrow _ hK rfl) (hB.trans (belowK_b (w := w) (Nat.le_refl _) W D _ _ (by simp at hD; omega) hK rfl rfl))
  case stop =>
    rintro D c pre W _ _ h _
    exact h.elim
theorem coll_any {gf : Nat} {lb : Array Value} (eg : ∀ args w, (callFunc gf args).run Tryz.prog w = .ok (.enter gf args) w) {S Sp : List Nat → Prop} {N : Nat} (hN : N ≤ 1000000) {w : World} (hseq : SeqStopsK Fence.wide 4 Tryz.prog gf lb (fun x : Nat => #[T.kv x]) KeepsWalks S Sp N w) :
    Calls Tryz.prog 66 #[.func (.func gf) #[] lb] w (CollPost T S w) := by
  have HA := Lib.hid (appSeq_any eg hN hseq)
  generalize hPost : CollPost T S w = Post at HA ⊢
  have HP : Hid (∀ v W, CollPost T S w (.returned v) W → Post (.returned v) W) := Lib.hid fun v W h => by rw [← hPost]; exact h
  have HV : Hid (∀ e W, Post e W → ∃ v, e = .returned v) := Lib.hid fun e W h => by rw [← hPost] at h; obtain ⟨v, _, h, _⟩ := h; exact ⟨v, h⟩
  clear hPost hseq
  go_enter Tryz.func66, Tryz.ntmps66
  go_wp2_with fail
  refine HA.out.mono ?_
  intro e W h
  obtain ⟨v, rfl⟩ := HV.out e W h
  have HE := Lib.hid h
  clear h
  go_wp2_with fail
  first | exact HE.out | (go_ret; exact HE.out)
end
def UV (x : Nat) : Value := .int .u32 (x : Int)
def lt32 (a b : Nat) : Bool := decide (a < b)
def UAt (w : World) (g : Nat) (d : Array Nat) (rest : List Value) : Prop := Blk w g (d.toList.map UV ++ rest) 24
structure SoW (g : Nat) (w : World) (d : Array Nat) (rest : List Value) (W : World) : Prop where
  at_ : UAt W g d rest
  chg : Chg (fun x => x = g) w W
def SoPost (g : Nat) (d : Array Nat) (rest : List Value) (w : World) (e : Ending) (W : World) : Prop := e = .returned (.tuple #[]) ∧ SoW g w d rest W
theorem SoW.start {g : Nat} {w : World} {d : Array Nat} {rest : List Value} (h : UAt w g d rest) : SoW g w d rest w := ⟨h, Chg.refl _ _⟩
theorem SoW.drew {g : Nat} {w W : World} {d : Array Nat} {rest : List Value} (h : SoW g w d rest W) : SoW g w d rest W.drew := ⟨h.at_, h.chg.drew⟩
theorem SoW.trans {g : Nat} {w W X : World} {d e : Array Nat} {rest : List Value} (h : SoW g w d rest W) (k : SoW g W e rest X) : SoW g w e rest X := ⟨k.at_, h.chg.trans' k.chg⟩
theorem ubang {d : Array Nat} {k : Nat} (hk : k < d.size) : d[k]! = d[k] := getElem!_pos d k hk
theorem UAt.cell {w : World} {g : Nat} {d : Array Nat} {rest : List Value} (h : UAt w g d rest) {k : Nat} (hk : k < d.size) : w.cell? ⟨g, k, none⟩ = some (.int .u32 ((d[k]! : Nat) : Int)) := by
  refine Blk.cell h ?_
  rw [List.getElem?_append_left (by simpa using hk), List.getElem?_map, Array.getElem?_toList, Array.getElem?_eq_getElem hk, ubang hk]
  rfl
theorem usize_swp (d : Array Nat) (i j : Nat) : (Sort.swp d i j).size = d.size := by simp [Sort.swp]
theorem swp_list {d : Array Nat} {i j : Nat} (hi : i < d.size) (hj : j < d.size) (rest : List Value) :
    (((d.toList.map UV ++ rest).set i (UV d[j]!)).set j (UV d[i]!)) = (Sort.swp d i j).toList.map UV ++ rest := by
  have h1 : (d.toList.map UV).length = d.size := by simp
  rw [List.set_append_left _ _ (by omega), List.set_append_left _ _ (by rw [List.length_set]; omega)]
  congr 1
  unfold Sort.swp
  rw [Array.toList_setIfInBounds, Array.toList_setIfInBounds, List.map_set, List.map_set]
theorem UAt.swap {w : World} {g : Nat} {d : Array Nat} {rest : List Value} (h : UAt w g d rest) {i j : Nat} (hi : i < d.size) (hj : j < d.size) :
    UAt ((w.setCell ⟨g, i, none⟩ (UV d[j]!)).setCell ⟨g, j, none⟩ (UV d[i]!)) g (Sort.swp d i j) rest := by
  unfold UAt
  rw [← swp_list hi hj]
  exact (Blk.set h i _).set j _
section
variable {ρ : Operand → Value} {o : Oper} {x y : Operand} {w : World}
theorem ex_iaW {g n cap k : Nat} (hk : k < n ∧ n ≤ cap) (ho : o.op = .indexAddr 98 x y) (hx : ρ x = .slice (some ⟨g, 0, none⟩) n cap) (hy : ρ y = .int .i64 (k : Int)) :
    (execOp ρ o).run Tryz.prog w = .ok (.value (.pointer (some ⟨g, k, none⟩))) w := by
  have h1 : ¬ n ≤ k := by omega
  unfold execOp
  simp only [ho]
  go_simp
theorem ex_ldW {g k : Nat} {d : Array Nat} {rest : List Value} (h : UAt w g d rest) (hk : k < d.size) (ho : o.op = .load 24 x) (hx : ρ x = .pointer (some ⟨g, k, none⟩)) :
    (execOp ρ o).run Tryz.prog w = .ok (.value (.int .u32 ((d[k]! : Nat) : Int))) w := ex_ld1 Tryz.underlying24 ho hx (h.cell hk)
theorem ex_sub1W {a c : Nat} (hc : c + 1 = a) (ha : a < 1000000) (ho : o.op = .binOp .sub 3 x y 3) (hx : ρ x = .int .i64 (a : Int)) (hy : ρ y = .int .i64 1) : (execOp ρ o).run Tryz.prog w = .ok (.value (.int .i64 (c : Int))) w := by
  have e : IntKind.i64.wrap ((a : Int) - 1) = (c : Int) := by rw [IntKind.wrap_i64]; omega
  unfold execOp
  simp only [ho]
  go_simp
theorem ex_gtrW {a b : Nat} {m : Bool} (hm : decide (b < a) = m) (ho : o.op = .binOp .gtr 3 x y 3) (hx : ρ x = .int .i64 (a : Int)) (hy : ρ y = .int .i64 (b : Int)) : (execOp ρ o).run Tryz.prog w = .ok (.value (.bool m)) w := by
  have e : decide ((b : Int) < (a : Int)) = m := by rw [← hm, Bool.eq_iff_iff]; simp
  unfold execOp
  simp only [ho]
  go_simp
end
theorem ex_lsU {ρ : Operand → Value} {o : Oper} {x y : Operand} {w : World} {a b : Int} {m : Bool} (hm : decide (a < b) = m) (ho : o.op = .binOp .lss 24 x y 24) (hx : ρ x = .int .u32 a) (hy : ρ y = .int .u32 b) : (execOp ρ o).run Tryz.prog w = .ok (.value (.bool m)) w := by
  subst hm
  unfold execOp
  simp only [ho]
  go_simp
theorem isnan_any (x : Nat) (w : World) : Calls Tryz.prog 127 #[.int .u32 (x : Int)] w fun e w' => e = .returned (.bool false) ∧ w' = w := by
  generalize hPost : (fun (e : Ending) (w' : World) => e = .returned (.bool false) ∧ w' = w) = Post
  have HE := Lib.hid (show Post (.returned (.bool false)) w by rw [← hPost]; exact ⟨rfl, rfl⟩)
  clear hPost
  go_enter Tryz.func127, Tryz.ntmps127
  go_wp2_with fail
  first | exact HE.out | (go_ret; exact HE.out)
theorem less_any (x y : Nat) (w : World) : Calls Tryz.prog 113 #[.int .u32 (x : Int), .int .u32 (y : Int)] w fun e w' => e = .returned (.bool (lt32 x y)) ∧ w' = w := by
  have hx := isnan_any x w
  obtain ⟨m, hm⟩ : ∃ m, lt32 x y = m := ⟨_, rfl⟩
  have HM : Hid (decide ((x : Int) < (y : Int)) = m) := Lib.hid (by rw [← hm]; unfold lt32; rw [Bool.eq_iff_iff]; simp)
  rw [hm]
  generalize hPost : (fun (e : Ending) (w' : World) => e = .returned (.bool m) ∧ w' = w) = Post
  have HE := Lib.hid (show Post (.returned (.bool m)) w by rw [← hPost]; exact ⟨rfl, rfl⟩)
  have HX := Lib.hid hx
  clear hPost hx hm
  go_enter Tryz.func113, Tryz.ntmps113
  go_upto_region 1 with fail
  refine wp_region_list ?_
  refine tl_val (S := fun _ => True) (.int .u32 (x : Int)) (by rfl) trivial (fun X hX => by first | rfl | go_simp) ?_; try simp only [pS]
  refine tl_call (by rfl) 127 #[.int .u32 (x : Int)] (by go_simp) (fun u X => u = .bool false ∧ X = w) (HX.out.mono fun e Y ⟨e1, e2⟩ => ⟨_, e1, rfl, e2⟩) ?_
  rintro u X1 ⟨rfl, rfl⟩; try simp only [pS]
  refine tl_val (S := fun _ => True) (.bool false) (by rfl) trivial (fun X hX => by first | rfl | go_simp) ?_; try simp only [pS]
  refine tl_skip (by rfl) ?_; try simp only [pS]
  refine tl_skip (by rfl) ?_; try simp only [pS]
  refine tl_skip (by rfl) ?_; try simp only [pS]
  refine tl_val (S := fun _ => True) (.bool false) (by rfl) trivial (fun X hX => by first | rfl | go_simp) ?_; try simp only [pS]
  refine tl_val (S := fun _ => True) (.bool false) (by rfl) trivial (fun X hX => by first | rfl | go_simp) ?_; try simp only [pS]
  refine tl_val (S := fun _ => True) (.int .u32 (x : Int)) (by rfl) trivial (fun X hX => by first | rfl | go_simp) ?_; try simp only [pS]
  refine tl_val (S := fun _ => True) (.int .u32 (y : Int)) (by rfl) trivial (fun X hX => by first | rfl | go_simp) ?_; try simp only [pS]
  refine tl_val (S := fun _ => True) (.bool m) (by rfl) trivial (fun X hX => ex_lsU HM.out rfl rfl rfl) ?_; try simp only [pS]
  refine tl_val (S := fun _ => True) (.bool m) (by rfl) trivial (fun X hX => by first | rfl | go_simp) ?_; try simp only [pS]
  refine tl_val (S := fun _ => True) (.bool m) (by rfl) trivial (fun X hX => by first | rfl | go_simp) ?_; try simp only [pS]
  refine wpList_nil ?_
  go_wp2_with fail
  first | exact HE.out | (go_ret; exact HE.out)
theorem ex_stB {ρ : Operand → Value} {o : Oper} {x y : Operand} {w : World} {g k v : Nat} {cs : List Value} {t : TypeId} (h : Blk w g cs t) (hk : k < cs.length) (ho : o.op = .store 24 x y) (hx : ρ x = .pointer (some ⟨g, k, none⟩)) (hy : ρ y = .int .u32 (v : Int)) :
    (execOp ρ o).run Tryz.prog w = .ok .skip (w.setCell ⟨g, k, none⟩ (UV v)) := by
  obtain ⟨u, hc⟩ := h.has k hk
  have hf := h.free k
  unfold execOp UV
  simp only [ho]
  go_simp
theorem SoW.swap {g : Nat} {w W : World} {d : Array Nat} {rest : List Value} (h : SoW g w d rest W) {i j : Nat} (hi : i < d.size) (hj : j < d.size) :
    SoW g w (Sort.swp d i j) rest ((W.setCell ⟨g, i, none⟩ (UV d[j]!)).setCell ⟨g, j, none⟩ (UV d[i]!)) :=
  ⟨h.at_.swap hi hj, (h.chg.setCell (.inl rfl) _ _).setCell (.inl rfl) _ _⟩
theorem insOuter_go {a b k : Nat} {dk dj : Array Nat} (hk : k < b) (h : Sort.insInner lt32 a k dk = dj) : Sort.insOuter lt32 a b k dk = Sort.insOuter lt32 a b (k + 1) dj := by
  rw [Sort.insOuter, if_pos hk, h]
theorem insOuter_end {a b k : Nat} {dk : Array Nat} (hk : ¬ k < b) : Sort.insOuter lt32 a b k dk = dk := by
  rw [Sort.insOuter, if_neg hk]
theorem insInner_end {a : Nat} {d : Array Nat} : Sort.insInner lt32 a a d = d := by
  cases a with
  | zero => rfl
  | succ a => rw [Sort.insInner, if_neg (by simp)]
theorem insInner_go {a m : Nat} {d : Array Nat} (h : a < m + 1) (hl : lt32 d[m + 1]! d[m]! = true) : Sort.insInner lt32 a (m + 1) d = Sort.insInner lt32 a m (Sort.swp d (m + 1) m) := by
  rw [Sort.insInner, hl]
  simp [h]
theorem insInner_stop {a m : Nat} {d : Array Nat} (hl : lt32 d[m + 1]! d[m]! = false) : Sort.insInner lt32 a (m + 1) d = d := by
  rw [Sort.insInner, hl]
  simp
set_option maxRecDepth 100000 in
set_option maxHeartbeats 8000000 in
theorem ins_any (g cap a b n : Nat) (d : Array Nat) (rest : List Value) (w : World) (hU : UAt w g d rest) (hn : d.size = n) (hc : n ≤ cap) (hab : a ≤ b) (hb : b ≤ n) (h64 : n ≤ 64) :
    Calls Tryz.prog 107 #[.slice (some ⟨g, 0, none⟩) n cap, .int .i64 (a : Int), .int .i64 (b : Int)] w (SoPost g (Sort.insertionSort lt32 d a b) rest w) := by
  obtain ⟨D, hD⟩ : ∃ D, Sort.insertionSort lt32 d a b = D := ⟨_, rfl⟩
  rw [hD]
  have HD : Hid (Sort.insOuter lt32 a b (a + 1) d = D) := Lib.hid hD
  generalize hPost : SoPost g D rest w = Post
  have HPO : Hid (∀ W, SoW g w D rest W → Post (.returned (.tuple #[])) W) := Lib.hid fun W h => by rw [← hPost]; exact ⟨rfl, h⟩
  have HN := Lib.hid hn; have HC : Hid (n ≤ cap) := Lib.hid hc; have HB : Hid (a ≤ b ∧ b ≤ n ∧ n ≤ 64) := Lib.hid ⟨hab, hb, h64⟩
  have HS := Lib.hid (SoW.start hU)
  have wk0 := IntWalk.i64_in ((a : Int) + 1) (by omega)
  clear hD hPost hU hn hc hab hb h64
  go_enter Tryz.func107, Tryz.ntmps107
  go_wp2_with fail
  go_loopw [6] (fun i wr => ∃ (k : Nat) (dk : Array Nat), i = .int .i64 (k : Int) ∧ a + 1 ≤ k ∧ k ≤ b + 1 ∧ dk.size = n ∧ Sort.insOuter lt32 a b k dk = D ∧ SoW g w dk rest wr) (fun i _ => b + 1 - (intOf i).toNat)
  case atStart => exact ⟨a + 1, d, by go_num, by omega, by have := HB.out; omega, HN.out, HD.out, HS.out⟩
  case round =>
    clear HS
    obtain ⟨k, dk, rfl, hk1, hk2, hdk, hdo, hs⟩ := hrel
    have HDK := Lib.hid hdk; have HDO := Lib.hid hdo; have HS := Lib.hid hs
    clear hdk hdo hs wk0
    have wk1 := IntWalk.i64_in ((k : Int) + 1) (by have := HB.out; omega)
    by_cases hlt : k < b
    · go_wp2_with fail
      go_loopw [7] (fun j wr => ∃ (m : Nat) (dj : Array Nat), j = .int .i64 (m : Int) ∧ a ≤ m ∧ m ≤ k ∧ dj.size = n ∧ Sort.insInner lt32 a m dj = Sort.insInner lt32 a k dk ∧ SoW g w dj rest wr) (fun j _ => (intOf j).toNat)
      case atStart => exact ⟨k, dk, rfl, by omega, by omega, HDK.out, rfl, HS.out⟩
      case round =>
        clear HS
        obtain ⟨m, dj, rfl, hm1, hm2, hdj, hdi, hs⟩ := hrel
        have HDS := Lib.hid hdj; have HDI := Lib.hid hdi; have HS := Lib.hid hs
        have HU : Hid (UAt wr.drew g dj rest) := Lib.hid hs.drew.at_
        clear hdj hdi hs
        by_cases ham : a < m
        · obtain ⟨m1, rfl⟩ : ∃ m1, m = m1 + 1 := ⟨m - 1, by omega⟩
          have HIX : Hid (m1 + 1 < n) := Lib.hid (by have := HB.out; omega)
          have hix := HIX.out
          have hcc := HC.out
          have hn64 := HB.out.2.2
          obtain ⟨mm, hmm⟩ : ∃ mm, lt32 dj[m1 + 1]! dj[m1]! = mm := ⟨_, rfl⟩
          have HMM := Lib.hid hmm
          cases mm
          case true =>
            go_upto_region 4 with fail
            refine gS (.take 0 (.take 1 (.take 2 (.take 3 (.take 4 (.take 5 (.take 6 (.take 7 (.take 8 (.take 9 (.take 10 (.take 11 (.take 12 (.step 13 (.take 14 (.nil)))))))))))))))) (fun X => UAt X g dj rest) (HU.out) ?_
            refine gT (.int .i64 ((m1 + 1 : Nat) : Int)) ?_; try simp only [pS]
            refine gT (.int .i64 ((a : Nat) : Int)) ?_; try simp only [pS]
            refine wpG_take _ (.bool true) rfl (by rfl) (fun X hX => ex_gtrW (by first | (simp; done) | (simp; omega)) rfl rfl rfl) ?_; try simp only [pS]
            refine gT (.bool true) ?_; try simp only [pS]
            refine gT (.slice (some ⟨g, 0, none⟩) n cap) ?_; try simp only [pS]
            refine gT (.int .i64 ((m1 + 1 : Nat) : Int)) ?_; try simp only [pS]
            refine wpG_take _ (.pointer (some ⟨g, (m1 + 1), none⟩)) rfl (by rfl) (fun X hX => ex_iaW (by omega) rfl rfl rfl) ?_; try simp only [pS]
            refine wpG_take _ (.int .u32 ((dj[m1 + 1]! : Nat) : Int)) rfl (by rfl) (fun X hX => ex_ldW hX (by rw [HDS.out]; omega) rfl rfl) ?_; try simp only [pS]
            refine gT (.slice (some ⟨g, 0, none⟩) n cap) ?_; try simp only [pS]
            refine gT (.int .i64 ((m1 + 1 : Nat) : Int)) ?_; try simp only [pS]
            refine wpG_take _ (.int .i64 ((m1 : Nat) : Int)) rfl (by rfl) (fun X hX => ex_sub1W (by omega) (by omega) rfl rfl rfl) ?_; try simp only [pS]
            refine wpG_take _ (.pointer (some ⟨g, m1, none⟩)) rfl (by rfl) (fun X hX => ex_iaW (by omega) rfl rfl rfl) ?_; try simp only [pS]
            refine wpG_take _ (.int .u32 ((dj[m1]! : Nat) : Int)) rfl (by rfl) (fun X hX => ex_ldW hX (by rw [HDS.out]; omega) rfl rfl) ?_; try simp only [pS]
            refine wpG_call _ rfl (by rfl) 113 #[.int .u32 ((dj[m1 + 1]! : Nat) : Int), .int .u32 ((dj[m1]! : Nat) : Int)] (fun X => by go_simp) (fun u X => u = .bool true ∧ X = wr.drew) ((less_any _ _ _).mono fun e X ⟨e1, e2⟩ => ⟨_, e1, by rw [e2]; exact HU.out, by rw [HMM.out], e2⟩) ?_
            rintro u X8 hx8 ⟨rfl, rfl⟩
            refine ⟨_, fun _ h => h, hx8, ?_⟩
            clear hx8; try simp only [pS]
            refine gT (.bool true) ?_; try simp only [pS]
            refine wpG_nil ?_
            have wk2 := IntWalk.i64_in (((m1 + 1 : Nat) : Int) - 1) (by omega)
            have HS2 := Lib.hid (HS.out.drew.drew.swap (i := m1 + 1) (j := m1) (by rw [HDS.out]; omega) (by rw [HDS.out]; omega))
            have HI2 : Hid (Sort.insInner lt32 a m1 (Sort.swp dj (m1 + 1) m1) = Sort.insInner lt32 a k dk) := Lib.hid (by rw [← HDI.out, insInner_go ham hmm])
            clear hmm HS
            go_upto_region 6 with fail
            refine wp_join ?_
            apply Exists.intro
            apply Exists.intro
            constructor
            · refine wp_region_sched (.take 0 (.take 1 (.take 2 (.take 3 (.take 4 (.take 5 (.take 6 (.take 7 (.take 8 (.take 10 (.take 11 (.take 12 (.fork 9 (.step 13 (.take 14 (.step 15 (.take 16 (.step 17 (.nil)))))) 13 (.step 9 (.take 14 (.step 15 (.take 16 (.step 17 (.nil))))))))))))))))))) (by kernel_rfl) (by kernel_rfl) (fun d _ _ _ _ h => by cases h.1) (fun _ => True) trivial ?_
              refine gT (.slice (some ⟨g, 0, none⟩) n cap) ?_; try simp only [pS]
              refine gT (.int .i64 ((m1 + 1 : Nat) : Int)) ?_; try simp only [pS]
              refine gT (.slice (some ⟨g, 0, none⟩) n cap) ?_; try simp only [pS]
              refine gT (.int .i64 ((m1 + 1 : Nat) : Int)) ?_; try simp only [pS]
              refine wpG_take _ (.int .i64 ((m1 : Nat) : Int)) rfl (by rfl) (fun X hX => ex_sub1W (by omega) (by omega) rfl rfl rfl) ?_; try simp only [pS]
              refine gT (.slice (some ⟨g, 0, none⟩) n cap) ?_; try simp only [pS]
              refine gT (.int .i64 ((m1 + 1 : Nat) : Int)) ?_; try simp only [pS]
              refine wpG_take _ (.int .i64 ((m1 : Nat) : Int)) rfl (by rfl) (fun X hX => ex_sub1W (by omega) (by omega) rfl rfl rfl) ?_; try simp only [pS]
              refine wpG_take _ (.pointer (some ⟨g, m1, none⟩)) rfl (by rfl) (fun X hX => ex_iaW (by omega) rfl rfl rfl) ?_; try simp only [pS]
              refine gT (.slice (some ⟨g, 0, none⟩) n cap) ?_; try simp only [pS]
              refine gT (.int .i64 ((m1 + 1 : Nat) : Int)) ?_; try simp only [pS]
              refine wpG_take _ (.pointer (some ⟨g, (m1 + 1), none⟩)) rfl (by rfl) (fun X hX => ex_iaW (by omega) rfl rfl rfl) ?_; try simp only [pS]
              refine wpG_fork ?_ ?_
              · refine wpG_mk _ rfl (by rfl) (.int .u32 ((dj[m1]! : Nat) : Int)) (wr.drew.drew) (ex_ldW HU.out (by rw [HDS.out]; omega) rfl rfl) (fun _ => True) trivial (fun _ h => h) ?_; try simp only [pS]
                refine wpG_mk _ rfl (by rfl) (.int .u32 ((dj[m1 + 1]! : Nat) : Int)) (wr.drew.drew) (ex_ldW HU.out (by rw [HDS.out]; omega) rfl rfl) (fun _ => True) trivial (fun _ h => h) ?_; try simp only [pS]
                refine wpG_take _ (.pointer (some ⟨g, (m1 + 1), none⟩)) rfl (by rfl) (fun X hX => ex_iaW (by omega) rfl rfl rfl) ?_; try simp only [pS]
                refine wpG_st _ rfl (by rfl) ((wr.drew.drew).setCell ⟨g, m1 + 1, none⟩ (UV dj[m1]!)) (ex_stB HU.out (by rw [List.length_append, List.length_map, Array.length_toList, HDS.out]; omega) rfl rfl rfl) (fun _ => True) trivial (fun _ h => h) ?_; try simp only [pS]
                refine wpG_take _ (.pointer (some ⟨g, m1, none⟩)) rfl (by rfl) (fun X hX => ex_iaW (by omega) rfl rfl rfl) ?_; try simp only [pS]
                refine wpG_st _ rfl (by rfl) (((wr.drew.drew).setCell ⟨g, m1 + 1, none⟩ (UV dj[m1]!)).setCell ⟨g, m1, none⟩ (UV dj[m1 + 1]!)) (ex_stB (Blk.set HU.out (m1 + 1) _) (by rw [List.length_set, List.length_append, List.length_map, Array.length_toList, HDS.out]; omega) rfl rfl rfl) (fun _ => True) trivial (fun _ h => h) ?_; try simp only [pS]
                refine wpG_nil ?_
                exact ⟨rfl, rfl, rfl⟩
              · refine wpG_mk _ rfl (by rfl) (.int .u32 ((dj[m1 + 1]! : Nat) : Int)) (wr.drew.drew) (ex_ldW HU.out (by rw [HDS.out]; omega) rfl rfl) (fun _ => True) trivial (fun _ h => h) ?_; try simp only [pS]
                refine wpG_mk _ rfl (by rfl) (.int .u32 ((dj[m1]! : Nat) : Int)) (wr.drew.drew) (ex_ldW HU.out (by rw [HDS.out]; omega) rfl rfl) (fun _ => True) trivial (fun _ h => h) ?_; try simp only [pS]
                refine wpG_take _ (.pointer (some ⟨g, (m1 + 1), none⟩)) rfl (by rfl) (fun X hX => ex_iaW (by omega) rfl rfl rfl) ?_; try simp only [pS]
                refine wpG_st _ rfl (by rfl) ((wr.drew.drew).setCell ⟨g, m1 + 1, none⟩ (UV dj[m1]!)) (ex_stB HU.out (by rw [List.length_append, List.length_map, Array.length_toList, HDS.out]; omega) rfl rfl rfl) (fun _ => True) trivial (fun _ h => h) ?_; try simp only [pS]
                refine wpG_take _ (.pointer (some ⟨g, m1, none⟩)) rfl (by rfl) (fun X hX => ex_iaW (by omega) rfl rfl rfl) ?_; try simp only [pS]
                refine wpG_st _ rfl (by rfl) (((wr.drew.drew).setCell ⟨g, m1 + 1, none⟩ (UV dj[m1]!)).setCell ⟨g, m1, none⟩ (UV dj[m1 + 1]!)) (ex_stB (Blk.set HU.out (m1 + 1) _) (by rw [List.length_set, List.length_append, List.length_map, Array.length_toList, HDS.out]; omega) rfl rfl rfl) (fun _ => True) trivial (fun _ h => h) ?_; try simp only [pS]
                refine wpG_nil ?_
                exact ⟨rfl, rfl, rfl⟩
            · clear HU
              obtain ⟨W9, hW9⟩ : ∃ z, z = ((wr.drew.drew.setCell ⟨g, m1 + 1, none⟩ (UV dj[m1]!)).setCell ⟨g, m1, none⟩ (UV dj[m1 + 1]!)) := ⟨_, rfl⟩
              rw [← hW9] at HS2 ⊢
              clear hW9
              go_wp2_with fail
              go_roundw
              case rel => exact ⟨m1, _, by go_num, by omega, by omega, by rw [usize_swp]; exact HDS.out, HI2.out, HS2.out⟩
              case measure => first | (simp [intOf]; done) | (simp [intOf]; omega)
          case false =>
            go_upto_region 4 with fail
            refine gS (.take 0 (.take 1 (.take 2 (.take 3 (.take 4 (.take 5 (.take 6 (.take 7 (.take 8 (.take 9 (.take 10 (.take 11 (.take 12 (.step 13 (.take 14 (.nil)))))))))))))))) (fun X => UAt X g dj rest) (HU.out) ?_
            refine gT (.int .i64 ((m1 + 1 : Nat) : Int)) ?_; try simp only [pS]
            refine gT (.int .i64 ((a : Nat) : Int)) ?_; try simp only [pS]
            refine wpG_take _ (.bool true) rfl (by rfl) (fun X hX => ex_gtrW (by first | (simp; done) | (simp; omega)) rfl rfl rfl) ?_; try simp only [pS]
            refine gT (.bool true) ?_; try simp only [pS]
            refine gT (.slice (some ⟨g, 0, none⟩) n cap) ?_; try simp only [pS]
            refine gT (.int .i64 ((m1 + 1 : Nat) : Int)) ?_; try simp only [pS]
            refine wpG_take _ (.pointer (some ⟨g, (m1 + 1), none⟩)) rfl (by rfl) (fun X hX => ex_iaW (by omega) rfl rfl rfl) ?_; try simp only [pS]
            refine wpG_take _ (.int .u32 ((dj[m1 + 1]! : Nat) : Int)) rfl (by rfl) (fun X hX => ex_ldW hX (by rw [HDS.out]; omega) rfl rfl) ?_; try simp only [pS]
            refine gT (.slice (some ⟨g, 0, none⟩) n cap) ?_; try simp only [pS]
            refine gT (.int .i64 ((m1 + 1 : Nat) : Int)) ?_; try simp only [pS]
            refine wpG_take _ (.int .i64 ((m1 : Nat) : Int)) rfl (by rfl) (fun X hX => ex_sub1W (by omega) (by omega) rfl rfl rfl) ?_; try simp only [pS]
            refine wpG_take _ (.pointer (some ⟨g, m1, none⟩)) rfl (by rfl) (fun X hX => ex_iaW (by omega) rfl rfl rfl) ?_; try simp only [pS]
            refine wpG_take _ (.int .u32 ((dj[m1]! : Nat) : Int)) rfl (by rfl) (fun X hX => ex_ldW hX (by rw [HDS.out]; omega) rfl rfl) ?_; try simp only [pS]
            refine wpG_call _ rfl (by rfl) 113 #[.int .u32 ((dj[m1 + 1]! : Nat) : Int), .int .u32 ((dj[m1]! : Nat) : Int)] (fun X => by go_simp) (fun u X => u = .bool false ∧ X = wr.drew) ((less_any _ _ _).mono fun e X ⟨e1, e2⟩ => ⟨_, e1, by rw [e2]; exact HU.out, by rw [HMM.out], e2⟩) ?_
            rintro u X8 hx8 ⟨rfl, rfl⟩
            refine ⟨_, fun _ h => h, hx8, ?_⟩
            clear hx8; try simp only [pS]
            refine gT (.bool false) ?_; try simp only [pS]
            refine wpG_nil ?_
            have HO2 : Hid (Sort.insOuter lt32 a b (k + 1) dj = D) := Lib.hid (by rw [← HDO.out]; exact (insOuter_go hlt (by rw [← HDI.out, insInner_stop hmm])).symm)
            clear hmm
            go_wp2_with fail
            go_roundw
            case rel => exact ⟨k + 1, dj, by go_num, by omega, by have := HB.out; omega, HDS.out, HO2.out, HS.out.drew⟩
            case measure => first | (simp [intOf]; done) | (simp [intOf]; omega)
        · obtain rfl : a = m := by omega
          have HO2 : Hid (Sort.insOuter lt32 a b (k + 1) dj = D) := Lib.hid (by rw [← HDO.out]; exact (insOuter_go hlt (by rw [← HDI.out, insInner_end])).symm)
          go_upto_region 4 with fail
          refine gS (.take 0 (.take 1 (.take 2 (.take 3 (.take 4 (.take 5 (.take 6 (.take 7 (.take 8 (.take 9 (.take 10 (.take 11 (.take 12 (.step 13 (.take 14 (.nil)))))))))))))))) (fun X => UAt X g dj rest) (HU.out) ?_
          refine gT (.int .i64 ((a : Nat) : Int)) ?_; try simp only [pS]
          refine gT (.int .i64 ((a : Nat) : Int)) ?_; try simp only [pS]
          refine wpG_take _ (.bool false) rfl (by rfl) (fun X hX => ex_gtrW (by first | (simp; done) | (simp; omega)) rfl rfl rfl) ?_; try simp only [pS]
          refine gT (.bool false) ?_; try simp only [pS]
          refine wpG_pass _ rfl (by rfl) ?_; try simp only [pS]
          refine wpG_pass _ rfl (by rfl) ?_; try simp only [pS]
          refine wpG_pass _ rfl (by rfl) ?_; try simp only [pS]
          refine wpG_pass _ rfl (by rfl) ?_; try simp only [pS]
          refine wpG_pass _ rfl (by rfl) ?_; try simp only [pS]
          refine wpG_pass _ rfl (by rfl) ?_; try simp only [pS]
          refine wpG_pass _ rfl (by rfl) ?_; try simp only [pS]
          refine wpG_pass _ rfl (by rfl) ?_; try simp only [pS]
          refine wpG_pass _ rfl (by rfl) ?_; try simp only [pS]
          refine wpG_skip _ rfl (by rfl) (HU.out) ?_; try simp only [pS]
          refine gT (.bool false) ?_; try simp only [pS]
          refine wpG_nil ?_
          go_wp2_with fail
          go_roundw
          case rel => exact ⟨k + 1, dj, by go_num, by omega, by have := HB.out; omega, HDS.out, HO2.out, HS.out.drew⟩
          case measure => first | (simp [intOf]; done) | (simp [intOf]; omega)
    · have hD2 : dk = D := by rw [← HDO.out, insOuter_end hlt]
      have HE := Lib.hid (HPO.out _ (by rw [← hD2]; exact HS.out))
      clear hD2
      go_wp2_with fail
      first | exact HE.out | (go_end0; exact HE.out) | (go_ret; exact HE.out)
end Go.Proofs.YtjgjohdeeeoeoaaGreatDoor
