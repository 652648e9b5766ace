/- A map in memory whose keys are whole numbers of one kind, whatever its values. -/
import Derived.Test.YtjgjohdeeeoeoaaGreatDoorM11
import Derived.Maps.OwnSet
import Derived.Maps.Views
import Derived.Sort.MapsRangeIn
import Derived.RangeFuncSeq
import Derived.RangeFuncWrites
import Derived.RangeFuncLeaves
import Derived.LoopIn
import Derived.LoopNIn
import Derived.RegionIn
import Derived.TacticsInMore
import Derived.RangeFuncBox
import Derived.RangeFuncNested
import Derived.RangeFuncCalls
import Derived.Maps.AppendAt
import Derived.OwnWalkIn
import Derived.Test.YtjgjohdeeeoeoaaGreatDoorM30
import Derived.Sort.AssemblyPlain
import Derived.BigGuard
import Derived.BigCall
import Derived.CellFam
import Derived.Deep.Draws
import Derived.Deep.QuietTactic
import Derived.BigQuiet
set_option linter.all false
namespace Go.Proofs.YtjgjohdeeeoeoaaGreatDoor
open Go.RowKit
variable {ss : List Nat} {r x : Nat}
structure MTy (β : Type) where
 k : TypeId
 t : TypeId
 e : TypeId
 q : IntKind
 top : Nat
 ev : β → Value
 dv : β → DataW Unit
 z : β
 hk : Tryz.prog.underlying k = some (.int q)
 ht : Tryz.prog.underlying t = some (.map k e)
 hz : ∀ w, (zeroValue e).run Tryz.prog w = .ok (ev z) w
 je : ∀ {a b}, ev a = ev b → a = b
 jd : ∀ {a b}, dv a = dv b → a = b
 fit : ∀ {a : Nat}, a < top → (Lit.int q (a : Int)).wf = true
 inv : ∀ {a : Int}, (Lit.int q a).wf = true → ∃ n : Nat, a = (n : Int) ∧ n < top
section
variable {β : Type} {T : MTy β}
abbrev MTy.kv (T : MTy β) (x : Nat) : Value := .int T.q (x : Int)
abbrev MTy.kl (T : MTy β) (x : Nat) : Lit := .int T.q (x : Int)
theorem MTy.kl_inj {y : Nat} (h : T.kl x = T.kl y) : x = y := by
 have := Lit.int.inj h;omega
open Classical in
noncomputable def MTy.rd (T : MTy β) (v : Value) : Option (DataW Unit × List MemPlace) :=
 if h : ∃ b : β, v = T.ev b then some (T.dv h.choose, []) else none
theorem MTy.rd_mk (b : β) : T.rd (T.ev b) = some (T.dv b, []) := by
 have hx : ∃ b' : β, T.ev b = T.ev b' := ⟨b, rfl⟩;unfold MTy.rd;rw [dif_pos hx, ← T.je hx.choose_spec]
theorem MTy.rd_inv {v : Value} {y : DataW Unit × List MemPlace} (h : T.rd v = some y) : ∃ b : β, v = T.ev b ∧ y = (T.dv b, []) := by
 unfold MTy.rd at h;split at h
 ·rename_i hx
  cases h;exact ⟨_, hx.choose_spec, rfl⟩
 ·cases h
theorem MTy.keyed : Maps.Keyed Tryz.prog T.k := Maps.int_keyed T.hk
theorem MTy.key (h : x < T.top) : keyOf Tryz.prog T.k (T.kv x) = some (T.kl x) := Maps.keyOf_int_mk T.hk (T.fit h)
theorem MTy.key_inv {key : Value} {l : Lit} (h : keyOf Tryz.prog T.k key = some l) : ∃ x : Nat, key = T.kv x ∧ l = T.kl x ∧ x < T.top := by
 cases key <;> simp [keyOf, T.hk, mapKey] at h
 rename_i q a
 obtain ⟨⟨hq, hw⟩, rfl⟩ := h;subst hq;obtain ⟨n, rfl, hn⟩ := T.inv hw;exact ⟨n, rfl, rfl, hn⟩
theorem In {w : World} {M n : Nat} {D : DataW Unit} (h : w.ownsMap Tryz.prog T.k T.rd M n D) : w.ownsMap Tryz.prog T.k T.rd M (Maps.size D) D := by
 obtain ⟨es, c, h1, h2, h3, rfl⟩ := h;exact ⟨es, c, h1, h2, by rw [Maps.size_eq, length_read]; exact Nat.le_refl _, rfl⟩
structure SaysG (T : MTy β) (D : DataW Unit) (f : Nat → Option β) : Prop where
 has : ∀ x, x < T.top → Maps.has D (T.kl x) = (f x).isSome
 at_ : ∀ x, x < T.top → D.atKey (T.kl x) (T.dv T.z) = T.dv ((f x).getD T.z)
def MapG (T : MTy β) (w : World) (M : Nat) (f : Nat → Option β) (n : Nat) : Prop :=
 ∃ D : DataW Unit, w.ownsMap Tryz.prog T.k T.rd M n D ∧ Maps.size D = n ∧ SaysG T D f
variable {w w' : World} {M n : Nat} {f : Nat → Option β}
theorem MapG.lt (h : MapG T w M f n) : M < w.heap.size := by obtain ⟨_, h, _⟩ := h; exact h.lt
theorem MapG.kept (h : MapG T w M f n) (hb : w'.heap[M]? = w.heap[M]?) : MapG T w' M f n := by
 obtain ⟨D, ⟨es, c, h1, h2⟩, h3⟩ := h;exact ⟨D, ⟨es, c, hb.trans h1, h2⟩, h3⟩
theorem MapG.below {B : Nat} (h : MapG T w M f n) (hb : Below B w w') (hB : M < B) : MapG T w' M f n := h.kept (hb.block M hB)
theorem MapG.obj (h : MapG T w M f n) : ∃ es c, w.heap[M]? = some (.map es c) := by
 obtain ⟨D, ⟨es, c, h1, _⟩, _⟩ := h;exact ⟨es, c, h1⟩
theorem MapG.made (w : World) : MapG T (w.alloc (.map #[] 0)) w.heap.size (fun _ => none) 0 :=
 ⟨.map [], (World.ownsMap_made w _ _ _).mono (Nat.zero_le _), rfl, fun _ _ => rfl, fun _ _ => rfl⟩
theorem MapG.look (h : MapG T w M f n) (hx : x < T.top) : (Instr.lookup T.t (.map (some M)) (T.kv x) false).run Tryz.prog w = .ok (T.ev ((f x).getD T.z)) w := by
 obtain ⟨D, h1, -, h3⟩ := h;obtain ⟨v, ps, a0, hv⟩ := h1.lookup T.keyed T.ht (T.hz w) (T.rd_mk T.z) (T.key hx);obtain ⟨e, rfl, hy⟩ := T.rd_inv hv;rw [h3.at_ x hx] at hy;simp only [Prod.mk.injEq] at hy;rw [a0, ← T.jd hy.1]
def B1 (f : Nat → Option β) (x : Nat) (b : β) : Nat → Option β := fun y => if y = x then some b else f y
theorem MapG.put (h : MapG T w M f n) (hn : n < 1000000) (hx : x < T.top) (b : β) :
  ∃ w', (Instr.mapUpdate T.t (.map (some M)) (T.kv x) (T.ev b)).run Tryz.prog w = .ok () w' ∧ MapG T w' M (B1 f x b) (if (f x).isSome then n else n + 1) ∧ w.grownBy w' (some M) := by
 obtain ⟨D, h1, h2, h3⟩ := h;obtain ⟨w', a0, ho, a3⟩ := h1.update T.keyed T.ht (by unfold maxLen; omega) (T.key hx) (T.rd_mk b);have hm : Maps.IsMap D := h1.isMap
 have a2 : Maps.size (D.put (T.kl x) (T.dv b)) = if (f x).isSome then n else n + 1 := by
  rw [Maps.size_put (h1.tidy T.keyed), h3.has x hx, h2]
 have a1 := T.keyed.key (T.key hx);have ho := In ho;rw [a2] at ho;refine ⟨w', a0, ⟨_, ho, a2, fun y hy => ?_, fun y hy => ?_⟩, a3⟩
 ·by_cases hq : y = x
  ·subst hq
   rw [Maps.has_put_same hm a1];simp [B1]
  ·rw [Maps.has_put_other (fun e => hq (T.kl_inj e)), h3.has y hy]
   simp [B1, hq]
 ·by_cases hq : y = x
  ·subst hq
   rw [Maps.atKey_put_same hm a1];simp [B1]
  ·rw [Maps.atKey_put_other (fun e => hq (T.kl_inj e)), h3.at_ y hy]
   simp [B1, hq]
def tw (T : MTy β) (f : Nat → Option β) (n : Nat) (ss : List Nat) : Prop := ss.length ≤ n ∧ ss.Nodup ∧ ∀ x, x ∈ ss ↔ (x < T.top ∧ (f x).isSome = true)
def RngG (T : MTy β) (w : World) (M r : Nat) (f : Nat → Option β) (n : Nat) (ss : List Nat) : Prop :=
 ∃ (D : DataW Unit) (left : Lit → Bool) (cnt : Nat), w.ranges Tryz.prog T.k T.rd M r n D left cnt ∧ SaysG T D f ∧ ss.length + cnt ≤ n ∧ ss.Nodup ∧ (∀ x ∈ ss, x < T.top) ∧ ∀ x, x < T.top → (x ∈ ss ↔ ((f x).isSome = true ∧ left (T.kl x) = false))
theorem RngG.of_walks (h : RngG T w M r f n ss) (hk : KeepsWalks w w') : RngG T w' M r f n ss ∧ w'.rangeLeft M r = w.rangeLeft M r := by
 obtain ⟨D, a0, a1, h1, h2⟩ := h;have h3 := h1.of_walks hk;exact ⟨⟨D, a0, a1, h3, h2⟩, by rw [h3.left_eq, h1.left_eq]⟩
theorem RngG.iter (h : RngG T w M r f n ss) : ∃ o : Obj, w.heap[r]? = some o ∧ o.isWalk = true := by
 obtain ⟨D, a0, a1, h1, h2⟩ := h;exact h1.iter_walk
section
variable {F : Fence} {m : Nat} {ops : Array Oper} {rest : List Oper} {o : Oper} {a : Act} {Q : Exit → Act → World → Prop}
theorem xm (hg : o.guard = none) (x : Operand) (t : TypeId) (hop : o.op = .range t x) (ht : t = T.t) (hx : a.eval x = .map (some M)) (h : MapG T w M f n)
  (hK : ∀ w', RngG T w' M w.heap.size f n [] → w.grownBy w' none → w'.heap.size = w.heap.size + 1 → wpListIn F m Tryz.prog ops Q rest (a.put o.dst (.pointer (some ⟨w.heap.size, 0, none⟩))) w') :
  wpListIn F m Tryz.prog ops Q (o :: rest) a w := by
 subst ht;obtain ⟨D, h1, h2, h3⟩ := h;refine wpListIn_range_own w hg x T.t hop T.k T.e T.keyed T.ht T.rd M n D hx h1 fun w' r1 r2 r3 => hK w' ⟨D, _, _, r1, h3, by rw [h2]; simp, List.nodup_nil, fun x hx => (by cases hx), fun x hx => ?_⟩ r2 r3
 rw [h3.has x hx];cases (f x).isSome <;> simp
theorem yf (hg : o.guard = none) (it : Operand) (hop : o.op = .next it false) (hit : a.eval it = .pointer (some ⟨r, 0, none⟩)) (h : RngG T w M r f n ss)
  (hDone : tw T f n ss → wpListIn F m Tryz.prog ops Q rest (a.put o.dst (.tuple #[.bool false])) w)
  (hMore : ∀ (x : Nat) (b : β) (w' : World), x < T.top → f x = some b → ss.length < n → RngG T w' M r f n (ss ++ [x]) → w'.rangeLeft M r < w.rangeLeft M r → w.grownBy w' (some r) → w'.heap.size = w.heap.size → (Instr.entry (.pointer (some ⟨r, 0, none⟩))).run Tryz.prog w' = .ok (.tuple #[T.kv x, T.ev b]) w' → wpListIn F m Tryz.prog ops Q rest (a.put o.dst (.tuple #[.bool true, T.kv x, T.ev b])) w') :
  wpListIn F m Tryz.prog ops Q (o :: rest) a w := by
 obtain ⟨D, a4, a5, h1, h2, h3, h4, h5, h6⟩ := h;refine wpListIn_next_ranges w hg it hop T.k T.keyed T.rd (T.kv) T.ev (fun key l hk => by obtain ⟨x, hx, _⟩ := T.key_inv hk; exact ⟨x, hx⟩) (fun v y hv => by obtain ⟨b, hb, _⟩ := T.rd_inv hv; exact ⟨b, hb⟩) M r n D a4 a5 hit h1 ?_ ?_
 ·intro _ hl
  refine hDone ⟨by omega, h4, fun x => ⟨fun hx => ⟨h5 x hx, ((h6 x (h5 x hx)).1 hx).1⟩, fun hx => (h6 x hx.1).2 ⟨hx.2, hl _⟩⟩⟩
 ·intro x c l y w' cnt' hkey hlk hv hat hrg hlt hgr hsz hen
  obtain ⟨x', ex, rfl, a1⟩ := T.key_inv hkey;obtain rfl : x = x' := by have := Value.int.inj ex; omega
  obtain ⟨c', ec, rfl⟩ := T.rd_inv hv;obtain rfl := T.je ec;have a2 : Maps.has D (T.kl x) = true := Maps.has_true_of_atKey hat;have a0 : (f x).isSome = true := (by rw [← h2.has x a1]; exact a2);obtain ⟨b, hb⟩ := Option.isSome_iff_exists.1 a0
  have a6 : b = c := by
   have h7 := h2.at_ x a1;rw [hat, hb] at h7;exact (T.jd h7).symm
  subst a6;have a3 : x ∉ ss := fun hx => by have := ((h6 x a1).1 hx).2; rw [hlk] at this; cases this
  refine hMore x b w' a1 hb (by omega) ⟨D, _, cnt', hrg, h2, by simp; omega, ?_, ?_, ?_⟩ (by rw [hrg.left_eq, h1.left_eq]; exact hlt) hgr hsz hen
  ·exact List.nodup_append.2 ⟨h4, by simp, fun a ha b hb => by simp at hb; subst hb; exact fun e => a3 (e ▸ ha)⟩
  ·intro y hy
   rcases List.mem_append.1 hy with hy | hy
   ·exact h5 y hy
   ·simp at hy; subst hy; exact a1
  ·intro y hy
   by_cases hq : y = x
   ·subst hq
    simp [a0, Lit.sameKey]
   ·rw [List.mem_append, h6 y hy]
    have a7 : (T.kl y).sameKey (T.kl x) = false := (by simp [Lit.sameKey]; omega);simp [hq, a7]
end
end
end Go.Proofs.YtjgjohdeeeoeoaaGreatDoor
namespace Go.Proofs.YtjgjohdeeeoeoaaGreatDoor
open Go.RowKit
attribute [local go_sem] Oper.semAt_some
variable {d dk : Array Nat} {lb : Array Value} {m : Bool} {rest : List Value} {B N a b f g gf hi i j k r : Nat} {W : World}
section
variable {β : Type} {T : MTy β}
theorem T6 (mb : Option Nat) (w : World) : Calls Tryz.prog 37 #[.map mb] w fun e w' => e = .returned (.func (.func 68) #[] #[.pointer (some ⟨w.heap.size, 0, none⟩)]) ∧ w' = w.alloc (.cells #[.map mb] 96) := by
 go_enter Tryz.func37, Tryz.ntmps37
 go_wp2_with fail
 first | exact ⟨rfl, rfl⟩ | (go_ret; exact ⟨rfl, rfl⟩)
set_option maxRecDepth 100000 in
set_option maxHeartbeats 4000000 in
theorem I0 (hT : T.t = 96) (n : Nat) (hn : 1 ≤ n) {w : World} {M : Nat} {f : Nat → Option β} (hb : w.cell? ⟨B, 0, none⟩ = some (.map (some M))) (hB : B < w.heap.size) (hM : MapG T w M f N) :
  SeqStopsK Fence.wide n Tryz.prog 68 #[.pointer (some ⟨B, 0, none⟩)] (fun x : Nat => #[T.kv x]) KeepsWalks (tw T f N) (fun _ => True) N w := by
 intro l J Jx W hW hJ hJx hY h0;have hm : W.cell? ⟨B, 0, none⟩ = some (.map (some M)) := (hW.cell (p := ⟨B, 0, none⟩) hB).trans hb;have a6 : MapG T W M f N := hM.below hW hM.lt;clear hb hM hW hB;refine callsIn_of_wp Tryz.func68 rfl trivial ?_ rfl;simp only [Tryz.ntmps68, List.size_toArray, List.length_cons, List.length_nil, Nat.reduceAdd, Nat.reduceSub, Array.replicate_succ, Array.replicate_zero, List.push_toArray, List.append_toArray, List.nil_append, List.cons_append]
 gi_wp2_with (first | (gi_at_range; refine xm rfl _ _ rfl hT.symm rfl a6 ?_; intro w0 hrg0 hg0 hs0) | gi_in)
 (try go_frame)
 gi_loopw [3] (fun _ wr => ∃ ss : List Nat, RngG T wr M W.heap.size f N ss ∧ J ss wr) (fun _ wr => wr.rangeLeft M W.heap.size)
 case atStart => exact ⟨[], hrg0, hJ [] W w0 none h0 hg0 (fun r e => by cases e)⟩
 case round =>
  obtain ⟨ss, a3, a2⟩ := hrel
  gi_wp2_with (first | (gi_at_next; refine yf rfl _ rfl rfl a3 ?_ ?_) | gi_in)
  ·intro hd
   gi_wp2
   go_end0;exact ⟨⟨_, rfl⟩, .inl ⟨ss, hd, a2⟩⟩
  ·intro x b w2 hx hfx hlen hrg2 hlt2 hg2 hs2 hen
   have a5 : J ss w2 := hJ ss wr w2 (some W.heap.size) a2 hg2 (fun r e => by cases e; exact ⟨Nat.le_refl _, a3.iter⟩);obtain ⟨fn, a8, a0, a4, hy, hR⟩ := hY ss x w2 a5 hlen;clear hs2
   gi_wp2
   refine hR.mono ?_;rintro e W3 (⟨rfl, hJ3, hk3⟩ | ⟨rfl, hJx3⟩)
   ·gi_wp2
    obtain ⟨a1, a7⟩ := hrg2.of_walks hk3
    go_roundw
    case rel => exact ⟨ss ++ [x], a1, hJ3⟩
    case measure => rw [a7]; exact hlt2
   ·gi_wp2
    refine bodyPost_ret (results_none rfl _ _ _) rfl ?_;exact ⟨⟨_, rfl⟩, .inr ⟨_, trivial, hJx3⟩⟩
end
section
variable {β : Type} {T : MTy β}
theorem Xw : (Tryz.prog.info? 24).map (fun i => (i.zero, i.size, i.bytes)) = some (some (.int .u32 0), 1, 4) := by kernel_rfl
def a1n (T : MTy β) (w : World) (pre : List Nat) (W : World) : Prop := (∃ v, Boxed W w.heap.size 98 v ∧ W.ownsRow w.heap.size 24 1 v pre.length (pre.map T.kv) ∧ True) ∧ Below w.heap.size w W
theorem Su (w : World) (hB : w.heap.size ≤ B) : OwnFrom B (a1n T w) :=
 OwnFrom.and (Own.from (holdsRow_own w.heap.size w.heap.size 98 24 1 (fun pre : List Nat => pre.length) (fun pre => pre.map T.kv) (fun _ _ => True)) _) (ownFrom_below (Nat.le_refl _) hB)
def pu (T : MTy β) (S : List Nat → Prop) (w : World) (e : Ending) (w' : World) : Prop :=
 ∃ v ss, e = .returned v ∧ S ss ∧ w'.ownsRow w.heap.size 24 1 v ss.length (ss.map T.kv) ∧ Below w.heap.size w w'
set_option maxRecDepth 100000 in
set_option maxHeartbeats 4000000 in
theorem H6 (eg : ∀ args w, (callFunc gf args).run Tryz.prog w = .ok (.enter gf args) w) {S Sp : List Nat → Prop} (hN : N ≤ 1000000) {w : World} (hseq : SeqStopsK Fence.wide 4 Tryz.prog gf lb (fun x : Nat => #[T.kv x]) KeepsWalks S Sp N w) :
  Calls Tryz.prog 88 #[.slice none 0 0, .func (.func gf) #[] lb] w (pu T S w) := by
 obtain ⟨i0, hi, a8, a9, aa⟩ := info_parts Xw;generalize hPost : pu T S w = Post;have HP : Hid (∀ v ss W, S ss → W.ownsRow w.heap.size 24 1 v ss.length (ss.map T.kv) → Below w.heap.size w W → Post (.returned v) W) := zH fun v ss W h1 h2 h3 => by rw [← hPost]; exact ⟨v, ss, rfl, h1, h2, h3⟩
 clear hPost;refine callsIn_wide.1 (callsIn_of_wp_marks (F := Fence.wide) (n := 5) Tryz.func88 rfl trivial ?_ rfl);simp only [Tryz.ntmps88, List.size_toArray, List.length_cons, List.length_nil, Nat.reduceAdd, Nat.reduceSub, Array.replicate_succ, Array.replicate_zero, List.push_toArray, List.append_toArray, List.nil_append, List.cons_append]
 gi_wp2
 have bO := Boxed.new w 98 (.slice none 0 0);have a1 : Below w.heap.size w (w.alloc (.cells #[.slice none 0 0] 98)) := (Below.refl _ w).alloc (Nat.le_refl _) _
 refine wpIn_rangeFunc_ownF (n := 5) rfl (by omega) (gf := gf) (lb := lb) rfl trivial eg hseq walksK_t walksK_b a1 (fun _ => rfl) (a1n T w) (fun _ _ _ => False) (Su w (by simp)) (fun _ _ _ _ _ hs _ _ => hs) ⟨⟨_, bO, ⟨rfl, .inl ⟨rfl, rfl⟩⟩, trivial⟩, a1⟩
  (fun x => { tmps := #[.slice none 0 0, .func (.func gf) #[] lb, .pointer (some ⟨w.heap.size, 0, none⟩), undef, .slice none 0 0, T.kv x, .func (.func gf) #[] lb, T.kv x, undef, undef, undef, undef, undef], defers := [] }) ?assign ?body ?done ?stop
 case assign =>
  intro l x W K hK
  gi_wp2
  exact hK
 case body =>
  rintro l ab x W ⟨⟨v, hv, a0, -⟩, hB⟩ af;have hc := hv.cell
  gi_wp2_with (gi_at_builtin; refine wpListIn_append_own _ rfl _ _ 98 rfl w.heap.size 24 i0 (.int .u32 0) 1 4 Tryz.underlying98 hi a8 a9 aa rfl (by decide) _ _ _ rfl (a0.alloc _) ⟨W.heap.size, 0, none⟩ 1 1 [T.kv x] rfl rfl (cell_one_new _ _ _) (by simp [Value.oneCell']) (by unfold maxLen; omega) (by omega) (by have := hB.size; simp; omega) ?_; intro v' w1 hown' hgrow _; obtain ⟨g', a4, rfl⟩ := ownsRow_succ hown'; obtain ⟨a3, a7, a6, a2, a5⟩ := hv.appended (by decide) a0 hB.size (Nat.le_refl _) hown' hgrow; have ad := a3.cell; have ae := a3.frozen)
  exact ⟨a2, a2.walks, ⟨_, a7, by simpa using a6, trivial⟩, hB.trans a5⟩
 case done =>
  rintro D ys W hD hS ⟨⟨v, hv, a0, -⟩, hB⟩ hK;have hc := hv.cell
  gi_wp2
  refine ⟨by simp, .inl ⟨_, _, rfl, run_takeDeferred hK, ?_⟩⟩;refine ⟨_, results_tmp rfl _ _ _, ?_⟩;exact HP.out v ys _ hS (ownsRow_putObj a0 _ hK rfl) (hB.trans (belowK_b (w := w) (Nat.le_refl _) W D _ _ (by simp at hD; omega) hK rfl rfl))
 case stop =>
  rintro D c ab W _ _ h _;exact h.elim
theorem Rb (eg : ∀ args w, (callFunc gf args).run Tryz.prog w = .ok (.enter gf args) w) {S Sp : List Nat → Prop} (hN : N ≤ 1000000) {w : World} (hseq : SeqStopsK Fence.wide 4 Tryz.prog gf lb (fun x : Nat => #[T.kv x]) KeepsWalks S Sp N w) :
  Calls Tryz.prog 66 #[.func (.func gf) #[] lb] w (pu T S w) := by
 have HA := zH (H6 eg hN hseq);generalize hPost : pu T S w = Post at HA ⊢;have HP : Hid (∀ v W, pu T S w (.returned v) W → Post (.returned v) W) := zH fun v W h => by rw [← hPost]; exact h
 have HV : Hid (∀ e W, Post e W → ∃ v, e = .returned v) := zH fun e W h => by rw [← hPost] at h; obtain ⟨v, _, h, _⟩ := h; exact ⟨v, h⟩
 clear hPost hseq;go_enter Tryz.func66, Tryz.ntmps66
 go_wp2_with fail
 refine HA.out.mono ?_;intro e W h;obtain ⟨v, rfl⟩ := HV.out e W h;have HE := zH h;clear h
 go_wp2_with fail
 first | exact HE.out | (go_ret; exact HE.out)
end
def UV (x : Nat) : Value := .int .u32 (x : Int)
def ao (a b : Nat) : Bool := decide (a < b)
def UAt (w : World) (g : Nat) (d : Array Nat) (rest : List Value) : Prop := Blk w g (d.toList.map UV ++ rest) 24
structure SoW (g : Nat) (w : World) (d : Array Nat) (rest : List Value) (W : World) : Prop where
 at_ : UAt W g d rest
 chg : Chg (fun x => x = g) w W
def pw (g : Nat) (d : Array Nat) (rest : List Value) (w : World) (e : Ending) (W : World) : Prop := e = .returned (.tuple #[]) ∧ SoW g w d rest W
theorem SoW.start {w : World} (h : UAt w g d rest) : SoW g w d rest w := ⟨h, Chg.refl _ _⟩
theorem SoW.drew {w : World} (h : SoW g w d rest W) : SoW g w d rest W.drew := ⟨h.at_, h.chg.drew⟩
theorem SoW.trans {w X : World} {e : Array Nat} (h : SoW g w d rest W) (k : SoW g W e rest X) : SoW g w e rest X := ⟨k.at_, h.chg.trans' k.chg⟩
theorem a2e (hk : k < d.size) : d[k]! = d[k] := getElem!_pos d k hk
theorem UAt.cell {w : World} (h : UAt w g d rest) (hk : k < d.size) : w.cell? ⟨g, k, none⟩ = some (.int .u32 ((d[k]! : Nat) : Int)) := by
 refine Blk.cell h ?_;rw [List.getElem?_append_left (by simpa using hk), List.getElem?_map, Array.getElem?_toList, Array.getElem?_eq_getElem hk, a2e hk];rfl
theorem c8 (d : Array Nat) (i j : Nat) : (Sort.swp d i j).size = d.size := by simp [Sort.swp]
theorem Ve (hi : i < d.size) (hj : j < d.size) (rest : List Value) :
  (((d.toList.map UV ++ rest).set i (UV d[j]!)).set j (UV d[i]!)) = (Sort.swp d i j).toList.map UV ++ rest := by
 have h1 : (d.toList.map UV).length = d.size := by simp
 rw [List.set_append_left _ _ (by omega), List.set_append_left _ _ (by rw [List.length_set]; omega)];congr 1;unfold Sort.swp;rw [Array.toList_setIfInBounds, Array.toList_setIfInBounds, List.map_set, List.map_set]
theorem UAt.swap {w : World} (h : UAt w g d rest) (hi : i < d.size) (hj : j < d.size) :
  UAt ((w.setCell ⟨g, i, none⟩ (UV d[j]!)).setCell ⟨g, j, none⟩ (UV d[i]!)) g (Sort.swp d i j) rest := by
 unfold UAt;rw [← Ve hi hj];exact (Blk.set h i _).set j _
section
variable {ρ : Operand → Value} {o : Oper} {x y : Operand} {w : World}
theorem oe {n cap : Nat} (hk : k < n ∧ n ≤ cap) (ho : o.op = .indexAddr 98 x y) (hx : ρ x = .slice (some ⟨g, 0, none⟩) n cap) (hy : ρ y = .int .i64 (k : Int)) :
  (execOp ρ o).run Tryz.prog w = .ok (.value (.pointer (some ⟨g, k, none⟩))) w := by
 have h1 : ¬ n ≤ k := by omega
 unfold execOp;simp only [ho];go_simp
theorem qk (h : UAt w g d rest) (hk : k < d.size) (ho : o.op = .load 24 x) (hx : ρ x = .pointer (some ⟨g, k, none⟩)) :
  (execOp ρ o).run Tryz.prog w = .ok (.value (.int .u32 ((d[k]! : Nat) : Int))) w := az Tryz.underlying24 ho hx (h.cell hk)
theorem Ek {c : Nat} (hc : c + 1 = a) (ha : a < 1000000) (ho : o.op = .binOp .sub 3 x y 3) (hx : ρ x = .int .i64 (a : Int)) (hy : ρ y = .int .i64 1) : (execOp ρ o).run Tryz.prog w = .ok (.value (.int .i64 (c : Int))) w := by
 have e : IntKind.i64.wrap ((a : Int) - 1) = (c : Int) := by rw [IntKind.wrap_i64]; omega
 unfold execOp;simp only [ho];go_simp
theorem Cl (hm : decide (a < b) = m) (ho : o.op = .binOp .lss 3 x y 3) (hx : ρ x = .int .i64 (a : Int)) (hy : ρ y = .int .i64 (b : Int)) : (execOp ρ o).run Tryz.prog w = .ok (.value (.bool m)) w := by
 have e : decide ((a : Int) < (b : Int)) = m := by rw [← hm, Bool.eq_iff_iff]; simp
 unfold execOp;simp only [ho];go_simp
end
theorem a0m {ρ : Operand → Value} {o : Oper} {x y : Operand} {w : World} {a b : Int} (hm : decide (a < b) = m) (ho : o.op = .binOp .lss 24 x y 24) (hx : ρ x = .int .u32 a) (hy : ρ y = .int .u32 b) : (execOp ρ o).run Tryz.prog w = .ok (.value (.bool m)) w := by
 subst hm;unfold execOp;simp only [ho];go_simp
theorem N1 (x : Nat) (w : World) : Calls Tryz.prog 127 #[.int .u32 (x : Int)] w fun e w' => e = .returned (.bool false) ∧ w' = w := by
 generalize hPost : (fun (e : Ending) (w' : World) => e = .returned (.bool false) ∧ w' = w) = Post;have HE := zH (show Post (.returned (.bool false)) w by rw [← hPost]; exact ⟨rfl, rfl⟩);clear hPost;go_enter Tryz.func127, Tryz.ntmps127
 go_wp2_with fail
 first | exact HE.out | (go_ret; exact HE.out)
theorem fo (x y : Nat) (w : World) : Calls Tryz.prog 113 #[.int .u32 (x : Int), .int .u32 (y : Int)] w fun e w' => e = .returned (.bool (ao x y)) ∧ w' = w := by
 have hx := N1 x w;obtain ⟨m, hm⟩ : ∃ m, ao x y = m := ⟨_, rfl⟩;have HM : Hid (decide ((x : Int) < (y : Int)) = m) := zH (by rw [← hm]; unfold ao; rw [Bool.eq_iff_iff]; simp);rw [hm];generalize hPost : (fun (e : Ending) (w' : World) => e = .returned (.bool m) ∧ w' = w) = Post;have HE := zH (show Post (.returned (.bool m)) w by rw [← hPost]; exact ⟨rfl, rfl⟩);have HX := zH hx;clear hPost hx hm;go_enter Tryz.func113, Tryz.ntmps113
 go_upto_region 1 with fail
 refine wp_region_list ?_;refine p7 (S := fun _ => True) (.int .u32 (x : Int)) (by rfl) trivial (fun X hX => by first | rfl | go_simp) ?_; try simp only [pS]
 refine Ze (by rfl) 127 #[.int .u32 (x : Int)] (by go_simp) (fun u X => u = .bool false ∧ X = w) (HX.out.mono fun e Y ⟨e1, e2⟩ => ⟨_, e1, rfl, e2⟩) ?_;rintro u X1 ⟨rfl, rfl⟩; try simp only [pS]
 refine p7 (S := fun _ => True) (.bool false) (by rfl) trivial (fun X hX => by first | rfl | go_simp) ?_; try simp only [pS]
 refine Du (by rfl) ?_; try simp only [pS]
 refine Du (by rfl) ?_; try simp only [pS]
 refine Du (by rfl) ?_; try simp only [pS]
 refine p7 (S := fun _ => True) (.bool false) (by rfl) trivial (fun X hX => by first | rfl | go_simp) ?_; try simp only [pS]
 refine p7 (S := fun _ => True) (.bool false) (by rfl) trivial (fun X hX => by first | rfl | go_simp) ?_; try simp only [pS]
 refine p7 (S := fun _ => True) (.int .u32 (x : Int)) (by rfl) trivial (fun X hX => by first | rfl | go_simp) ?_; try simp only [pS]
 refine p7 (S := fun _ => True) (.int .u32 (y : Int)) (by rfl) trivial (fun X hX => by first | rfl | go_simp) ?_; try simp only [pS]
 refine p7 (S := fun _ => True) (.bool m) (by rfl) trivial (fun X hX => a0m HM.out rfl rfl rfl) ?_; try simp only [pS]
 refine p7 (S := fun _ => True) (.bool m) (by rfl) trivial (fun X hX => by first | rfl | go_simp) ?_; try simp only [pS]
 refine p7 (S := fun _ => True) (.bool m) (by rfl) trivial (fun X hX => by first | rfl | go_simp) ?_; try simp only [pS]
 refine wpList_nil ?_
 go_wp2_with fail
 first | exact HE.out | (go_ret; exact HE.out)
theorem SoW.drewN {w : World} (h : SoW g w d rest W) (n : Nat) : SoW g w d rest (W.drewN n) := by
 induction n generalizing W with
 | zero => exact h
 | succ n ih => exact (ih h).drew
theorem SoW.swap {w : World} (h : SoW g w d rest W) (hi : i < d.size) (hj : j < d.size) :
  SoW g w (Sort.swp d i j) rest ((W.setCell ⟨g, i, none⟩ (UV d[j]!)).setCell ⟨g, j, none⟩ (UV d[i]!)) :=
 ⟨h.at_.swap hi hj, (h.chg.setCell (.inl rfl) _ _).setCell (.inl rfl) _ _⟩
theorem Ey {dj : Array Nat} (hk : k < b) (h : Sort.insInner ao a k dk = dj) : Sort.insOuter ao a b k dk = Sort.insOuter ao a b (k + 1) dj := by
 rw [Sort.insOuter, if_pos hk, h]
theorem D2 (hk : ¬ k < b) : Sort.insOuter ao a b k dk = dk := by
 rw [Sort.insOuter, if_neg hk]
theorem D1 : Sort.insInner ao a a d = d := by
 cases a with
 | zero => rfl
 | succ a => rw [Sort.insInner, if_neg (by simp)]
theorem Ex {m : Nat} (h : a < m + 1) (hl : ao d[m + 1]! d[m]! = true) : Sort.insInner ao a (m + 1) d = Sort.insInner ao a m (Sort.swp d (m + 1) m) := by
 rw [Sort.insInner, hl];simp [h]
theorem Az {m : Nat} (hl : ao d[m + 1]! d[m]! = false) : Sort.insInner ao a (m + 1) d = d := by
 rw [Sort.insInner, hl];simp
set_option maxRecDepth 100000 in
set_option maxHeartbeats 8000000 in
theorem Xy (g cap a b n : Nat) (d : Array Nat) (rest : List Value) (w : World) (hU : UAt w g d rest) (hn : d.size = n) (hc : n ≤ cap) (hab : a ≤ b) (hb : b ≤ n) (h64 : n ≤ 64) :
  Calls Tryz.prog 107 #[.slice (some ⟨g, 0, none⟩) n cap, .int .i64 (a : Int), .int .i64 (b : Int)] w (pw g (Sort.insertionSort ao d a b) rest w) := by
 obtain ⟨D, hD⟩ : ∃ D, Sort.insertionSort ao d a b = D := ⟨_, rfl⟩;rw [hD];have HD : Hid (Sort.insOuter ao a b (a + 1) d = D) := zH hD;generalize hPost : pw g D rest w = Post;have a8 : Hid (∀ W, SoW g w D rest W → Post (.returned (.tuple #[])) W) := zH fun W h => by rw [← hPost]; exact ⟨rfl, h⟩
 have HS := zH (SoW.start hU);clear hD hPost hU;go_enter Tryz.func107, Tryz.ntmps107
 go_wp2_with fail
 go_loopw [6] (fun i wr => ∃ (k : Nat) (dk : Array Nat), i = .int .i64 (k : Int) ∧ a + 1 ≤ k ∧ k ≤ b + 1 ∧ dk.size = n ∧ Sort.insOuter ao a b k dk = D ∧ SoW g w dk rest wr) (fun i _ => b + 1 - (intOf i).toNat)
 case atStart => exact ⟨a + 1, d, by go_num, by omega, by omega, hn, HD.out, HS.out⟩
 case round =>
  clear HS;obtain ⟨k, dk, rfl, a9, aa, a6, a7, hs⟩ := hrel;have a3 := zH a7; have HS := zH hs;clear a7 hs;by_cases hlt : k < b
  ·go_wp2_with fail
   go_loopw [7] (fun j wr => ∃ (m : Nat) (dj : Array Nat), j = .int .i64 (m : Int) ∧ a ≤ m ∧ m ≤ k ∧ dj.size = n ∧ Sort.insInner ao a m dj = Sort.insInner ao a k dk ∧ SoW g w dj rest wr) (fun j _ => (intOf j).toNat)
   case atStart => exact ⟨k, dk, rfl, by omega, by omega, a6, rfl, HS.out⟩
   case round =>
    clear HS;obtain ⟨m, dj, rfl, ab, ad, a5, a4, hs⟩ := hrel;obtain ⟨G, hG⟩ : ∃ G : Nat → Nat, ∀ t, G t = dj[t]! := ⟨fun t => dj[t]!, fun _ => rfl⟩;have c1 : m < n → wr.cell? ⟨g, m, none⟩ = some (.int .u32 ((G m : Nat) : Int)) := fun ht => by rw [hG]; exact hs.at_.cell (by omega)
    have c0 : wr.cell? ⟨g, m - 1, none⟩ = some (.int .u32 ((G (m - 1) : Nat) : Int)) := (by rw [hG]; exact hs.at_.cell (by omega));have f1 : wr.frozen? ⟨g, m, none⟩ = false := Blk.free hs.at_ m;have f0 : wr.frozen? ⟨g, m - 1, none⟩ = false := Blk.free hs.at_ (m - 1);have a2 := zH a4; have HS := zH hs; have HG := zH hG; have a0 := zH a5;clear a4 hs hG a5 a6
    have out : ∀ q, (m ≤ a ∨ ao (G m) (G (m - 1)) = false) → SoW g w dj rest (wr.drewN q) ∧ Sort.insOuter ao a b (k + 1) dj = D := fun q h => ⟨HS.out.drewN q, by
     have e : Sort.insInner ao a k dk = dj := by
      rw [← a2.out];rcases h with h | h
      ·obtain rfl : m = a := by omega
       exact D1
      ·rcases m with - | m
       ·rw [Sort.insInner]
       ·rw [HG.out, HG.out] at h
        exact Az h
     exact (Ey hlt e).symm.trans a3.out⟩
    have a1 := zH out;clear out;by_cases ham : a < m
    ·have c1 := c1 (by omega)
     go_wp2
     go_big_quiet (first | (go_at_call 113; refine Calls.quiet_of_same (fo _ _ _)))
     go_wp2_with fail
     ·have hl : ao (G m) (G (m - 1)) = true := by assumption
      go_region
      all_goals go_wp2_with fail
      go_roundw
      case rel =>
       obtain ⟨m1, rfl⟩ : ∃ m1, m = m1 + 1 := ⟨m - 1, by omega⟩;refine ⟨m1, Sort.swp dj (m1 + 1) m1, by congr 1; omega, by omega, by omega, by rw [c8]; exact a0.out, ?_, ?_⟩
       ·rw [← a2.out, Ex ham (by rw [← HG.out, ← HG.out]; exact hl)]
       ·rw [HG.out, HG.out]
        exact (HS.out.drewN _).swap (by rw [a0.out]; omega) (by rw [a0.out]; omega)
      case measure => simp [intOf]; omega
     ·have hl : ao (G m) (G (m - 1)) = false := by assumption
      go_roundw
      case rel => exact ⟨k + 1, dj, by go_num, by omega, by omega, a0.out, (a1.out nq (.inr hl)).2, (a1.out nq (.inr hl)).1⟩
      case measure => simp [intOf]; omega
    ·go_wp2
     go_big_quiet (first | (go_at_call 113; refine Calls.quiet_of_same (fo _ _ _)))
     go_wp2_with fail
     go_roundw
     case rel => exact ⟨k + 1, dj, by go_num, by omega, by omega, a0.out, (a1.out nq (.inl (by omega))).2, (a1.out nq (.inl (by omega))).1⟩
     case measure => simp [intOf]; omega
  ·have hE := D2 (a := a) (dk := dk) hlt
   have HE := zH (a8.out _ (by rw [← a3.out, hE]; exact HS.out));clear hE
   go_wp2_with fail
   first | exact HE.out | (go_end0; exact HE.out) | (go_ret; exact HE.out)
theorem Lx (h : hi ≤ 2 * r + 1) : Sort.siftDown ao hi f r d = d := by
 rw [Sort.siftDown, dif_pos h]
theorem G0 (h : ¬ hi ≤ 2 * r + 1) (h2 : 2 * r + 1 + 1 < hi) (hl : ao d[f + (2 * r + 1)]! d[f + (2 * r + 1) + 1]! = true) :
  Sort.siftDown ao hi f r d = if ao d[f + r]! d[f + (2 * r + 1 + 1)]! = false then d else Sort.siftDown ao hi f (2 * r + 1 + 1) (Sort.swp d (f + r) (f + (2 * r + 1 + 1))) := by
 rw [Sort.siftDown, dif_neg h, hl, decide_eq_true h2];simp only [Bool.and_self, if_true];rw [dif_pos (show 2 * r + 2 < hi by omega)];cases ao d[f + r]! d[f + (2 * r + 1 + 1)]! <;> simp
theorem Dj (h : ¬ hi ≤ 2 * r + 1) (h2 : (decide (2 * r + 1 + 1 < hi) && ao d[f + (2 * r + 1)]! d[f + (2 * r + 1) + 1]!) = false) :
  Sort.siftDown ao hi f r d = if ao d[f + r]! d[f + (2 * r + 1)]! = false then d else Sort.siftDown ao hi f (2 * r + 1) (Sort.swp d (f + r) (f + (2 * r + 1))) := by
 rw [Sort.siftDown, dif_neg h, h2];simp only [Bool.false_eq_true, if_false];cases ao d[f + r]! d[f + (2 * r + 1)]! <;> simp
set_option maxRecDepth 100000 in
set_option maxHeartbeats 8000000 in
theorem G3 (g cap lo hi f n : Nat) (d : Array Nat) (rest : List Value) (w : World) (hU : UAt w g d rest) (hn : d.size = n) (hc : n ≤ cap) (hb : f + hi ≤ n) (hlo : lo ≤ 64) (h64 : n ≤ 64) :
  Calls Tryz.prog 122 #[.slice (some ⟨g, 0, none⟩) n cap, .int .i64 (lo : Int), .int .i64 (hi : Int), .int .i64 (f : Int)] w (pw g (Sort.siftDown ao hi f lo d) rest w) := by
 obtain ⟨D, hD⟩ : ∃ D, Sort.siftDown ao hi f lo d = D := ⟨_, rfl⟩;rw [hD];have HD := zH hD;generalize hPost : pw g D rest w = Post;have a9 : Hid (∀ W, SoW g w D rest W → Post (.returned (.tuple #[])) W) := zH fun W h => by rw [← hPost]; exact ⟨rfl, h⟩
 have HN := zH hn; have HC : Hid (n ≤ cap) := zH hc; have HB : Hid (f + hi ≤ n ∧ n ≤ 64 ∧ lo ≤ 64) := zH ⟨hb, h64, hlo⟩;have HS := zH (SoW.start hU);clear hD hPost hU hn hc hb h64 hlo;go_enter Tryz.func122, Tryz.ntmps122
 go_wp2_with fail
 go_loopw [8] (fun i wr => ∃ (r : Nat) (dj : Array Nat), i = .int .i64 (r : Int) ∧ r ≤ 64 ∧ dj.size = n ∧ Sort.siftDown ao hi f r dj = D ∧ SoW g w dj rest wr) (fun i _ => 65 - (intOf i).toNat)
 case atStart => exact ⟨lo, d, rfl, HB.out.2.2, HN.out, HD.out, HS.out⟩
 case round =>
  clear HS;obtain ⟨r, dj, rfl, hr, ae, af, hs⟩ := hrel;obtain ⟨G, hG⟩ : ∃ G : Nat → Nat, ∀ t, G t = dj[t]! := ⟨fun t => dj[t]!, fun _ => rfl⟩;have hC : ∀ t, t < n → wr.cell? ⟨g, t, none⟩ = some (.int .u32 ((G t : Nat) : Int)) ∧ wr.frozen? ⟨g, t, none⟩ = false := fun t ht => ⟨by rw [hG]; exact hs.at_.cell (by omega), Blk.free hs.at_ t⟩
  have a7 := zH hC; have a8 := zH af; have HS := zH hs; have HG := zH hG; have a1 := zH ae;obtain ⟨c, hc⟩ : ∃ c, 2 * r + 1 = c := ⟨_, rfl⟩;obtain ⟨c2, ad⟩ : ∃ c2, c + 1 = c2 := ⟨_, rfl⟩;have a5 := zH hc; have aa := zH ad;have al := IntWalk.i64_in (2 * (r : Int)) (by omega);have am := IntWalk.i64_in ((c : Int)) (by omega);have an : 2 * (r : Int) + 1 = (c : Int) := (by omega);have aj := HB.out;clear hC af hs hG ae;by_cases h1 : hi ≤ c
  ·have j1 : (hi : Int) ≤ (c : Int) := by omega
   have ab : dj = D := (by rw [← a8.out, Lx (by rw [a5.out]; exact h1)]);have HE := zH (a9.out _ (by rw [← ab]; exact HS.out));clear ab h1
   go_wp2
   first | exact HE.out | (go_end0; exact HE.out) | (go_ret; exact HE.out)
  ·have j1 : ¬ (hi : Int) ≤ (c : Int) := by omega
   have H1 := zH (show ¬ hi ≤ 2 * r + 1 by omega);have cr := (a7.out (f + r) (by omega)).1; have fr := (a7.out (f + r) (by omega)).2;have cc := (a7.out (f + c) (by omega)).1; have fc := (a7.out (f + c) (by omega)).2;have ap := IntWalk.i64_in ((c : Int) + 1) (by omega);have aq : (c : Int) + 1 = (c2 : Int) := (by omega);have ar := IntWalk.i64_in ((c2 : Int)) (by omega);have ak : r < c := (by omega);clear hc
   go_wp2
   by_cases h2 : c2 < hi
   ·have cd := (a7.out (f + c + 1) (by omega)).1
    have ah := (a7.out (f + c2) (by omega)).1; have ai := (a7.out (f + c2) (by omega)).2;have j2 : (c2 : Int) < (hi : Int) := (by omega);have e2 : f + (2 * r + 1) + 1 = f + c2 := (by omega);have ag := zH e2;clear e2 ad
    go_big_quiet (first | (go_at_call 113; refine Calls.quiet_of_same (fo _ _ _)))
    go_wp2
    ·have hl : ao (G (f + c)) (G (f + c + 1)) = true := by assumption
     have a6 : Hid (Sort.siftDown ao hi f r dj = if ao dj[f + r]! dj[f + c2]! = false then dj else Sort.siftDown ao hi f c2 (Sort.swp dj (f + r) (f + c2))) := zH (by
      have := G0 (f := f) (d := dj) H1.out (by have := a5.out; have := aa.out; omega) (by rw [a5.out, ← HG.out, ← HG.out]; exact hl);rw [show 2 * r + 1 + 1 = c2 by have := a5.out; have := aa.out; omega] at this
      exact this)
     have a0 := HS.out.drewN nq;generalize wr.drewN nq = W2 at a0 ⊢;have cr : W2.cell? ⟨g, f + r, none⟩ = some (.int .u32 ((G (f + r) : Nat) : Int)) := (by rw [HG.out]; exact a0.at_.cell (by rw [a1.out]; omega));have ce : W2.cell? ⟨g, f + c2, none⟩ = some (.int .u32 ((G (f + c2) : Nat) : Int)) := (by rw [HG.out]; exact a0.at_.cell (by rw [a1.out]; omega));have fr := Blk.free a0.at_ (f + r); have fe := Blk.free a0.at_ (f + c2);have a2 := zH a0;clear a0
     go_big_quiet (first | (go_at_call 113; refine Calls.quiet_of_same (fo _ _ _)))
     go_wp2
     ·have a4 : (!ao (G (f + r)) (G (f + c2))) = true := by assumption
      have a3 : ao (G (f + r)) (G (f + c2)) = false := (by simpa using a4);have HE : ∀ W, SoW g w dj rest W → Post (.returned (.tuple #[])) W := fun W h => a9.out W (by rw [← a8.out, a6.out, if_pos (by rw [← HG.out, ← HG.out]; exact a3)]; exact h)
      first | exact HE _ (a2.out.drewN _) | (go_end0; exact HE _ (a2.out.drewN _)) | (go_ret; exact HE _ (a2.out.drewN _))
     ·have a4 : (!ao (G (f + r)) (G (f + c2))) = false := by assumption
      have a3 : ao (G (f + r)) (G (f + c2)) = true := by simpa using a4
      go_region
      all_goals go_wp2
      go_roundw
      case rel =>
       refine ⟨c2, Sort.swp dj (f + r) (f + c2), by go_num, by have := HB.out; omega, by rw [c8]; exact a1.out, ?_, ?_⟩
       ·rw [← a8.out, a6.out, if_neg (by rw [← HG.out, ← HG.out, a3]; simp)]
       ·rw [HG.out, HG.out]
        exact (a2.out.drewN _).swap (by rw [a1.out]; omega) (by rw [a1.out]; omega)
      case measure => simp [intOf]; omega
    ·have hl : ao (G (f + c)) (G (f + c + 1)) = false := by assumption
     have a6 : Hid (Sort.siftDown ao hi f r dj = if ao dj[f + r]! dj[f + c]! = false then dj else Sort.siftDown ao hi f c (Sort.swp dj (f + r) (f + c))) := zH (by
      have := Dj (f := f) (d := dj) H1.out (by rw [a5.out, ← HG.out, ← HG.out, hl, Bool.and_false]);rw [a5.out] at this
      exact this)
     have a0 := HS.out.drewN nq;generalize wr.drewN nq = W2 at a0 ⊢;have cr : W2.cell? ⟨g, f + r, none⟩ = some (.int .u32 ((G (f + r) : Nat) : Int)) := (by rw [HG.out]; exact a0.at_.cell (by rw [a1.out]; omega));have ce : W2.cell? ⟨g, f + c, none⟩ = some (.int .u32 ((G (f + c) : Nat) : Int)) := (by rw [HG.out]; exact a0.at_.cell (by rw [a1.out]; omega));have fr := Blk.free a0.at_ (f + r); have fe := Blk.free a0.at_ (f + c);have a2 := zH a0;clear a0
     go_big_quiet (first | (go_at_call 113; refine Calls.quiet_of_same (fo _ _ _)))
     go_wp2
     ·have a4 : (!ao (G (f + r)) (G (f + c))) = true := by assumption
      have a3 : ao (G (f + r)) (G (f + c)) = false := (by simpa using a4);have HE : ∀ W, SoW g w dj rest W → Post (.returned (.tuple #[])) W := fun W h => a9.out W (by rw [← a8.out, a6.out, if_pos (by rw [← HG.out, ← HG.out]; exact a3)]; exact h)
      first | exact HE _ (a2.out.drewN _) | (go_end0; exact HE _ (a2.out.drewN _)) | (go_ret; exact HE _ (a2.out.drewN _))
     ·have a4 : (!ao (G (f + r)) (G (f + c))) = false := by assumption
      have a3 : ao (G (f + r)) (G (f + c)) = true := by simpa using a4
      go_region
      all_goals go_wp2
      go_roundw
      case rel =>
       refine ⟨c, Sort.swp dj (f + r) (f + c), by go_num, by have := HB.out; omega, by rw [c8]; exact a1.out, ?_, ?_⟩
       ·rw [← a8.out, a6.out, if_neg (by rw [← HG.out, ← HG.out, a3]; simp)]
       ·rw [HG.out, HG.out]
        exact (a2.out.drewN _).swap (by rw [a1.out]; omega) (by rw [a1.out]; omega)
      case measure => simp [intOf]; omega
   ·have j2 : ¬ (c2 : Int) < (hi : Int) := by omega
    have a6 : Hid (Sort.siftDown ao hi f r dj = if ao dj[f + r]! dj[f + c]! = false then dj else Sort.siftDown ao hi f c (Sort.swp dj (f + r) (f + c))) := zH (by
     have := Dj (f := f) (d := dj) H1.out (by rw [decide_eq_false (by have := a5.out; have := aa.out; omega), Bool.false_and]);rw [a5.out] at this
     exact this)
    go_big_quiet (first | (go_at_call 113; refine Calls.quiet_of_same (fo _ _ _)))
    go_wp2
    have a0 := HS.out.drewN nq;generalize wr.drewN nq = W2 at a0 ⊢;have cr : W2.cell? ⟨g, f + r, none⟩ = some (.int .u32 ((G (f + r) : Nat) : Int)) := (by rw [HG.out]; exact a0.at_.cell (by rw [a1.out]; omega));have ce : W2.cell? ⟨g, f + c, none⟩ = some (.int .u32 ((G (f + c) : Nat) : Int)) := (by rw [HG.out]; exact a0.at_.cell (by rw [a1.out]; omega));have fr := Blk.free a0.at_ (f + r); have fe := Blk.free a0.at_ (f + c);have a2 := zH a0;clear a0
    go_big_quiet (first | (go_at_call 113; refine Calls.quiet_of_same (fo _ _ _)))
    go_wp2
    ·have a4 : (!ao (G (f + r)) (G (f + c))) = true := by assumption
     have a3 : ao (G (f + r)) (G (f + c)) = false := (by simpa using a4);have HE : ∀ W, SoW g w dj rest W → Post (.returned (.tuple #[])) W := fun W h => a9.out W (by rw [← a8.out, a6.out, if_pos (by rw [← HG.out, ← HG.out]; exact a3)]; exact h)
     first | exact HE _ (a2.out.drewN _) | (go_end0; exact HE _ (a2.out.drewN _)) | (go_ret; exact HE _ (a2.out.drewN _))
    ·have a4 : (!ao (G (f + r)) (G (f + c))) = false := by assumption
     have a3 : ao (G (f + r)) (G (f + c)) = true := by simpa using a4
     go_region
     all_goals go_wp2
     go_roundw
     case rel =>
      refine ⟨c, Sort.swp dj (f + r) (f + c), by go_num, by have := HB.out; omega, by rw [c8]; exact a1.out, ?_, ?_⟩
      ·rw [← a8.out, a6.out, if_neg (by rw [← HG.out, ← HG.out, a3]; simp)]
      ·rw [HG.out, HG.out]
       exact (a2.out.drewN _).swap (by rw [a1.out]; omega) (by rw [a1.out]; omega)
     case measure => simp [intOf]; omega
theorem cy {x y : Nat} (h : ao x y = m) (w : World) : Calls Tryz.prog 113 #[.int .u32 (x : Int), .int .u32 (y : Int)] w fun e w' => e = .returned (.bool m) ∧ w' = w := by
 rw [← h];exact fo x y w
theorem fl {P : Exit → Act → World → Prop} {e : Exit} {a : Act} {S : World → Prop} (h : S W) (k : ∀ X, S X → P e a X) : P e a W := k W h
end Go.Proofs.YtjgjohdeeeoeoaaGreatDoor
