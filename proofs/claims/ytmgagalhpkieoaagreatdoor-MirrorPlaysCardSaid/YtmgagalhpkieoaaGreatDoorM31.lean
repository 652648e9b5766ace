/- How copies are looked at: what search makes, the look. -/
import Derived.Test.YtmgagalhpkieoaaGreatDoorM30
namespace Go.Proofs.YtmgagalhpkieoaaGreatDoor
open Go.RowKit

attribute [local go_sem] Oper.semAt_some

def plcells (l : List Cpy) : List Value := l.flatMap plc
theorem plcells_snoc (l : List Cpy) (c : Cpy) : plcells (l ++ [c]) = plcells l ++ plc c := by simp [plcells]
abbrev OwnL (w : World) (B : Nat) (v : Value) (l : List Cpy) : Prop := w.ownsRow B 115 2 v l.length (plcells l)
theorem infoPl : (Tryz.prog.info? 115).map (fun i => (i.zero, i.size, i.bytes)) = some (some (.agg #[.int .i64 0, .int .u16 0]), 2, 16) := by kernel_rfl
theorem ownL_app {w : World} {B : Nat} {v : Value} {l : List Cpy} (h : OwnL w B v l) (hB : B ≤ w.heap.size) (hl : l.length < 1000000) (c : Cpy) {adr : Addr} {cp : Nat} (hnews : ∀ j u, (plc c)[j]? = some u → w.cell? (adr.add j) = some u) (ty : TypeId) :
    ∃ v' w', (Builtin.append_ #[166, 166] ty #[v, .slice (some adr) 1 cp]).run Tryz.prog w = .ok v' w' ∧ OwnL w' B v' (l ++ [c]) ∧ w.grownBy w' v.ownBlock ∧ (v'.ownBlock = v.ownBlock ∨ v'.ownBlock = some w.heap.size) := by
  obtain ⟨i, hi, hz0, hz1, hz2⟩ := rinfo infoPl
  obtain ⟨v', w', hr, h2, h3, _, h5⟩ := run_append_own_at (P := Tryz.prog) w B 166 ty 115 i _ 2 16 Tryz.underlying166 hi hz0 hz1 hz2 rfl (by decide) v l.length (plcells l) h adr 1 cp (plc c) rfl hnews (fun y hy => by simp [plc] at hy; rcases hy with rfl | rfl <;> rfl) (by unfold maxLen; omega) (by omega) hB
  exact ⟨v', w', hr, by unfold OwnL; rw [List.length_append, plcells_snoc]; exact h2, h3, h5⟩
theorem q_onePl {ρ : Operand → Value} {o : Oper} {x : Operand} {c : Cpy} {w : World} (ho : o.op = .buildSlice 166 1 #[(0, x)]) (hx : ρ x = .agg (plc c).toArray) :
    (execOp ρ o).run Tryz.prog w = .ok (.value (.slice (some ⟨w.heap.size, 0, none⟩) 1 1)) (w.alloc (.cells (plc c).toArray 115)) := by
  unfold execOp
  simp only [ho]
  unfold plc at *
  go_simp
theorem q_appL {ρ : Operand → Value} {o : Oper} {x y : Operand} {v u v' : Value} {w w' : World} (ho : o.op = .call { callee := .builtin .append, args := #[x, y], argTypes := #[166, 166] }) (hx : ρ x = v) (hy : ρ y = u)
    (hr : (Builtin.append_ #[166, 166] o.type #[v, u]).run Tryz.prog w = .ok v' w') : (execOp ρ o).run Tryz.prog w = .ok (.value v') w' := by
  unfold execOp
  simp only [ho, resolve, invoke, builtin, Sem.run_bind, Sem.run_pure, Result.andThen_ok, List.map_toArray, List.map_cons, List.map_nil, hx, hy, hr]
def TolB (X : World) (lab : Nat → Nat) (g : Nat) (v : Value) (t : Option Bs) : Prop :=
  match t with
  | none => v = .slice none 0 0
  | some b => ∃ gb, v = .slice (some ⟨gb, 0, none⟩) 512 512 ∧ b.length = 512 ∧ Blk X gb (b.map V8) 5 ∧ lab gb = 0 ∧ g ≤ gb
structure SeAt (g : Nat) (lab : Nat → Nat) (P : Pl) (p : Pt) (t : Option Bs) (bad : List Cpy) (X : World) : Prop where
  bm : Blk X g [.pointer (some ⟨P.M, 0, none⟩)] 31
  bp : Blk X (g + 1) (pcells p) 58
  bb : ∃ v, Blk X (g + 2) [v] 59 ∧ TolB X lab g v t
  bd : ∃ v, Blk X (g + 3) [v] 166 ∧ OwnL X g v bad ∧ ∀ r, v.ownBlock = some r → lab r = 0
  l0 : ∀ j, j < 4 → lab (g + j) = 0
theorem owns_grown {w w' : World} {B e k n : Nat} {v : Value} {xs : List Value} (h : w.ownsRow B e k v n xs) {row : Option Nat} (hg : w.grownBy w' row) (hr : ∀ r, row = some r → ∃ o : Obj, w.heap[r]? = some o ∧ o.isCells = false) : w'.ownsRow B e k v n xs := by
  refine owns_chg h ((Chg.refl (fun b => row = some b) w).grown hg (fun k hk => .inl hk)) (fun g hg2 hf => ?_)
  obtain ⟨cs, hb⟩ := owns_blk h hg2
  obtain ⟨o, h1, h2⟩ := hr g hf
  have hb' : w.heap[g]? = some (.cells cs.toArray e (0, 0)) := hb
  rw [hb'] at h1; cases h1; cases h2
section
variable {w w' X Y : World} {lab lab' : Nat → Nat} {P : Pl} {x : Mi Dsk Sp} {p : Pt} {c : Cpy} {g B : Nat} {t : Option Bs} {bad : List Cpy}
theorem TolB.chg {F : Nat → Prop} {v : Value} (h : TolB X lab g v t) (hc : Chg F X Y) (hF : ∀ b, F b → lab b ≠ 0 ∨ ∃ cs ty, Blk X b cs ty ∧ ty ≠ 5) : TolB Y lab g v t := by
  unfold TolB at *
  cases t with
  | none => exact h
  | some b =>
    obtain ⟨gb, e, hl, hb, h0⟩ := h
    refine ⟨gb, e, hl, hb.chg hc (fun hf => ?_), h0⟩
    rcases hF gb hf with h1 | ⟨cs, ty, h1, h2⟩
    · exact h1 h0.1
    · exact h2 (h1.same hb)
theorem SeAt.stp (h : SeAt g lab P p t bad X) (hs : Stp X lab Y lab') : SeAt g lab' P p t bad Y := by
  have hz : ∀ b, lab b = 0 → ¬ Foot8 lab b := fun b hb hf => hf.1 hb
  have z : ∀ j, j < 4 → ¬ Foot8 lab (g + j) := fun j hj => hz _ (h.l0 j hj)
  obtain ⟨v, hb, ht⟩ := h.bb
  obtain ⟨v2, hb2, ho, hr⟩ := h.bd
  refine ⟨h.bm.chg hs.chg (z 0 (by omega)), h.bp.chg hs.chg (z 1 (by omega)), ⟨v, hb.chg hs.chg (z 2 (by omega)), ?_⟩, ⟨v2, hb2.chg hs.chg (z 3 (by omega)), owns_chg ho hs.chg (fun r hr2 => hz _ (hr r hr2)), fun r hr2 => ?_⟩, fun j hj => ?_⟩
  · unfold TolB at *
    cases t with
    | none => exact ht
    | some b =>
      obtain ⟨gb, e, hl, hbb, h0⟩ := ht
      exact ⟨gb, e, hl, hbb.chg hs.chg (hz _ h0.1), hs.lab0 hbb.lt h0.1, h0.2⟩
  · obtain ⟨cs, hbr⟩ := owns_blk ho hr2
    exact hs.lab0 hbr.lt (hr r hr2)
  · obtain rfl | rfl | rfl | rfl : j = 0 ∨ j = 1 ∨ j = 2 ∨ j = 3 := by omega
    · exact hs.lab0 h.bm.lt (h.l0 0 hj)
    · exact hs.lab0 h.bp.lt (h.l0 1 hj)
    · exact hs.lab0 hb.lt (h.l0 2 hj)
    · exact hs.lab0 hb2.lt (h.l0 3 hj)
theorem SeAt.below (h : SeAt g lab P p t bad X) (hb : Below X.heap.size X Y) : SeAt g lab P p t bad Y := h.stp (Stp.below hb)
theorem SeAt.drew (h : SeAt g lab P p t bad X) : SeAt g lab P p t bad X.drew := h.below (Below.refl _ _).drew
theorem SeAt.grown (h : SeAt g lab P p t bad X) {row : Option Nat} (hg : X.grownBy Y row) (hr : ∀ r, row = some r → ∃ o : Obj, X.heap[r]? = some o ∧ o.isCells = false) : SeAt g lab P p t bad Y := by
  obtain ⟨v, hb, ht⟩ := h.bb
  obtain ⟨v2, hb2, ho, hr2⟩ := h.bd
  refine ⟨h.bm.kept hg hr, h.bp.kept hg hr, ⟨v, hb.kept hg hr, ?_⟩, ⟨v2, hb2.kept hg hr, owns_grown ho hg hr, hr2⟩, h.l0⟩
  unfold TolB at *
  cases t with
  | none => exact ht
  | some b =>
    obtain ⟨gb, e, hl, hbb, h0⟩ := ht
    exact ⟨gb, e, hl, hbb.kept hg hr, h0⟩
end
set_option maxRecDepth 100000 in
set_option maxHeartbeats 4000000 in
theorem search_any (p : Pt) (hp : p.OK) (w : World) (lab : Nat → Nat) (P : Pl) (x : Mi Dsk Sp) (h : MiAt w lab P x) : Calls Tryz.prog 43 #[.pointer (some ⟨P.M, 0, none⟩), .agg (pcells p).toArray] w fun e w' =>
    e = .returned (.tuple #[fval 82 #[.pointer (some ⟨w.heap.size, 0, none⟩), .pointer (some ⟨w.heap.size + 1, 0, none⟩), .pointer (some ⟨w.heap.size + 1 + 1, 0, none⟩), .pointer (some ⟨w.heap.size + 1 + 1 + 1, 0, none⟩)],
      fval 84 #[.pointer (some ⟨w.heap.size + 1 + 1, 0, none⟩), .pointer (some ⟨w.heap.size + 1 + 1 + 1, 0, none⟩), .pointer (some ⟨w.heap.size, 0, none⟩), .pointer (some ⟨w.heap.size + 1, 0, none⟩)]]) ∧ SeAt w.heap.size lab P p none [] w' ∧ Below w.heap.size w w' := by
  have hl0 : ∀ j, j < 4 → lab (w.heap.size + j) = 0 := fun j _ => h.lab0 (by omega)
  have HS : Hid (∀ W, W = (((w.alloc (.cells #[.pointer (some ⟨P.M, 0, none⟩)] 31)).alloc (.cells (pcells p).toArray 58)).alloc (.cells #[.slice none 0 0] 59)).alloc (.cells #[.slice none 0 0] 166) → SeAt w.heap.size lab P p none [] W ∧ Below w.heap.size w W) := Lib.hid (fun W e => by
    subst e
    refine ⟨⟨(((Blk.new' _ _ [.pointer (some ⟨P.M, 0, none⟩)] _ _ rfl rfl).alloc _).alloc _).alloc _, ((Blk.new' _ _ (pcells p) _ _ (by simp) rfl).alloc _).alloc _, ⟨_, (Blk.new' _ _ [.slice none 0 0] _ _ (by simp) rfl).alloc _, rfl⟩, ⟨_, Blk.new' _ _ [.slice none 0 0] _ _ (by simp) rfl, World.ownsRow_nil _ _ _ _, fun r hr => by cases hr⟩, hl0⟩, ?_⟩
    exact ((((Below.refl _ _).alloc (Nat.le_refl _) _).alloc (by simp) _).alloc (by simp; omega) _).alloc (by simp; omega) _)
  clear hl0 h hp
  go_enter Tryz.func43, Tryz.ntmps43
  go_wp2_with fail
  go_ret2
  exact ⟨rfl, HS.out _ rfl⟩
def lkx (x : Mi Dsk Sp) (p : Pt) (c : Cpy) : Mi Dsk Sp := if (gd kinD x p c).isSome || (x.d c.1).dead then x else { x with f := upk x.f c.1 (x.f c.1 + 1) }
def orE (t t2 : Option Bs) : Option Bs := match t with | none => t2 | some b => some b
def lkt (x : Mi Dsk Sp) (p : Pt) (c : Cpy) (t : Option Bs) : Option Bs := orE t (gd kinD x p c)
def lkb (x : Mi Dsk Sp) (p : Pt) (c : Cpy) (bad : List Cpy) : List Cpy := if (gd kinD x p c).isSome || (x.d c.1).dead then bad else bad ++ [c]
structure LkPost (B g : Nat) (w : World) (lab : Nat → Nat) (P : Pl) (x : Mi Dsk Sp) (p : Pt) (t : Option Bs) (bad : List Cpy) (w' : World) : Prop where
  mi : MiTi B w' lab P x
  se : SeAt g lab P p t bad w'
  chg : Chg (fun b => lab b = 4 ∨ (g ≤ b ∧ lab b = 0)) w w'
  kp : KeepsFrom B w w'
  kb : ∀ (k : Nat) (cs : List Value) (ty : TypeId), ty ≠ 115 → k ≠ g + 1 + 1 → k ≠ g + 1 + 1 + 1 → lab k = 0 → Blk w k cs ty → Blk w' k cs ty
theorem q_eqSnIn {t e : TypeId} (ht : Tryz.prog.underlying t = some (.slice e)) (a : Option Addr) (l c d : Nat) (W : World) : (Op.equalIn (d + 1) t (.slice a l c) (.slice none 0 0)).run Tryz.prog W = .ok a.isNone W := by
  cases a <;> simp [Op.equalIn, run_underlying ht]
theorem q_runEqSn {t e : TypeId} (ht : Tryz.prog.underlying t = some (.slice e)) (a : Option Addr) (l c : Nat) (W : World) : (binOp .eql t (.slice a l c) (.slice none 0 0)).run Tryz.prog W = .ok (.bool a.isNone) W := by
  simp only [binOp]
  simp [Op.equal, Op.maxDepth, q_eqSnIn ht a l c 9999 W]
theorem keepsFrom_chg {F : Nat → Prop} {B : Nat} {w w' : World} (hc : Chg F w w') (hF : ∀ b, F b → IsC w b) : KeepsFrom B w w' :=
  ⟨hc.size, fun b o _ ho hn => by
    rw [hc.block b (Array.getElem?_eq_some_iff.1 ho).1 (fun hf => ?_)]
    · exact ho
    · obtain ⟨o', ho', hn'⟩ := hF b hf
      rw [ho] at ho'; cases ho'; rw [hn] at hn'; cases hn'⟩
section
variable {w w1 w2 : World} {lab : Nat → Nat} {P : Pl} {x x1 x2 : Mi Dsk Sp} {p : Pt} {g B : Nat} {t t1 t2 : Option Bs} {bad bad1 bad2 : List Cpy}
theorem LkPost.refl (h : MiTi B w lab P x) (hs : SeAt g lab P p t bad w) : LkPost B g w lab P x p t bad w := ⟨h, hs, Chg.refl _ _, KeepsFrom.refl _ _, fun _ _ _ _ _ _ _ h => h⟩
theorem LkPost.trans (h : LkPost B g w lab P x1 p t1 bad1 w1) (k : LkPost B g w1 lab P x2 p t2 bad2 w2) : LkPost B g w lab P x2 p t2 bad2 w2 := ⟨k.mi, k.se, h.chg.trans' k.chg, h.kp.trans k.kp, fun j cs ty a b c d e => k.kb j cs ty a b c d (h.kb j cs ty a b c d e)⟩
theorem LkPost.of_below (hb : Below w.heap.size w w1) (k : LkPost B g w1 lab P x2 p t2 bad2 w2) : LkPost B g w lab P x2 p t2 bad2 w2 :=
  ⟨k.mi, k.se, (Chg.of_below hb).trans' k.chg, (keepsFrom_chg (F := fun _ => False) (Chg.of_below hb) (fun _ h => h.elim)).trans k.kp, fun j cs ty a b c d e => k.kb j cs ty a b c d (e.below hb e.lt)⟩
theorem LkPost.block (h : MiTi B w lab P x) (hs : SeAt g lab P p none bad w) {b : Bs} {gb : Nat} (hK : b.length = 512 ∧ Blk w gb (b.map V8) 5 ∧ lab gb = 0 ∧ g ≤ gb) : LkPost B g w lab P x p (some b) bad (w.setCell ⟨g + 1 + 1, 0, none⟩ (.slice (some ⟨gb, 0, none⟩) 512 512)) := by
  have hc : Chg (fun k => k = g + 1 + 1) w (w.setCell ⟨g + 1 + 1, 0, none⟩ (.slice (some ⟨gb, 0, none⟩) 512 512)) := chg1 _ _ _ _
  obtain ⟨v, hb, ht⟩ := hs.bb
  obtain ⟨v2, hb2, ho, hr⟩ := hs.bd
  refine ⟨h.out hc (fun k e => by subst e; exact hs.l0 2 (by omega)), ⟨hs.bm.chg hc (by omega), hs.bp.chg hc (by omega), ⟨_, hb.set 0 _, gb, rfl, hK.1, hK.2.1.chg hc (fun e => ?_), hK.2.2⟩, ⟨v2, hb2.chg hc (by omega), owns_chg ho hc (fun r hr2 e => ?_), hr⟩, hs.l0⟩,
    hc.mono (fun k e => by right; subst e; exact ⟨by omega, hs.l0 2 (by omega)⟩), keepsFrom_chg hc (fun k e => by subst e; exact hb.isC), fun j cs ty _ hj _ _ hbj => hbj.chg hc hj⟩
  · subst e; exact absurd (hK.2.1.same hb) (by decide)
  · obtain ⟨cs, hbr⟩ := owns_blk ho hr2
    subst e; exact absurd (hbr.same hb) (by decide)
theorem LkPost.found (h : MiTi B w lab P x) (hs : SeAt g lab P p t bad w) {k : Nat} (hk : k < 2) : LkPost B g w lab P { x with f := upk x.f k (x.f k + 1) } p t bad (w.setCell ⟨P.M, 2 + 2 * k, none⟩ (.int .i64 ((x.f k + 1 : Nat) : Int))) := by
  have hc : Chg (fun b => b = P.M) w (w.setCell ⟨P.M, 2 + 2 * k, none⟩ (.int .i64 ((x.f k + 1 : Nat) : Int))) := chg1 _ _ _ _
  obtain ⟨v, hb, _⟩ := h.at'.mi
  exact ⟨h.found hk, hs.stp (h.at'.foundE hk).2, hc.mono (fun b e => .inl (by rw [e]; exact h.at'.lm)), keepsFrom_chg hc (fun b e => by subst e; exact hb.isC), fun j cs ty _ _ _ hz hbj => hbj.chg hc (fun e => by subst e; rw [h.at'.lm] at hz; omega)⟩
theorem LkPost.ill (h : MiTi B w lab P x) (hs : SeAt g lab P p t bad w) (hl : bad.length < 1000) (c : Cpy) (ty : TypeId) : ∃ v v' w2, (∃ sp n k, v = .slice sp n k) ∧ w.cell? ⟨g + 1 + 1 + 1, 0, none⟩ = some v ∧
    (Builtin.append_ #[166, 166] ty #[v, .slice (some ⟨w.heap.size, 0, none⟩) 1 1]).run Tryz.prog (w.alloc (.cells (plc c).toArray 115)) = .ok v' w2 ∧ (∃ sp n k, v' = .slice sp n k) ∧ w2.cell? ⟨g + 1 + 1 + 1, 0, none⟩ = some v ∧ w2.frozen? ⟨g + 1 + 1 + 1, 0, none⟩ = false ∧
    LkPost B g w lab P x p t (bad ++ [c]) (w2.setCell ⟨g + 1 + 1 + 1, 0, none⟩ v') := by
  obtain ⟨v, hb, ht⟩ := hs.bb
  obtain ⟨v2, hb2, ho, hr⟩ := hs.bd
  have hgs : g + 3 < w.heap.size := hb2.lt
  have ha : Below w.heap.size w (w.alloc (.cells (plc c).toArray 115)) := (Below.refl _ _).alloc (Nat.le_refl _) _
  have hbk : Blk (w.alloc (.cells (plc c).toArray 115)) w.heap.size (plc c) 115 := Blk.new _ _ _
  have ho1 : OwnL (w.alloc (.cells (plc c).toArray 115)) g v2 bad := owns_chg ho (Chg.of_below (F := fun _ => False) ha) (fun _ _ h => h)
  obtain ⟨v', w2, hrun, ho2, hg, hob⟩ := ownL_app ho1 (by simp; omega) (by omega) c (adr := ⟨w.heap.size, 0, none⟩) (cp := 1) (fun j u hj => by rw [Addr.add_mid, Nat.zero_add]; exact hbk.cell hj) ty
  have hc : Chg (fun b => v2.ownBlock = some b) w w2 := ((Chg.refl _ w).alloc _).grown hg (fun k hk => .inl hk)
  have hrow : ∀ b, v2.ownBlock = some b → lab b = 0 ∧ g ≤ b ∧ ∃ cs, Blk w b cs 115 := fun b hb => by
    obtain ⟨cs, hbb⟩ := owns_blk ho hb
    refine ⟨hr b hb, ?_, cs, hbb⟩
    rcases ho.2 with ⟨e, _⟩ | ⟨g', _, _, e, h1, _⟩
    · rw [e] at hb; cases hb
    · rw [e] at hb; simp [Value.ownBlock] at hb; omega
  have hn : ∀ {k : Nat} {cs : List Value} {ty : TypeId}, Blk w k cs ty → ty ≠ 115 → ¬ v2.ownBlock = some k := fun {k cs ty} hk hty e => by
    obtain ⟨_, _, cs', hb'⟩ := hrow k e
    exact hty (hk.same hb')
  have hb23 : Blk w2 (g + 1 + 1 + 1) [v2] 166 := hb2.chg hc (hn hb2 (by decide))
  have hc3 : Chg (fun b => b = g + 1 + 1 + 1) w2 (w2.setCell ⟨g + 1 + 1 + 1, 0, none⟩ v') := chg1 _ _ _ _
  have hm2 : MiTi B w2 lab P x := h.out hc (fun b e => (hrow b e).1)
  have hlab' : ∀ r, v'.ownBlock = some r → lab r = 0 ∧ r ≠ g + 1 + 1 + 1 := fun r hr2 => by
    obtain ⟨cs, hbr⟩ := owns_blk ho2 hr2
    refine ⟨?_, fun e => by subst e; exact absurd (hbr.same hb23) (by decide)⟩
    rcases hob with e | e
    · rw [e] at hr2; exact hr r hr2
    · rw [e] at hr2
      simp only [Option.some.injEq, World.size_alloc] at hr2
      exact h.at'.lab0 (by omega)
  refine ⟨v2, v', w2, own_slice3 ho, hb2.cell rfl, hrun, own_slice3 ho2, hb23.cell rfl, hb23.free 0, hm2.out hc3 (fun b e => by subst e; exact hs.l0 3 (by omega)), ?_, ?_, ?_, fun j cs ty hty _ hj _ hbj => (hbj.chg hc (hn hbj hty)).chg hc3 hj⟩
  · refine ⟨(hs.bm.chg hc (hn hs.bm (by decide))).chg hc3 (by omega), (hs.bp.chg hc (hn hs.bp (by decide))).chg hc3 (by omega), ⟨v, (hb.chg hc (hn hb (by decide))).chg hc3 (by omega), ?_⟩, ⟨v', hb23.set 0 _, owns_chg ho2 hc3 (fun r hr2 => (hlab' r hr2).2), fun r hr2 => (hlab' r hr2).1⟩, hs.l0⟩
    refine (ht.chg hc (fun b e => .inr ?_)).chg hc3 (fun b e => .inr ⟨_, _, by subst e; exact hb23, by decide⟩)
    obtain ⟨_, _, cs, hbb⟩ := hrow b e
    exact ⟨cs, _, hbb, by decide⟩
  · refine (hc.mono (fun b e => .inr ⟨(hrow b e).2.1, (hrow b e).1⟩)).trans (hc3.mono (fun b e => ?_)) (fun b hb => .inl hb)
    right; subst e; exact ⟨by omega, hs.l0 3 (by omega)⟩
  · exact (keepsFrom_chg hc (fun b e => by obtain ⟨_, _, cs, hbb⟩ := hrow b e; exact hbb.isC)).trans (keepsFrom_chg hc3 (fun b e => by subst e; exact hb23.isC))
end
structure SkS (g g0 : Nat) (P : Pl) (c : Cpy) (X : World) : Prop where
  cg : X.cell? ⟨g, 0, none⟩ = some (.pointer (some ⟨P.M, 0, none⟩))
  bc : Blk X g0 (plc c) 115
  m0 : X.cell? ⟨P.M, 0, none⟩ = some (.pointer (some ⟨P.D 0, 0, none⟩))
  m1 : X.cell? ⟨P.M, 1, none⟩ = some (.pointer (some ⟨P.D 1, 0, none⟩))
theorem SkS.of {w : World} {lab : Nat → Nat} {P : Pl} {x : Mi Dsk Sp} {p : Pt} {c : Cpy} {g g0 : Nat} {t : Option Bs} {bad : List Cpy} (h : MiAt w lab P x) (hs : SeAt g lab P p t bad w) (hc : Blk w g0 (plc c) 115) : SkS g g0 P c w := ⟨hs.bm.cell rfl, hc, h.cells.1, h.cells.2.1⟩
theorem SkS.drew {g g0 : Nat} {P : Pl} {c : Cpy} {X : World} (h : SkS g g0 P c X) : SkS g g0 P c X.drew := ⟨h.cg, h.bc.drew, h.m0, h.m1⟩
theorem MiTi.drew {B : Nat} {w : World} {lab : Nat → Nat} {P : Pl} {x : Mi Dsk Sp} (h : MiTi B w lab P x) : MiTi B w.drew lab P x := h.below (Below.refl _ _).drew
set_option maxRecDepth 100000 in
set_option maxHeartbeats 8000000 in
theorem look0_any (p : Pt) (hp : p.OK) (a : Nat) (ha : a < 65536) (B g : Nat) (w : World) (lab : Nat → Nat) (P : Pl) (x : Mi Dsk Sp) (n : Nat) (t : Option Bs) (bad : List Cpy) (h : MiTi B w lab P x) (hs : SeAt g lab P p t bad w) (hl : Lim x n) (hn : n < 800000) (hbl : bad.length < 1000) :
    Calls Tryz.prog 82 #[.agg (plc (0, a)).toArray, .pointer (some ⟨g, 0, none⟩), .pointer (some ⟨g + 1, 0, none⟩), .pointer (some ⟨g + 1 + 1, 0, none⟩), .pointer (some ⟨g + 1 + 1 + 1, 0, none⟩)] w fun e w' => e = .returned (.bool (gd kinD x p (0, a)).isSome) ∧ LkPost B g w lab P (lkx x p (0, a)) p (lkt x p (0, a) t) (lkb x p (0, a) bad) w' := by
  have HP := Lib.hid hp; have HA := Lib.hid ha; have HL := Lib.hid hl; have HN := Lib.hid hn; have HBL := Lib.hid hbl
  have HZ : Hid ((Tryz.prog.info? 58).map (·.size) = some (pcells p).length) := Lib.hid (by rw [sizeP, pcells_length hp])
  have hb0 : Below w.heap.size w (w.alloc (.cells (plc (0, a)).toArray 115)) := (Below.refl _ _).alloc (Nat.le_refl _) _
  have HB0 := Lib.hid hb0
  have HM0 := Lib.hid (h.below hb0)
  have HS0 := Lib.hid (hs.below hb0)
  have HC0 : Hid (Blk (w.alloc (.cells (plc (0, a)).toArray 115)) w.heap.size (plc (0, a)) 115) := Lib.hid (Blk.new _ _ _)
  have HGW : Hid (g + 1 + 1 + 1 < w.heap.size) := Lib.hid (by obtain ⟨v, hb, _⟩ := hs.bd; exact hb.lt)
  obtain ⟨xe, hxe⟩ : ∃ y, lkx x p (0, a) = y := ⟨_, rfl⟩
  obtain ⟨te, hte⟩ : ∃ y, lkt x p (0, a) t = y := ⟨_, rfl⟩
  obtain ⟨be, hbe⟩ : ∃ y, lkb x p (0, a) bad = y := ⟨_, rfl⟩
  obtain ⟨t2, ht2⟩ : ∃ y, gd kinD x p (0, a) = y := ⟨_, rfl⟩
  rw [hxe, hte, hbe, ht2]
  have HXE : Hid (xe = if t2.isSome || (x.d 0).dead then x else { x with f := upk x.f 0 (x.f 0 + 1) }) := Lib.hid (by rw [← hxe, ← ht2]; rfl)
  have HTE : Hid (te = orE t t2) := Lib.hid (by rw [← hte, ← ht2]; rfl)
  have HBE : Hid (be = if t2.isSome || (x.d 0).dead then bad else bad ++ [(0, a)]) := Lib.hid (by rw [← hbe, ← ht2]; rfl)
  have hgd := good_any p hp (0, a) (by simp) ha (w.alloc (.cells (plc (0, a)).toArray 115)) lab P x n (h.below hb0).at' hl (by omega)
  rw [ht2] at hgd
  have HGD := Lib.hid hgd
  clear hp ha hl hn hbl hb0 h hs hxe hte hbe ht2 hgd
  go_enter Tryz.func82, Tryz.ntmps82
  go_upto_region 1 with fail
  generalize (w.alloc (.cells (plc (0, a)).toArray 115)) = W0 at HM0 HS0 HC0 HGD HB0 ⊢
  have c0 := HS0.out.bm.cell (j := 0) rfl
  go_wp2_with (first | (refine q_valG (by rfl) (ex_ld (ty := 58) (cs := pcells p) rfl rfl (rng_all HS0.out.bp) Tryz.underlying58 rfl HZ.out) ?_) | (refine q_valG (by rfl) (ex_ld (ty := 115) (cs := plc (0, a)) rfl rfl (rng_all HC0.out) Tryz.underlying115 rfl q_szPl) ?_) | fail)
  refine HGD.out.mono ?_
  rintro e W1 ⟨v1, rfl, ht1, hb1⟩
  have HM1 := Lib.hid (HM0.out.below hb1)
  have HS1 := Lib.hid (HS0.out.below hb1)
  have HC1 := Lib.hid (HC0.out.below hb1 HC0.out.lt)
  have HB1 : Hid (Below w.heap.size w W1) := Lib.hid (HB0.out.trans (hb1.mono HB0.out.size))
  have HWW : Hid (w.heap.size ≤ W0.heap.size) := Lib.hid HB0.out.size
  have HML : Hid (∀ b, W0.heap.size ≤ b → lab b = 0) := Lib.hid (fun b hb => HM0.out.at'.lab0 hb)
  clear hb1 HM0 HS0 HC0 HGD HB0 c0
  obtain ⟨vb, hbb, htb⟩ := HS1.out.bb
  have c2 := hbb.cell (j := 0) rfl
  have f2 := hbb.free 0
  cases t2 with
  | some b =>
    have HXE2 : Hid (xe = x) := Lib.hid (by rw [HXE.out]; rfl)
    have HBE2 : Hid (be = bad) := Lib.hid (by rw [HBE.out]; rfl)
    obtain ⟨gb, rfl, hbl, hbk, hgs⟩ := toldB_src ht1
    have HK : Hid (b.length = 512 ∧ Blk W1 gb (b.map V8) 5 ∧ lab gb = 0 ∧ g ≤ gb) := Lib.hid ⟨hbl, hbk, HML.out gb hgs, by have := HGW.out; have := HWW.out; omega⟩
    clear HXE HBE ht1 hbl hbk hgs
    cases t with
    | none =>
      have htb' : vb = .slice none 0 0 := htb
      subst htb'
      have HTE2 : Hid (te = some b) := Lib.hid HTE.out
      have hsn := q_runEqSn Tryz.underlying59 none 0 0
      clear htb hbb HTE
      simp only [Option.isSome_some]
      go_wp2_with fail
      go_ret
      refine ⟨rfl, ?_⟩
      rw [HXE2.out, HBE2.out, HTE2.out]
      exact LkPost.of_below HB1.out (LkPost.block HM1.out HS1.out HK.out)
    | some b0 =>
      have HTE2 : Hid (te = some b0) := Lib.hid HTE.out
      obtain ⟨gb0, rfl, hl0, hk0, hz0⟩ := htb
      clear HTE hbb hl0 hk0 hz0
      simp only [Option.isSome_some]
      have hsn := q_runEqSn Tryz.underlying59 (some ⟨gb0, 0, none⟩) 512 512
      go_upto_region 4 with fail
      refine gS (.take 0 (.take 1 (.take 2 (.take 3 (.take 4 (.take 5 (.take 6 (.take 7 (.take 8 (.take 9 (.step 10 (.take 11 (.take 12 (.take 13 (.nil))))))))))))))) (fun _ => True) trivial ?_
      refine gT (.bool true) ?_; try simp only [pS]
      refine gT (.bool false) ?_; try simp only [pS]
      refine gT (.bool false) ?_; try simp only [pS]
      refine wpG_pass _ rfl (by rfl) ?_; try simp only [pS]
      refine wpG_pass _ rfl (by rfl) ?_; try simp only [pS]
      refine wpG_pass _ rfl (by rfl) ?_; try simp only [pS]
      refine wpG_pass _ rfl (by rfl) ?_; try simp only [pS]
      refine wpG_pass _ rfl (by rfl) ?_; try simp only [pS]
      refine wpG_pass _ rfl (by rfl) ?_; try simp only [pS]
      refine wpG_pass _ rfl (by rfl) ?_; try simp only [pS]
      refine wpG_skip _ rfl (by rfl) trivial ?_; try simp only [pS]
      refine wpG_pass _ rfl (by rfl) ?_; try simp only [pS]
      refine gT (.bool false) ?_; try simp only [pS]
      refine gT (.bool false) ?_; try simp only [pS]
      refine wpG_nil ?_
      go_wp2_with fail
      go_ret
      refine ⟨rfl, ?_⟩
      rw [HXE2.out, HBE2.out, HTE2.out]
      exact LkPost.of_below HB1.out (LkPost.of_below (Below.refl _ _).drew (LkPost.refl HM1.out.drew HS1.out.drew))
  | none =>
    have HTE2 : Hid (te = t) := Lib.hid (by rw [HTE.out]; cases t <;> rfl)
    simp only [Option.isSome_none]
    have HSL : Hid (SkS g w.heap.size P (0, a) W1.drew) := Lib.hid (SkS.of HM1.out.at'.drew HS1.out.drew HC1.out.drew)
    clear ht1 htb hbb c2 f2 HML HTE
    go_upto_region 4 with fail
    refine gS (.take 0 (.take 1 (.take 2 (.take 3 (.take 4 (.take 5 (.take 6 (.take 7 (.take 8 (.take 9 (.step 10 (.take 11 (.take 12 (.take 13 (.nil))))))))))))))) (SkS g w.heap.size P (0, a)) HSL.out ?_
    refine gT (.bool false) ?_; try simp only [pS]
    refine gT (.bool true) ?_; try simp only [pS]
    refine gT (.bool true) ?_; try simp only [pS]
    refine wpG_take _ (.pointer (some ⟨P.M, 0, none⟩)) rfl (by rfl) (fun X hX => q_ldM rfl rfl (hX.cg)) ?_; try simp only [pS]
    refine gT (.pointer (some ⟨w.heap.size, 0, none⟩)) ?_; try simp only [pS]
    refine wpG_take _ (.int .i64 0) rfl (by rfl) (fun X hX => q_ldI rfl rfl (hX.bc.cell rfl)) ?_; try simp only [pS]
    refine wpG_take _ (.pointer (some ⟨P.M, 0, none⟩)) rfl (by rfl) (fun X hX => ex_nc rfl rfl) ?_; try simp only [pS]
    refine gT (.pointer (some ⟨P.M, 0, none⟩)) ?_; try simp only [pS]
    refine gT (.pointer (some ⟨P.M, 0, none⟩)) ?_; try simp only [pS]
    refine wpG_take _ (.pointer (some ⟨P.D 0, 0, none⟩)) rfl (by rfl) (fun X hX => q_ldD rfl rfl (hX.m0)) ?_; try simp only [pS]
    refine wpG_call _ rfl (by rfl) 27 #[.pointer (some ⟨P.D 0, 0, none⟩)] (fun _ => by go_simp) (fun u w' => u = .bool (x.d 0).dead ∧ W1.drew = w') ((dead_any (P.D 0) P.Q _ (x.d 0) W1.drew (HM1.out.at'.drew.dk 0 (by omega))).mono fun e w' ⟨e1, e2⟩ => ⟨_, e1, by rw [← e2]; exact HSL.out, rfl, e2⟩) ?_
    rintro u W2 hs2 ⟨rfl, rfl⟩
    refine ⟨_, fun _ h => h, hs2, ?_⟩; try simp only [pS]
    refine gT (.bool (!(x.d 0).dead)) ?_; try simp only [pS]
    refine gT (.bool (!(x.d 0).dead)) ?_; try simp only [pS]
    refine gT (.bool (!(x.d 0).dead)) ?_; try simp only [pS]
    refine wpG_nil ?_
    cases hdead : (x.d 0).dead with
    | true =>
      have HXE2 : Hid (xe = x) := Lib.hid (by rw [HXE.out, hdead]; rfl)
      have HBE2 : Hid (be = bad) := Lib.hid (by rw [HBE.out, hdead]; rfl)
      go_wp2_with fail
      go_ret
      refine ⟨rfl, ?_⟩
      rw [HXE2.out, HBE2.out, HTE2.out]
      exact LkPost.of_below HB1.out (LkPost.of_below (Below.refl _ _).drew (LkPost.refl HM1.out.drew HS1.out.drew))
    | false =>
      have HXE2 : Hid (xe = { x with f := upk x.f 0 (x.f 0 + 1) }) := Lib.hid (by rw [HXE.out, hdead]; rfl)
      have HBE2 : Hid (be = bad ++ [(0, a)]) := Lib.hid (by rw [HBE.out, hdead]; rfl)
      have HF := Lib.hid (LkPost.found (k := 0) (HM1.out.drew.below (Below.refl _ _).drew) (HS1.out.drew.drew) (by omega))
      go_upto_region 5 with fail
      have HMD := Lib.hid (HM1.out.drew.drew)
      have HSD : Hid (SkS g w.heap.size P (0, a) W1.drew.drew) := Lib.hid (HSL.out.drew)
      have HC5 : Hid (Blk (W1.drew.drew.setCell ⟨P.M, 2, none⟩ (.int .i64 ((x.f 0 + 1 : Nat) : Int))) w.heap.size (plc (0, a)) 115) := Lib.hid (HC1.out.drew.drew.other (by
        intro e
        obtain ⟨v, hb, _⟩ := HM1.out.at'.mi
        have e : w.heap.size = P.M := e
        rw [← e] at hb
        exact absurd (HC1.out.same hb) (by decide)) _)
      have HSF : Hid (SkS g w.heap.size P (0, a) (W1.drew.drew.setCell ⟨P.M, 2, none⟩ (.int .i64 ((x.f 0 + 1 : Nat) : Int)))) := Lib.hid (SkS.of HF.out.mi.at' HF.out.se HC5.out)
      refine gS (.take 0 (.take 1 (.take 2 (.take 3 (.take 4 (.take 5 (.take 6 (.take 9 (.take 10 (.step 7 (.take 8 (.take 11 (.take 12 (.step 13 (.nil))))))))))))))) (SkS g w.heap.size P (0, a)) HSD.out ?_
      refine wpG_take _ (.pointer (some ⟨P.M, 0, none⟩)) rfl (by rfl) (fun X hX => q_ldM rfl rfl (hX.cg)) ?_; try simp only [pS]
      refine gT (.pointer (some ⟨w.heap.size, 0, none⟩)) ?_; try simp only [pS]
      refine wpG_take _ (.int .i64 0) rfl (by rfl) (fun X hX => q_ldI rfl rfl (hX.bc.cell rfl)) ?_; try simp only [pS]
      refine wpG_take _ (.pointer (some ⟨P.M, 0, none⟩)) rfl (by rfl) (fun X hX => ex_nc rfl rfl) ?_; try simp only [pS]
      refine gT (.pointer (some ⟨P.M, 2, none⟩)) ?_; try simp only [pS]
      refine gT (.pointer (some ⟨P.M, 2, none⟩)) ?_; try simp only [pS]
      refine gT (.pointer (some ⟨P.M, 2, none⟩)) ?_; try simp only [pS]
      refine wpG_take _ (.pointer (some ⟨P.M, 0, none⟩)) rfl (by rfl) (fun X hX => ex_nc rfl rfl) ?_; try simp only [pS]
      refine gT (.pointer (some ⟨P.M, 2, none⟩)) ?_; try simp only [pS]
      refine d_wpG_mk _ rfl (by rfl) (.int .i64 ((x.f 0 : Nat) : Int)) _ (q_ldI rfl rfl (HMD.out.at'.cells.2.2.1)) _ HSD.out (fun _ h => h) ?_; try simp only [pS]
      refine wpG_take _ (.int .i64 ((x.f 0 + 1 : Nat) : Int)) rfl (by rfl) (fun X hX => q_inc rfl rfl rfl (by have := HL.out.f 0; have := HN.out; omega)) ?_; try simp only [pS]
      refine gT (.pointer (some ⟨P.M, 2, none⟩)) ?_; try simp only [pS]
      refine gT (.pointer (some ⟨P.M, 2, none⟩)) ?_; try simp only [pS]
      refine wpG_st _ rfl (by rfl) _ (q_stI rfl rfl rfl (HMD.out.at'.cells.2.2.1) (HMD.out.at'.free 2)) _ HSF.out HSF.out (fun _ h => h) ?_
      refine wpG_nil ?_
      have HM5 := Lib.hid HF.out.mi
      have HS5 := Lib.hid HF.out.se
      obtain ⟨v6, v7, W7, ⟨sp6, n6, k6, rfl⟩, hc6, hr7, ⟨sp7, n7, k7, rfl⟩, hc7, hf7, hpost⟩ := LkPost.ill HM5.out HS5.out (by have := HBL.out; omega) (0, a) 166
      generalize (W1.drew.drew.setCell ⟨P.M, 2, none⟩ (.int .i64 ((x.f 0 + 1 : Nat) : Int))) = W5 at *
      go_wp2_with (first | (refine q_valG (by rfl) (ex_ld (ty := 115) (cs := plc (0, a)) rfl rfl (rng_all HC5.out) Tryz.underlying115 rfl q_szPl) ?_) | (refine q_valG (by rfl) (q_onePl rfl rfl) ?_) | (at_builtin; refine q_valG (by rfl) (q_appL rfl rfl rfl hr7) ?_) | fail)
      go_ret
      refine ⟨rfl, ?_⟩
      rw [HXE2.out, HBE2.out, HTE2.out]
      exact LkPost.of_below HB1.out (LkPost.of_below (Below.refl _ _).drew (LkPost.of_below (Below.refl _ _).drew (HF.out.trans hpost)))
set_option maxRecDepth 100000 in
set_option maxHeartbeats 8000000 in
theorem look1_any (p : Pt) (hp : p.OK) (a : Nat) (ha : a < 65536) (B g : Nat) (w : World) (lab : Nat → Nat) (P : Pl) (x : Mi Dsk Sp) (n : Nat) (t : Option Bs) (bad : List Cpy) (h : MiTi B w lab P x) (hs : SeAt g lab P p t bad w) (hl : Lim x n) (hn : n < 800000) (hbl : bad.length < 1000) :
    Calls Tryz.prog 82 #[.agg (plc (1, a)).toArray, .pointer (some ⟨g, 0, none⟩), .pointer (some ⟨g + 1, 0, none⟩), .pointer (some ⟨g + 1 + 1, 0, none⟩), .pointer (some ⟨g + 1 + 1 + 1, 0, none⟩)] w fun e w' => e = .returned (.bool (gd kinD x p (1, a)).isSome) ∧ LkPost B g w lab P (lkx x p (1, a)) p (lkt x p (1, a) t) (lkb x p (1, a) bad) w' := by
  have HP := Lib.hid hp; have HA := Lib.hid ha; have HL := Lib.hid hl; have HN := Lib.hid hn; have HBL := Lib.hid hbl
  have HZ : Hid ((Tryz.prog.info? 58).map (·.size) = some (pcells p).length) := Lib.hid (by rw [sizeP, pcells_length hp])
  have hb0 : Below w.heap.size w (w.alloc (.cells (plc (1, a)).toArray 115)) := (Below.refl _ _).alloc (Nat.le_refl _) _
  have HB0 := Lib.hid hb0
  have HM0 := Lib.hid (h.below hb0)
  have HS0 := Lib.hid (hs.below hb0)
  have HC0 : Hid (Blk (w.alloc (.cells (plc (1, a)).toArray 115)) w.heap.size (plc (1, a)) 115) := Lib.hid (Blk.new _ _ _)
  have HGW : Hid (g + 1 + 1 + 1 < w.heap.size) := Lib.hid (by obtain ⟨v, hb, _⟩ := hs.bd; exact hb.lt)
  obtain ⟨xe, hxe⟩ : ∃ y, lkx x p (1, a) = y := ⟨_, rfl⟩
  obtain ⟨te, hte⟩ : ∃ y, lkt x p (1, a) t = y := ⟨_, rfl⟩
  obtain ⟨be, hbe⟩ : ∃ y, lkb x p (1, a) bad = y := ⟨_, rfl⟩
  obtain ⟨t2, ht2⟩ : ∃ y, gd kinD x p (1, a) = y := ⟨_, rfl⟩
  rw [hxe, hte, hbe, ht2]
  have HXE : Hid (xe = if t2.isSome || (x.d 1).dead then x else { x with f := upk x.f 1 (x.f 1 + 1) }) := Lib.hid (by rw [← hxe, ← ht2]; rfl)
  have HTE : Hid (te = orE t t2) := Lib.hid (by rw [← hte, ← ht2]; rfl)
  have HBE : Hid (be = if t2.isSome || (x.d 1).dead then bad else bad ++ [(1, a)]) := Lib.hid (by rw [← hbe, ← ht2]; rfl)
  have hgd := good_any p hp (1, a) (by simp) ha (w.alloc (.cells (plc (1, a)).toArray 115)) lab P x n (h.below hb0).at' hl (by omega)
  rw [ht2] at hgd
  have HGD := Lib.hid hgd
  clear hp ha hl hn hbl hb0 h hs hxe hte hbe ht2 hgd
  go_enter Tryz.func82, Tryz.ntmps82
  go_upto_region 1 with fail
  generalize (w.alloc (.cells (plc (1, a)).toArray 115)) = W0 at HM0 HS0 HC0 HGD HB0 ⊢
  have c0 := HS0.out.bm.cell (j := 0) rfl
  go_wp2_with (first | (refine q_valG (by rfl) (ex_ld (ty := 58) (cs := pcells p) rfl rfl (rng_all HS0.out.bp) Tryz.underlying58 rfl HZ.out) ?_) | (refine q_valG (by rfl) (ex_ld (ty := 115) (cs := plc (1, a)) rfl rfl (rng_all HC0.out) Tryz.underlying115 rfl q_szPl) ?_) | fail)
  refine HGD.out.mono ?_
  rintro e W1 ⟨v1, rfl, ht1, hb1⟩
  have HM1 := Lib.hid (HM0.out.below hb1)
  have HS1 := Lib.hid (HS0.out.below hb1)
  have HC1 := Lib.hid (HC0.out.below hb1 HC0.out.lt)
  have HB1 : Hid (Below w.heap.size w W1) := Lib.hid (HB0.out.trans (hb1.mono HB0.out.size))
  have HWW : Hid (w.heap.size ≤ W0.heap.size) := Lib.hid HB0.out.size
  have HML : Hid (∀ b, W0.heap.size ≤ b → lab b = 0) := Lib.hid (fun b hb => HM0.out.at'.lab0 hb)
  clear hb1 HM0 HS0 HC0 HGD HB0 c0
  obtain ⟨vb, hbb, htb⟩ := HS1.out.bb
  have c2 := hbb.cell (j := 0) rfl
  have f2 := hbb.free 0
  cases t2 with
  | some b =>
    have HXE2 : Hid (xe = x) := Lib.hid (by rw [HXE.out]; rfl)
    have HBE2 : Hid (be = bad) := Lib.hid (by rw [HBE.out]; rfl)
    obtain ⟨gb, rfl, hbl, hbk, hgs⟩ := toldB_src ht1
    have HK : Hid (b.length = 512 ∧ Blk W1 gb (b.map V8) 5 ∧ lab gb = 0 ∧ g ≤ gb) := Lib.hid ⟨hbl, hbk, HML.out gb hgs, by have := HGW.out; have := HWW.out; omega⟩
    clear HXE HBE ht1 hbl hbk hgs
    cases t with
    | none =>
      have htb' : vb = .slice none 0 0 := htb
      subst htb'
      have HTE2 : Hid (te = some b) := Lib.hid HTE.out
      have hsn := q_runEqSn Tryz.underlying59 none 0 0
      clear htb hbb HTE
      simp only [Option.isSome_some]
      go_wp2_with fail
      go_ret
      refine ⟨rfl, ?_⟩
      rw [HXE2.out, HBE2.out, HTE2.out]
      exact LkPost.of_below HB1.out (LkPost.block HM1.out HS1.out HK.out)
    | some b0 =>
      have HTE2 : Hid (te = some b0) := Lib.hid HTE.out
      obtain ⟨gb0, rfl, hl0, hk0, hz0⟩ := htb
      clear HTE hbb hl0 hk0 hz0
      simp only [Option.isSome_some]
      have hsn := q_runEqSn Tryz.underlying59 (some ⟨gb0, 0, none⟩) 512 512
      go_upto_region 4 with fail
      refine gS (.take 0 (.take 1 (.take 2 (.take 3 (.take 4 (.take 5 (.take 6 (.take 7 (.take 8 (.take 9 (.step 10 (.take 11 (.take 12 (.take 13 (.nil))))))))))))))) (fun _ => True) trivial ?_
      refine gT (.bool true) ?_; try simp only [pS]
      refine gT (.bool false) ?_; try simp only [pS]
      refine gT (.bool false) ?_; try simp only [pS]
      refine wpG_pass _ rfl (by rfl) ?_; try simp only [pS]
      refine wpG_pass _ rfl (by rfl) ?_; try simp only [pS]
      refine wpG_pass _ rfl (by rfl) ?_; try simp only [pS]
      refine wpG_pass _ rfl (by rfl) ?_; try simp only [pS]
      refine wpG_pass _ rfl (by rfl) ?_; try simp only [pS]
      refine wpG_pass _ rfl (by rfl) ?_; try simp only [pS]
      refine wpG_pass _ rfl (by rfl) ?_; try simp only [pS]
      refine wpG_skip _ rfl (by rfl) trivial ?_; try simp only [pS]
      refine wpG_pass _ rfl (by rfl) ?_; try simp only [pS]
      refine gT (.bool false) ?_; try simp only [pS]
      refine gT (.bool false) ?_; try simp only [pS]
      refine wpG_nil ?_
      go_wp2_with fail
      go_ret
      refine ⟨rfl, ?_⟩
      rw [HXE2.out, HBE2.out, HTE2.out]
      exact LkPost.of_below HB1.out (LkPost.of_below (Below.refl _ _).drew (LkPost.refl HM1.out.drew HS1.out.drew))
  | none =>
    have HTE2 : Hid (te = t) := Lib.hid (by rw [HTE.out]; cases t <;> rfl)
    simp only [Option.isSome_none]
    have HSL : Hid (SkS g w.heap.size P (1, a) W1.drew) := Lib.hid (SkS.of HM1.out.at'.drew HS1.out.drew HC1.out.drew)
    clear ht1 htb hbb c2 f2 HML HTE
    go_upto_region 4 with fail
    refine gS (.take 0 (.take 1 (.take 2 (.take 3 (.take 4 (.take 5 (.take 6 (.take 7 (.take 8 (.take 9 (.step 10 (.take 11 (.take 12 (.take 13 (.nil))))))))))))))) (SkS g w.heap.size P (1, a)) HSL.out ?_
    refine gT (.bool false) ?_; try simp only [pS]
    refine gT (.bool true) ?_; try simp only [pS]
    refine gT (.bool true) ?_; try simp only [pS]
    refine wpG_take _ (.pointer (some ⟨P.M, 0, none⟩)) rfl (by rfl) (fun X hX => q_ldM rfl rfl (hX.cg)) ?_; try simp only [pS]
    refine gT (.pointer (some ⟨w.heap.size, 0, none⟩)) ?_; try simp only [pS]
    refine wpG_take _ (.int .i64 1) rfl (by rfl) (fun X hX => q_ldI rfl rfl (hX.bc.cell rfl)) ?_; try simp only [pS]
    refine wpG_take _ (.pointer (some ⟨P.M, 0, none⟩)) rfl (by rfl) (fun X hX => ex_nc rfl rfl) ?_; try simp only [pS]
    refine gT (.pointer (some ⟨P.M, 0, none⟩)) ?_; try simp only [pS]
    refine gT (.pointer (some ⟨P.M, 1, none⟩)) ?_; try simp only [pS]
    refine wpG_take _ (.pointer (some ⟨P.D 1, 0, none⟩)) rfl (by rfl) (fun X hX => q_ldD rfl rfl (hX.m1)) ?_; try simp only [pS]
    refine wpG_call _ rfl (by rfl) 27 #[.pointer (some ⟨P.D 1, 0, none⟩)] (fun _ => by go_simp) (fun u w' => u = .bool (x.d 1).dead ∧ W1.drew = w') ((dead_any (P.D 1) P.Q _ (x.d 1) W1.drew (HM1.out.at'.drew.dk 1 (by omega))).mono fun e w' ⟨e1, e2⟩ => ⟨_, e1, by rw [← e2]; exact HSL.out, rfl, e2⟩) ?_
    rintro u W2 hs2 ⟨rfl, rfl⟩
    refine ⟨_, fun _ h => h, hs2, ?_⟩; try simp only [pS]
    refine gT (.bool (!(x.d 1).dead)) ?_; try simp only [pS]
    refine gT (.bool (!(x.d 1).dead)) ?_; try simp only [pS]
    refine gT (.bool (!(x.d 1).dead)) ?_; try simp only [pS]
    refine wpG_nil ?_
    cases hdead : (x.d 1).dead with
    | true =>
      have HXE2 : Hid (xe = x) := Lib.hid (by rw [HXE.out, hdead]; rfl)
      have HBE2 : Hid (be = bad) := Lib.hid (by rw [HBE.out, hdead]; rfl)
      go_wp2_with fail
      go_ret
      refine ⟨rfl, ?_⟩
      rw [HXE2.out, HBE2.out, HTE2.out]
      exact LkPost.of_below HB1.out (LkPost.of_below (Below.refl _ _).drew (LkPost.refl HM1.out.drew HS1.out.drew))
    | false =>
      have HXE2 : Hid (xe = { x with f := upk x.f 1 (x.f 1 + 1) }) := Lib.hid (by rw [HXE.out, hdead]; rfl)
      have HBE2 : Hid (be = bad ++ [(1, a)]) := Lib.hid (by rw [HBE.out, hdead]; rfl)
      have HF := Lib.hid (LkPost.found (k := 1) (HM1.out.drew.below (Below.refl _ _).drew) (HS1.out.drew.drew) (by omega))
      go_upto_region 5 with fail
      have HMD := Lib.hid (HM1.out.drew.drew)
      have HSD : Hid (SkS g w.heap.size P (1, a) W1.drew.drew) := Lib.hid (HSL.out.drew)
      have HC5 : Hid (Blk (W1.drew.drew.setCell ⟨P.M, 4, none⟩ (.int .i64 ((x.f 1 + 1 : Nat) : Int))) w.heap.size (plc (1, a)) 115) := Lib.hid (HC1.out.drew.drew.other (by
        intro e
        obtain ⟨v, hb, _⟩ := HM1.out.at'.mi
        have e : w.heap.size = P.M := e
        rw [← e] at hb
        exact absurd (HC1.out.same hb) (by decide)) _)
      have HSF : Hid (SkS g w.heap.size P (1, a) (W1.drew.drew.setCell ⟨P.M, 4, none⟩ (.int .i64 ((x.f 1 + 1 : Nat) : Int)))) := Lib.hid (SkS.of HF.out.mi.at' HF.out.se HC5.out)
      refine gS (.take 0 (.take 1 (.take 2 (.take 3 (.take 4 (.take 5 (.take 6 (.take 9 (.take 10 (.step 7 (.take 8 (.take 11 (.take 12 (.step 13 (.nil))))))))))))))) (SkS g w.heap.size P (1, a)) HSD.out ?_
      refine wpG_take _ (.pointer (some ⟨P.M, 0, none⟩)) rfl (by rfl) (fun X hX => q_ldM rfl rfl (hX.cg)) ?_; try simp only [pS]
      refine gT (.pointer (some ⟨w.heap.size, 0, none⟩)) ?_; try simp only [pS]
      refine wpG_take _ (.int .i64 1) rfl (by rfl) (fun X hX => q_ldI rfl rfl (hX.bc.cell rfl)) ?_; try simp only [pS]
      refine wpG_take _ (.pointer (some ⟨P.M, 0, none⟩)) rfl (by rfl) (fun X hX => ex_nc rfl rfl) ?_; try simp only [pS]
      refine gT (.pointer (some ⟨P.M, 2, none⟩)) ?_; try simp only [pS]
      refine gT (.pointer (some ⟨P.M, 4, none⟩)) ?_; try simp only [pS]
      refine gT (.pointer (some ⟨P.M, 4, none⟩)) ?_; try simp only [pS]
      refine wpG_take _ (.pointer (some ⟨P.M, 0, none⟩)) rfl (by rfl) (fun X hX => ex_nc rfl rfl) ?_; try simp only [pS]
      refine gT (.pointer (some ⟨P.M, 2, none⟩)) ?_; try simp only [pS]
      refine d_wpG_mk _ rfl (by rfl) (.int .i64 ((x.f 1 : Nat) : Int)) _ (q_ldI rfl rfl (HMD.out.at'.cells.2.2.2.2.1)) _ HSD.out (fun _ h => h) ?_; try simp only [pS]
      refine wpG_take _ (.int .i64 ((x.f 1 + 1 : Nat) : Int)) rfl (by rfl) (fun X hX => q_inc rfl rfl rfl (by have := HL.out.f 1; have := HN.out; omega)) ?_; try simp only [pS]
      refine gT (.pointer (some ⟨P.M, 4, none⟩)) ?_; try simp only [pS]
      refine gT (.pointer (some ⟨P.M, 4, none⟩)) ?_; try simp only [pS]
      refine wpG_st _ rfl (by rfl) _ (q_stI rfl rfl rfl (HMD.out.at'.cells.2.2.2.2.1) (HMD.out.at'.free 4)) _ HSF.out HSF.out (fun _ h => h) ?_
      refine wpG_nil ?_
      have HM5 := Lib.hid HF.out.mi
      have HS5 := Lib.hid HF.out.se
      obtain ⟨v6, v7, W7, ⟨sp6, n6, k6, rfl⟩, hc6, hr7, ⟨sp7, n7, k7, rfl⟩, hc7, hf7, hpost⟩ := LkPost.ill HM5.out HS5.out (by have := HBL.out; omega) (1, a) 166
      generalize (W1.drew.drew.setCell ⟨P.M, 4, none⟩ (.int .i64 ((x.f 1 + 1 : Nat) : Int))) = W5 at *
      go_wp2_with (first | (refine q_valG (by rfl) (ex_ld (ty := 115) (cs := plc (1, a)) rfl rfl (rng_all HC5.out) Tryz.underlying115 rfl q_szPl) ?_) | (refine q_valG (by rfl) (q_onePl rfl rfl) ?_) | (at_builtin; refine q_valG (by rfl) (q_appL rfl rfl rfl hr7) ?_) | fail)
      go_ret
      refine ⟨rfl, ?_⟩
      rw [HXE2.out, HBE2.out, HTE2.out]
      exact LkPost.of_below HB1.out (LkPost.of_below (Below.refl _ _).drew (LkPost.of_below (Below.refl _ _).drew (HF.out.trans hpost)))
theorem qlook_any (p : Pt) (hp : p.OK) (c : Cpy) (hc : c.1 < 2) (ha : c.2 < 65536) (B g : Nat) (w : World) (lab : Nat → Nat) (P : Pl) (x : Mi Dsk Sp) (n : Nat) (t : Option Bs) (bad : List Cpy) (h : MiTi B w lab P x) (hs : SeAt g lab P p t bad w) (hl : Lim x n) (hn : n < 800000) (hbl : bad.length < 1000) :
    Calls Tryz.prog 82 #[.agg (plc c).toArray, .pointer (some ⟨g, 0, none⟩), .pointer (some ⟨g + 1, 0, none⟩), .pointer (some ⟨g + 1 + 1, 0, none⟩), .pointer (some ⟨g + 1 + 1 + 1, 0, none⟩)] w fun e w' => e = .returned (.bool (gd kinD x p c).isSome) ∧ LkPost B g w lab P (lkx x p c) p (lkt x p c t) (lkb x p c bad) w' := by
  obtain ⟨d, a⟩ := c
  obtain rfl | rfl : d = 0 ∨ d = 1 := by simp only at hc; omega
  · exact look0_any p hp a ha B g w lab P x n t bad h hs hl hn hbl
  · exact look1_any p hp a ha B g w lab P x n t bad h hs hl hn hbl
end Go.Proofs.YtmgagalhpkieoaaGreatDoor
