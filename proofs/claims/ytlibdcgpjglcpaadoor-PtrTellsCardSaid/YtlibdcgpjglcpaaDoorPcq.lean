/- The document's copies of a pointer. -/
import Derived.Test.YtlibdcgpjglcpaaDoorPvb
import Derived.Test.YtlibdcgpjglcpaaDoorPd
namespace Go.Proofs.YtlibdcgpjglcpaaDoor
open Go.RowKit

def cpcells (l : List (Nat × Nat)) : List Value := l.flatMap fun x => [.int .i64 (x.1 : Int), .int .u16 (x.2 : Int)]
theorem cpcells_append (l m : List (Nat × Nat)) : cpcells (l ++ m) = cpcells l ++ cpcells m := by simp [cpcells]
theorem cpcells_length : ∀ l : List (Nat × Nat), (cpcells l).length = l.length * 2
  | [] => rfl
  | x :: l => by
    have := cpcells_length l
    simp only [cpcells, List.flatMap_cons, List.length_append, List.length_cons, List.length_nil] at *
    omega
theorem infoC : (Tryd.prog.info? 41).map (fun i => (i.zero, i.size, i.bytes)) = some (some (.agg #[.int .i64 0, .int .u16 0]), 2, 16) := by kernel_rfl
theorem info_partsC : ∃ i, Tryd.prog.info? 41 = some i ∧ i.zero = some (.agg #[.int .i64 0, .int .u16 0]) ∧ i.size = 2 ∧ i.bytes = 16 := by
  obtain ⟨i, h1, h2⟩ := Option.map_eq_some_iff.1 infoC
  simp only [Prod.mk.injEq] at h2
  exact ⟨i, h1, h2.1, h2.2.1, h2.2.2⟩
abbrev OwnC (w : World) (B : Nat) (v : Value) (l : List (Nat × Nat)) : Prop := w.ownsRow B 41 2 v l.length (cpcells l)
theorem ownC_app {w : World} {B : Nat} {v : Value} {l : List (Nat × Nat)} (x : Nat × Nat) (h : OwnC w B v l) (hB : B ≤ w.heap.size) (hl : l.length ≤ 1000) {g : Nat} {t : TypeId} (hg : Blk w g [.int .i64 (x.1 : Int), .int .u16 (x.2 : Int)] t) (ty : TypeId) :
    ∃ v' w', (Builtin.append_ #[35, 35] ty #[v, .slice (some ⟨g, 0, none⟩) 1 1]).run Tryd.prog w = .ok v' w' ∧ OwnC w' B v' (l ++ [x]) ∧ Below B w w' := by
  obtain ⟨i0, hi, hz0, hz1, hz2⟩ := info_partsC
  obtain ⟨v', w', hr, h2, h3, _, h5⟩ := run_append_own_at (P := Tryd.prog) w B 35 ty 41 i0 (.agg #[.int .i64 0, .int .u16 0]) 2 16 Tryd.underlying35 hi hz0 hz1 hz2 rfl (by decide) v l.length (cpcells l) h ⟨g, 0, none⟩ 1 1 [.int .i64 (x.1 : Int), .int .u16 (x.2 : Int)] rfl (fun j u hj => by
    rw [Addr.add_mid, Nat.zero_add]
    exact hg.cell hj) (by intro u hu; simp at hu; rcases hu with rfl | rfl <;> rfl) (by unfold maxLen; omega) (by omega) hB
  refine ⟨v', w', hr, ?_, (Below.refl _ _).grown h3 hB (fun k hk => (h.lt k hk).1)⟩
  unfold OwnC
  rw [cpcells_append, List.length_append]
  exact h2
theorem OwnC.below {w W : World} {B B' : Nat} {v : Value} {l : List (Nat × Nat)} (h : OwnC w B v l) (hb : Below B' w W) (hB : w.heap.size ≤ B') : OwnC W B v l := by
  refine ⟨h.1, ?_⟩
  rcases h.2 with hn | ⟨g, cap, cur, e, hg, hh, rest⟩
  · exact .inl hn
  · exact .inr ⟨g, cap, cur, e, hg, (hb.block g (Nat.lt_of_lt_of_le (Array.getElem?_eq_some_iff.1 hh).1 hB)).trans hh, rest⟩
theorem OwnC.form {w : World} {B : Nat} {v : Value} {l : List (Nat × Nat)} (h : OwnC w B v l) : ∃ sp cap, v = .slice sp l.length cap := by
  rcases h.2 with hn | ⟨g, cap, cur, e, _⟩
  · exact ⟨none, 0, by obtain ⟨e, hn⟩ := hn; first | (rw [e, hn]) | (rw [hn, e]) | simp_all⟩
  · exact ⟨_, _, e⟩
theorem ex_appC {ρ : Operand → Value} {o : Oper} {x y : Operand} {v u v' : Value} {w w' : World} (ho : o.op = .call { callee := .builtin .append, args := #[x, y], argTypes := #[35, 35] }) (hx : ρ x = v) (hy : ρ y = u)
    (hr : (Builtin.append_ #[35, 35] o.type #[v, u]).run Tryd.prog w = .ok v' w') : (execOp ρ o).run Tryd.prog w = .ok (.value v') w' := by
  unfold execOp
  simp only [ho, resolve, invoke, builtin, Sem.run_bind, Sem.run_pure, Result.andThen_ok, List.map_toArray, List.map_cons, List.map_nil, hx, hy, hr]
def soFar (p : Pt) (k : Nat) : List (Nat × Nat) := copiesFrom 0 (p.ats.take k)
theorem soFar_zero {p : Pt} {k : Nat} (h : p.ats[k]? = some 0) : soFar p (k + 1) = soFar p k := by
  unfold soFar
  rw [val_take_one h, copiesFrom_append]
  simp [copiesFrom]
theorem soFar_more {p : Pt} {k a : Nat} (h : p.ats[k]? = some a) (ha : a ≠ 0) : soFar p (k + 1) = soFar p k ++ [(k / 2, a)] := by
  have hk := (List.getElem?_eq_some_iff.1 h).1
  unfold soFar
  rw [val_take_one h, copiesFrom_append]
  congr 1
  simp only [copiesFrom, if_neg ha]
  rw [List.length_take, Nat.min_eq_left (by omega), Nat.zero_add]
theorem copiesFrom_len : ∀ (l : List Nat) (i : Nat), (copiesFrom i l).length ≤ l.length
  | [], _ => by simp [copiesFrom]
  | a :: l, i => by
    have ih := copiesFrom_len l (i + 1)
    unfold copiesFrom
    split <;> simp <;> omega
theorem soFar_len (p : Pt) (k : Nat) : (soFar p k).length ≤ k := Nat.le_trans (copiesFrom_len _ _) (by simp; omega)
set_option maxRecDepth 100000 in
set_option maxHeartbeats 4000000 in
theorem qcopies_any (p : Pt) (hp : p.OK) (w : World) : Calls Tryd.prog 13 #[.agg (pcells p).toArray] w fun e w' => ∃ v, e = .returned v ∧ OwnC w' (w.heap.size + 1) v (copiesP p) ∧ Below w.heap.size w w' := by
  have HP := Lib.hid hp
  have HG0 : Hid (Blk (w.alloc (.cells (pcells p).toArray 28)) w.heap.size (pcells p) 28) := Lib.hid (Blk.new _ _ _)
  have HB0 : Hid (Below w.heap.size w (w.alloc (.cells (pcells p).toArray 28))) := Lib.hid ((Below.refl _ _).alloc (Nat.le_refl _) _)
  clear hp
  go_enter Tryd.func13, Tryd.ntmps13
  go_wp2_with fail
  generalize (w.alloc (.cells (pcells p).toArray 28)) = W0 at HG0 HB0 ⊢
  go_loopw [3, 4] (fun v i wr => ∃ k : Nat, k ≤ 4 ∧ i = .int .i64 (k : Int) ∧ OwnC wr (w.heap.size + 1) v (soFar p k) ∧ Blk wr w.heap.size (pcells p) 28 ∧ Below w.heap.size w wr) (fun _ i _ => 4 - (intOf i).toNat)
  case atStart => exact ⟨0, by omega, rfl, World.ownsRow_nil _ _ _ _, HG0.out, HB0.out⟩
  case round =>
    clear HG0 HB0
    obtain ⟨k, hk, rfl, hO, hG, hB⟩ := hrel
    have HO := Lib.hid hO; have HG := Lib.hid hG; have HB := Lib.hid hB
    obtain ⟨sp, cap, rfl⟩ := OwnC.form hO
    have hgs := hG.lt
    have wk1 := IntWalk.i64_in ((k : Int) + 1) (by omega)
    clear hO hB
    by_cases hlt : k < 4
    · obtain ⟨a, ha⟩ : ∃ a, p.ats[k]? = some a := ⟨_, List.getElem?_eq_getElem (by have := HP.out.len; omega)⟩
      have ca := cell_ats hG HP.out.hash ha
      have HA := Lib.hid ha
      clear hG ha
      by_cases h0 : a = 0
      · subst h0
        go_wp2_with fail
        go_roundw
        case rel => exact ⟨k + 1, by omega, by go_num, by rw [soFar_zero HA.out]; exact HO.out, HG.out, HB.out⟩
        case measure => simp [intOf]; omega
      · have hn0 : ¬ (a : Int) = 0 := by omega
        have hz : Below wr.heap.size wr (wr.alloc (.cells #[.int .i64 ((k : Int) / 2), .int .u16 (a : Int)] 41)) := (Below.refl _ _).alloc (Nat.le_refl _) _
        have hbk : Blk (wr.alloc (.cells #[.int .i64 ((k : Int) / 2), .int .u16 (a : Int)] 41)) wr.heap.size [.int .i64 (((k / 2 : Nat), a).1 : Int), .int .u16 (((k / 2 : Nat), a).2 : Int)] 41 := Blk.new' _ _ _ _ _ rfl (by simp)
        obtain ⟨v3, w3, hr3, ho3, hb3⟩ := ownC_app (k / 2, a) (HO.out.below hz (Nat.le_refl _)) (by simp; omega) (by have := soFar_len p k; omega) hbk 35
        obtain ⟨sp3, cap3, e3⟩ := OwnC.form ho3
        rw [List.length_append, List.length_singleton] at e3
        have HR3 := Lib.hid hr3
        have HN : Hid (OwnC w3 (w.heap.size + 1) v3 (soFar p (k + 1)) ∧ Blk w3 w.heap.size (pcells p) 28 ∧ Below w.heap.size w w3) := Lib.hid ⟨by rw [soFar_more HA.out h0]; exact ho3, (HG.out.alloc _).below hb3 (by omega), (HB.out.trans (hz.mono HB.out.size)).trans (hb3.mono (by omega))⟩
        subst e3
        clear hr3 ho3 hb3 hz hbk HO HG HB
        go_wp2_with (first | (at_builtin; refine wpL_val rfl (ex_appC rfl rfl rfl HR3.out) ?_) | fail)
        go_roundw
        case rel => exact ⟨k + 1, by omega, by go_num, HN.out⟩
        case measure => simp [intOf]; omega
    · obtain rfl : k = 4 := by omega
      have hall : soFar p 4 = copiesP p := by unfold soFar copiesP; rw [List.take_of_length_le (by have := HP.out.len; omega)]
      have HALL := Lib.hid hall
      clear hlt hk hG hall
      rw [show ((4 : Nat) : Int) = (4 : Int) from rfl]
      go_wp2_with fail
      go_ret
      exact ⟨_, rfl, by rw [← HALL.out]; exact HO.out, HB.out⟩
end Go.Proofs.YtlibdcgpjglcpaaDoor
