/- A write put into the cache. -/
import Derived.Test.YtmgagalhpkieoaaGreatDoorM03
import Derived.Maps.AppendAt
namespace Go.Proofs.YtmgagalhpkieoaaGreatDoor
open Go.RowKit

theorem infoW : (Tryz.prog.info? 187).map (fun i => (i.zero, i.size, i.bytes)) = some (some (.agg #[.int .u16 0, .slice none 0 0]), 2, 32) := by kernel_rfl
def wcells (ad gb : Nat) : List Value := [Value.int .u16 (ad : Int), Value.slice (some ⟨gb, 0, none⟩) 512 512]
theorem crow_snoc (L : List (Nat × Nat × d_Bs)) (x : Nat × Nat × d_Bs) : crow (L ++ [x]) = crow L ++ wcells x.1 x.2.1 := by simp [crow, wcells]
theorem one_wcells (ad gb : Nat) : ∀ u ∈ wcells ad gb, u.oneCell' = true := by
  intro u hu
  simp [wcells] at hu
  rcases hu with rfl | rfl <;> rfl
def Rows100 (w : World) (S : Nat → Prop) (k : Nat) : Prop := S k ∧ ∃ cs, Blk w k cs 187
theorem owns_blk {w : World} {B e k n g : Nat} {v : Value} {xs : List Value} (h : w.ownsRow B e k v n xs) (hg : v.ownBlock = some g) : ∃ cs, Blk w g cs e := by
  rcases h.2 with ⟨rfl, _⟩ | ⟨g', cap, cur, rfl, _, hgg, _⟩
  · simp [Value.ownBlock] at hg
  · simp [Value.ownBlock] at hg
    subst hg
    exact ⟨cur.toList, by unfold Blk; simpa using hgg⟩
theorem owns_form {w : World} {B e k n : Nat} {v : Value} {xs : List Value} (h : w.ownsRow B e k v n xs) (hn : 0 < n) : ∃ g, v.ownBlock = some g ∧ g < w.heap.size := by
  rcases h.2 with ⟨rfl, h0⟩ | ⟨g', cap, cur, rfl, _, hgg, _⟩
  · omega
  · exact ⟨g', rfl, (Array.getElem?_eq_some_iff.1 hgg).1⟩
theorem app_cache {w : World} {S : Nat → Prop} {v : Value} {l : List (Nat × d_Bs)} (h : CacheAt w S v l) (hS : ∀ k, S k → k < w.heap.size) {ad gb : Nat} {b : d_Bs} (had : ad < 65536) (hb : b.length = 512) (hblk : Blk w gb (b.map V8) 5) {adr : Addr} {c : Nat}
    (hnews : ∀ j u, (wcells ad gb)[j]? = some u → w.cell? (adr.add j) = some u) (hl : l.length < 1000000) (ty : TypeId) :
    ∃ v' w', (Builtin.append_ #[140, 140] ty #[v, .slice (some adr) 1 c]).run Tryz.prog w = .ok v' w' ∧ (∀ S' : Nat → Prop, (∀ k, S k → S' k) → S' gb → (∀ cs, Blk w' w.heap.size cs 187 → S' w.heap.size) → CacheAt w' S' v' (l ++ [(ad, b)])) ∧ Chg (Rows100 w S) w w' := by
  obtain ⟨i, hi, hz0, hz1, hz2⟩ : ∃ i, Tryz.prog.info? 187 = some i ∧ i.zero = some (.agg #[.int .u16 0, .slice none 0 0]) ∧ i.size = 2 ∧ i.bytes = 32 := by
    have := infoW
    cases hq : Tryz.prog.info? 187 with
    | none => rw [hq] at this; simp at this
    | some i =>
      rw [hq] at this
      simp at this
      exact ⟨i, rfl, this.1, this.2.1, this.2.2⟩
  obtain ⟨L, rfl, hw, h3⟩ := h
  rw [List.length_map] at hl
  have fin : ∀ (v' : Value) (w' : World), w'.ownsRow 0 187 2 v' (L.length + 1) (crow L ++ wcells ad gb) → Chg (Rows100 w S) w w' → (∀ g, v'.ownBlock = some g → S g ∨ g = w.heap.size) →
      ∀ S' : Nat → Prop, (∀ k, S k → S' k) → S' gb → (∀ cs, Blk w' w.heap.size cs 187 → S' w.heap.size) → CacheAt w' S' v' (L.map (fun x => (x.1, x.2.2)) ++ [(ad, b)]) := by
    intro v' w' ho hc hwh S' h1 h2 h4
    refine ⟨L ++ [(ad, gb, b)], by simp, ?_, .inr ⟨?_, ?_⟩⟩
    · have hbyte : ∀ k cs, Rows100 w S k → ¬ Blk w k cs 5 := fun k cs ⟨_, cs', hb'⟩ hb'' => by
        have e := hb'.same hb''
        exact absurd e (by decide)
      intro x hx
      rcases List.mem_append.1 hx with hx | hx
      · exact ((hw.turned hc hbyte).mono h1) x hx
      · obtain rfl : x = (ad, gb, b) := by simpa using hx
        exact ⟨had, hb, hblk.chg hc (fun hf => hbyte _ _ hf hblk), h2⟩
    · rw [List.length_append, crow_snoc]
      exact ho
    · obtain ⟨g, hg, _⟩ := owns_form ho (by omega)
      refine ⟨g, hg, ?_⟩
      obtain ⟨cs, hbg⟩ := owns_blk ho hg
      rcases hwh g hg with h5 | rfl
      · exact h1 _ h5
      · exact h4 cs hbg
  rcases h3 with ⟨sp, rfl, rfl⟩ | ⟨ho, g, hg, hSg⟩
  · cases sp with
    | none =>
      obtain ⟨v', w', hr, h2, h3, h4, h5⟩ := run_append_own_at (P := Tryz.prog) w 0 140 ty 187 i _ 2 32 Tryz.underlying140 hi hz0 hz1 hz2 rfl (by decide) (.slice none 0 0) 0 [] (World.ownsRow_nil _ _ _ _) adr 1 c (wcells ad gb) rfl hnews (one_wcells _ _) (by unfold maxLen; omega) (by omega) (Nat.zero_le _)
      have hc : Chg (Rows100 w S) w w' := (Chg.refl _ w).grown h3 (fun k hk => by cases hk)
      refine ⟨v', w', hr, fin v' w' h2 hc (fun g hg => ?_), hc⟩
      rcases h5 with h5 | h5
      · rw [h5] at hg; cases hg
      · rw [h5] at hg; cases hg; exact .inr rfl
    | some ad0 =>
      have hr := run_append_grow (P := Tryz.prog) w 140 ty 187 i _ Tryz.underlying140 hi hz0 ad0 0 0 [] (by simp) (fun j v hv => by simp at hv) adr 1 c (wcells ad gb) (by rw [hz1]; rfl) hnews (by omega) (by omega) (growslice_fits (by omega) (by rw [hz2]; omega))
      have hc : Chg (Rows100 w S) w (w.drew.alloc (.cells (#[] ++ (wcells ad gb).toArray ++ Builtin.zeroCells (Value.agg #[.int .u16 0, .slice none 0 0]).cells (grownCap w 1 0 187 - 1)) 187)) := ((Chg.refl _ w).drew).alloc _
      refine ⟨_, _, hr, fin _ _ ?_ hc (fun g hg => by simp [Value.ownBlock] at hg; exact .inr hg.symm), hc⟩
      have hge := grownCap_ge w 1 0 187
      refine ⟨rfl, .inr ⟨w.heap.size, _, _, rfl, Nat.zero_le _, heap_alloc_new w.drew _, hge, grownCap_le_maxLen w 1 0 187 (by unfold maxLen; omega), ?_, ?_⟩⟩
      · simp only [Array.size_append, List.size_toArray, size_zeroCells]
        simp [Value.cells, wcells]
        omega
      · simp [crow, wcells]
  · obtain ⟨v', w', hr, h2, h3, h4, h5⟩ := run_append_own_at (P := Tryz.prog) w 0 140 ty 187 i _ 2 32 Tryz.underlying140 hi hz0 hz1 hz2 rfl (by decide) v L.length (crow L) ho adr 1 c (wcells ad gb) rfl hnews (one_wcells _ _) (by unfold maxLen; omega) (by omega) (Nat.zero_le _)
    have hc : Chg (Rows100 w S) w w' := (Chg.refl _ w).grown h3 (fun k hk => by rw [hg] at hk; cases hk; exact .inl ⟨hSg, owns_blk ho hg⟩)
    refine ⟨v', w', hr, fin v' w' h2 hc (fun g' hg' => ?_), hc⟩
    rcases h5 with h5 | h5
    · rw [h5, hg] at hg'; cases hg'; exact .inl hSg
    · rw [h5] at hg'; cases hg'; exact .inr rfl

def Ext (S : Nat → Prop) (w w' : World) (k : Nat) : Prop := S k ∨ (w.heap.size ≤ k ∧ k < w'.heap.size)
def DkAtM (w : World) (D Q M : Nat) (S : Nat → Prop) (s : Dsk) : Prop := ∃ v to, DkIn w D Q M v to S s
theorem DkAtM.at' {w : World} {D Q M : Nat} {S : Nat → Prop} {s : Dsk} (h : DkAtM w D Q M S s) : DkAt w D Q S s := ⟨M, h⟩
theorem DkAtM.mono {w : World} {D Q M : Nat} {S S' : Nat → Prop} {s : Dsk} (h : DkAtM w D Q M S s) (hs : ∀ k, S k → S' k) (hq : ¬ S' Q) (hl : ∀ k, S' k → k < w.heap.size) : DkAtM w D Q M S' s := by
  obtain ⟨v, to, h⟩ := h
  exact ⟨v, to, ⟨h.blk, h.map, h.cache.mono hs, hs _ h.sd, hs _ h.sm, hq, hl, h.tlt, h.teq, h.nlt⟩⟩
def ExtC (S : Nat → Prop) (w w' : World) (k : Nat) : Prop := S k ∨ (w.heap.size ≤ k ∧ ∃ cs t, Blk w' k cs t)
theorem DkAt.mono {w : World} {D Q : Nat} {S S' : Nat → Prop} {s : Dsk} (h : DkAt w D Q S s) (hs : ∀ k, S k → S' k) (hq : ¬ S' Q) (hl : ∀ k, S' k → k < w.heap.size) : DkAt w D Q S' s := by
  obtain ⟨M, v, to, h⟩ := h
  exact ⟨M, v, to, ⟨h.blk, h.map, h.cache.mono hs, hs _ h.sd, hs _ h.sm, hq, hl, h.tlt, h.teq, h.nlt⟩⟩
theorem DkAt.lt {w : World} {D Q : Nat} {S : Nat → Prop} {s : Dsk} (h : DkAt w D Q S s) : ∀ k, S k → k < w.heap.size := by obtain ⟨_, _, _, h⟩ := h; exact h.lt
theorem DkAt.nq {w : World} {D Q : Nat} {S : Nat → Prop} {s : Dsk} (h : DkAt w D Q S s) : ¬ S Q := by obtain ⟨_, _, _, h⟩ := h; exact h.sq
theorem DkAt.ext {w w0 : World} {D Q : Nat} {S : Nat → Prop} {s : Dsk} (h : DkAt w D Q S s) (hq : Q < w0.heap.size) : DkAt w D Q (Ext S w0 w) s :=
  h.mono (fun _ h => .inl h) (fun hh => by rcases hh with hh | hh; exact h.nq hh; omega) (fun k hk => by rcases hk with hk | hk; exact h.lt k hk; exact hk.2)
theorem DkAtM.extC {w w0 : World} {D Q M : Nat} {S : Nat → Prop} {s : Dsk} (h : DkAtM w D Q M S s) (hq : Q < w0.heap.size) : DkAtM w D Q M (ExtC S w0 w) s :=
  h.mono (fun _ h => .inl h) (fun hh => by
    rcases hh with hh | hh
    · exact h.at'.nq hh
    · have := hh.1; omega) (fun k hk => by
    rcases hk with hk | ⟨_, _, _, hb⟩
    · exact h.at'.lt k hk
    · exact hb.lt)
theorem DkAt.ofC {w w0 : World} {D Q : Nat} {S : Nat → Prop} {s : Dsk} (h : DkAt w D Q (ExtC S w0 w) s) (hq : Q < w0.heap.size) : DkAt w D Q (Ext S w0 w) s :=
  h.mono (fun k hk => by
    rcases hk with hk | ⟨h1, _, _, hb⟩
    · exact .inl hk
    · exact .inr ⟨h1, hb.lt⟩) (fun hh => by
    rcases hh with hh | hh
    · exact h.nq (.inl hh)
    · omega) (fun k hk => by
    rcases hk with hk | hk
    · exact h.lt k (.inl hk)
    · exact hk.2)
theorem ExtC.trans {S : Nat → Prop} {a b c : World} (h : a.heap.size ≤ b.heap.size) : ∀ k, ExtC S b c k → ExtC S a c k := fun k hk => by
  rcases hk with hk | ⟨h1, h2⟩
  · exact .inl hk
  · exact .inr ⟨Nat.le_trans h h1, h2⟩
def kept (s : Dsk) (a : Nat) (b : d_Bs) : Dsk := if a < s.n then { s with cache := s.cache ++ [(a, b)] } else s

section
variable {ops : Array Oper} {Q : Exit → Act → World → Prop} {S : World → Prop}
theorem d_wpG_mk {i : Nat} {r : Tr} {a : Act} {w : World} (o : Oper) (hi : ops.toList[i]? = some o) (hw : Region.wanted o (yielded ops a.tmps) = true) (v : Value) (w1 : World) (hrun : (execOp a.eval o).run Tryz.prog w = .ok (.value v) w1)
    (S' : World → Prop) (hS : S' w1) (hSS : ∀ w, S' w → S w) (h : wpG Tryz.prog ops Q r S' (a.put o.dst v) w1) : wpG Tryz.prog ops Q (.step i r) S a w := by
  show wpOp Tryz.prog ops Q i _ a w
  unfold wpOp
  simp only [of_list hi]
  rw [if_pos hw]
  refine .inl ?_
  unfold Oper.wp
  rw [hrun]
  exact ⟨hSS _ hS, S', hSS, hS, h⟩
theorem wpG_st {i : Nat} {r : Tr} {a : Act} {w : World} (o : Oper) (hi : ops.toList[i]? = some o) (hw : Region.wanted o (yielded ops a.tmps) = true) (w1 : World) (hrun : (execOp a.eval o).run Tryz.prog w = .ok .skip w1)
    (S' : World → Prop) (hS : S' w1) (hSS : S w1) (hS2 : ∀ w, S' w → S w) (h : wpG Tryz.prog ops Q r S' (a.put o.dst undef) w1) : wpG Tryz.prog ops Q (.step i r) S a w := by
  show wpOp Tryz.prog ops Q i _ a w
  unfold wpOp
  simp only [of_list hi]
  rw [if_pos hw]
  refine .inl ?_
  unfold Oper.wp
  rw [hrun]
  exact ⟨hSS, S', hS2, hS, h⟩
end
theorem ex_fa {ρ : Operand → Value} {o : Oper} {x : Operand} {b j : Nat} {w : World} (hj : j < 8) (ho : o.op = .fieldAddr 142 x j) (hx : ρ x = .pointer (some ⟨b, 0, none⟩)) : (execOp ρ o).run Tryz.prog w = .ok (.value (.pointer (some ⟨b, j, none⟩))) w := by
  unfold execOp
  simp only [ho]
  match j, hj with
  | 0, _ | 1, _ | 2, _ | 3, _ | 4, _ | 5, _ | 6, _ | 7, _ => go_simp
theorem ex_nc {ρ : Operand → Value} {o : Oper} {x : Operand} {b j : Nat} {w : World} (ho : o.op = .nilCheck x) (hx : ρ x = .pointer (some ⟨b, j, none⟩)) : (execOp ρ o).run Tryz.prog w = .ok (.value (.pointer (some ⟨b, j, none⟩))) w := by
  unfold execOp
  simp only [ho]
  go_simp
theorem d_ex_ld {ρ : Operand → Value} {o : Oper} {x : Operand} {ad : Addr} {v : Value} {w : World} (ho : o.op = .load 140 x) (hx : ρ x = .pointer (some ad)) (hc : w.cell? ad = some v) : (execOp ρ o).run Tryz.prog w = .ok (.value v) w := by
  unfold execOp
  simp only [ho]
  go_simp
theorem ex_one {ρ : Operand → Value} {o : Oper} {x : Operand} {ad gb : Nat} {w : World} (ho : o.op = .buildSlice 140 1 #[(0, x)]) (hx : ρ x = .agg (wcells ad gb).toArray) :
    (execOp ρ o).run Tryz.prog w = .ok (.value (.slice (some ⟨w.heap.size, 0, none⟩) 1 1)) (w.alloc (.cells (wcells ad gb).toArray 187)) := by
  unfold execOp
  simp only [ho]
  unfold wcells at *
  go_simp
theorem ex_build {ρ : Operand → Value} {o : Oper} {x y : Operand} {ad gb : Nat} {w : World} (ho : o.op = .build 187 #[(0, x), (1, y)]) (hx : ρ x = .int .u16 (ad : Int)) (hy : ρ y = .slice (some ⟨gb, 0, none⟩) 512 512) :
    (execOp ρ o).run Tryz.prog w = .ok (.value (.agg (wcells ad gb).toArray)) w := by
  unfold execOp
  simp only [ho]
  unfold wcells at *
  go_simp
theorem ex_app {ρ : Operand → Value} {o : Oper} {x y : Operand} {v u v' : Value} {w w' : World} (ho : o.op = .call { callee := .builtin .append, args := #[x, y], argTypes := #[140, 140] }) (hx : ρ x = v) (hy : ρ y = u)
    (hr : (Builtin.append_ #[140, 140] o.type #[v, u]).run Tryz.prog w = .ok v' w') : (execOp ρ o).run Tryz.prog w = .ok (.value v') w' := by
  unfold execOp
  simp only [ho, resolve, invoke, builtin, Sem.run_bind, Sem.run_pure, Result.andThen_ok, List.map_toArray, List.map_cons, List.map_nil, hx, hy, hr]
theorem ex_st {ρ : Operand → Value} {o : Oper} {x y : Operand} {b n cap : Nat} {sp : Option Addr} {w : World} (ho : o.op = .store 140 x y) (hx : ρ x = .pointer (some ⟨b, 3, none⟩)) (hy : ρ y = .slice sp n cap) {u : Value} (hc : w.cell? ⟨b, 3, none⟩ = some u) (hf : w.frozen? ⟨b, 3, none⟩ = false) :
    (execOp ρ o).run Tryz.prog w = .ok .skip (w.setCell ⟨b, 3, none⟩ (.slice sp n cap)) := by
  unfold execOp
  simp only [ho]
  go_simp
theorem cells_two (w : World) (ad gb : Nat) : ∀ j u, (wcells ad gb)[j]? = some u → (w.alloc (.cells (wcells ad gb).toArray 187)).cell? ((⟨w.heap.size, 0, none⟩ : Addr).add j) = some u := by
  intro j u hj
  rw [Addr.add_mid, Nat.zero_add]
  exact (Blk.new w (wcells ad gb) 187).cell hj
theorem app_disk {w w4 w5 : World} {D Q M : Nat} {v v' : Value} {to : Nat} {S : Nat → Prop} {s : Dsk} {ad : Nat} {b : d_Bs} (h : DkIn w D Q M v to S s) (hq : Q < w.heap.size) (h4 : Below w.heap.size w w4) {gb : Nat} (hgb : w.heap.size ≤ gb) {gcs : List Value} (hgb2 : Blk w4 gb gcs 5)
    (hcc : ∀ S' : Nat → Prop, (∀ k, S k → S' k) → S' gb → (∀ cs, Blk w5 w4.heap.size cs 187 → S' w4.heap.size) → CacheAt w5 S' v' (s.cache ++ [(ad, b)])) (h5 : Chg (Rows100 w4 S) w4 w5) :
    DkAtM (w5.setCell ⟨D, 3, none⟩ v') D Q M (ExtC S w (w5.setCell ⟨D, 3, none⟩ v')) { s with cache := s.cache ++ [(ad, b)] } ∧ Chg S w (w5.setCell ⟨D, 3, none⟩ v') := by
  have hw4 : w.heap.size ≤ w4.heap.size := h4.size
  have hD := h.blk.lt
  have hb4 : Blk w4 D (dcells Q M v to s) 142 := h.blk.below h4 hD
  have hm4 : MapAt w4 M s.mem := h.map.kept (h4.block M h.map.lt)
  have hnoD : ¬ Rows100 w4 S D := fun ⟨_, cs, hb⟩ => absurd (hb.same hb4) (by decide)
  have hnoM : ¬ Rows100 w4 S M := fun ⟨_, cs, hb⟩ => hm4.noBlk hb
  have hb5 := hb4.chg h5 hnoD
  have hm5 := hm4.chg h5 hnoM
  have hc1 : Chg (fun k => k = D) w5 (w5.setCell ⟨D, 3, none⟩ v') := d_chg1 3 v'
  have hS : Chg S w (w5.setCell ⟨D, 3, none⟩ v') := ((Chg.of_below h4).trans h5 (fun i hi => .inl hi.1)).trans hc1 (fun i hi => .inl (by rw [hi]; exact h.sd))
  have hs5 : w5.heap.size ≤ (w5.setCell ⟨D, 3, none⟩ v').heap.size := hc1.size
  have h75 : ∀ k (t : Nat) cs, k = D → Blk w5 k cs t → t = 142 := fun k t cs e hb => by subst e; exact hb.same hb5
  have hfin : ∀ S' : Nat → Prop, CacheAt w5 S' v' (s.cache ++ [(ad, b)]) → CacheAt (w5.setCell ⟨D, 3, none⟩ v') S' v' (s.cache ++ [(ad, b)]) := fun S' hc => hc.turned hc1 (fun k cs e hb => by have := h75 k _ cs e hb; omega) (fun k cs e hb => by
    have h2 : Blk w5 k cs.toList 187 := by unfold Blk; simpa using hb
    have := h75 k _ _ e h2
    omega)
  have hgood : CacheAt w5 (ExtC S w (w5.setCell ⟨D, 3, none⟩ v')) v' (s.cache ++ [(ad, b)]) := by
    have hg5 : Blk w5 gb gcs 5 := hgb2.chg h5 (fun ⟨_, cs, hb⟩ => absurd (hb.same hgb2) (by decide))
    exact hcc _ (fun _ h => .inl h) (.inr ⟨hgb, _, _, hg5.other (by show gb ≠ D; omega) _⟩) (fun cs h1 => .inr ⟨hw4, _, _, h1.other (by show w4.heap.size ≠ D; omega) _⟩)
  refine ⟨⟨v', to, ⟨hb5.set 3 _, hm5.chg hc1 (fun e => by rw [e] at hm5; exact hm5.noBlk hb5), hfin _ hgood, .inl h.sd, .inl h.sm, ?_, ?_, h.tlt, h.teq, h.nlt⟩⟩, hS⟩
  · rintro (hh | hh)
    · exact h.sq hh
    · have := hh.1; omega
  · rintro k (hk | ⟨_, _, _, hb⟩)
    · exact Nat.lt_of_lt_of_le (h.lt k hk) hS.size
    · exact hb.lt
set_option maxRecDepth 100000 in
set_option maxHeartbeats 4000000 in
theorem keep_anyC (D Q M : Nat) (S : Nat → Prop) (s : Dsk) (ad : Nat) (b : d_Bs) (sp : Option Addr) (cap : Nat) (ha : ad < 65536) (hb : b.length = 512) (W : World) (hS : SrcA W sp b) (h : DkAtM W D Q M S s) (hq : Q < W.heap.size) (hcn : s.cache.length < 1000000) :
    Calls Tryz.prog 89 #[.pointer (some ⟨D, 0, none⟩), .int .u16 (ad : Int), .slice sp 512 cap] W fun e w' => e = .returned (.tuple #[]) ∧ DkAtM w' D Q M (ExtC S W w') (kept s ad b) ∧ Chg S W w' := by
  have H := Lib.hid h
  clear h
  unfold kept
  by_cases hn : ad < s.n
  · have hd : decide (ad < s.n) = true := by simpa using hn
    rw [if_pos hn]
    clear hn
    go_enter Tryz.func89, Tryz.ntmps89
    go_wp2_with (first | (go_at_call 71; refine (d_has_any D Q S s ad ha _ H.out.at').mono ?_; rintro e w' ⟨rfl, rfl⟩; rw [hd]) | fail)
    obtain ⟨v, to, h⟩ := H.out
    obtain ⟨-, -, -, c3, -⟩ := h.c
    have hD := h.blk.lt
    have hc1 : ∀ X, Below W.heap.size W X → X.cell? ⟨D, 3, none⟩ = some v := fun X hx => (hx.cell (p := ⟨D, 3, none⟩) hD).trans c3
    clear c3 H
    have hHv := h.cache.form
    refine wp_region_sched (.take 0 (.take 1 (.take 2 (.take 3 (.take 5 (.take 6 (.fork 4 (.step 7 (.take 8 (.step 9 (.step 10 (.take 11 (.take 12 (.step 13 (.nil)))))))) 7 (.take 8 (.fork 4 (.step 9 (.step 10 (.take 11 (.take 12 (.step 13 (.nil)))))) 9 (.step 4 (.step 10 (.take 11 (.take 12 (.step 13 (.nil)))))))))))))))
      (by kernel_rfl) (by kernel_rfl) (fun d _ _ _ _ h => by cases d <;> exact h) (fun _ => True) trivial ?_
    refine wpG_take _ (.pointer (some ⟨D, 0, none⟩)) rfl (by rfl) (fun X hX => by rfl) ?_; try simp only [pS]
    refine wpG_take _ (.pointer (some ⟨D, 0, none⟩)) rfl (by rfl) (fun X hX => by rfl) ?_; try simp only [pS]
    refine wpG_take _ (.pointer (some ⟨D, 0, none⟩)) rfl (by rfl) (fun X hX => ex_nc rfl rfl) ?_; try simp only [pS]
    refine wpG_take _ (.pointer (some ⟨D, 3, none⟩)) rfl (by rfl) (fun X hX => ex_fa (by omega) rfl rfl) ?_; try simp only [pS]
    refine wpG_take _ (.int .u16 (ad : Int)) rfl (by rfl) (fun X hX => by rfl) ?_; try simp only [pS]
    refine wpG_take _ (.slice sp 512 cap) rfl (by rfl) (fun X hX => by rfl) ?_; try simp only [pS]
    refine wpG_fork (d_wpG_mk _ rfl (by rfl) v W.drew (d_ex_ld rfl rfl (hc1 _ (Below.refl _ W).drew)) (fun _ => True) trivial (fun _ h => h) ?_) ?_; try simp only [pS]
    refine wpG_call _ rfl (by rfl) 103 #[.slice sp 512 cap] (fun _ => by go_simp) (fun u w3 => u = .slice (some ⟨W.heap.size, 0, none⟩) 512 512 ∧ Blk w3 W.heap.size (b.map V8) 5 ∧ Below W.heap.size W w3) ((own512 b sp cap W.drew hb hS.drew).mono fun e w' ⟨e1, e2, e3⟩ => ⟨_, e1, trivial, rfl, e2, (Below.refl _ W).drew.trans e3⟩) ?_
    rintro u w3 - ⟨rfl, hb3, hw3⟩
    refine ⟨_, fun _ h => h, trivial, ?_⟩; try simp only [pS]
    refine wpG_take _ (.agg (wcells ad W.heap.size).toArray) rfl (by rfl) (fun X hX => ex_build rfl rfl rfl) ?_; try simp only [pS]
    refine d_wpG_mk _ rfl (by rfl) (.slice (some ⟨w3.heap.size, 0, none⟩) 1 1) (w3.alloc (.cells (wcells ad W.heap.size).toArray 187)) (ex_one rfl rfl) (fun _ => True) trivial (fun _ h => h) ?_; try simp only [pS]
    rotate_left
    refine wpG_call _ rfl (by rfl) 103 #[.slice sp 512 cap] (fun _ => by go_simp) (fun u w3 => u = .slice (some ⟨W.heap.size, 0, none⟩) 512 512 ∧ Blk w3 W.heap.size (b.map V8) 5 ∧ Below W.heap.size W w3) ((own512 b sp cap W.drew hb hS.drew).mono fun e w' ⟨e1, e2, e3⟩ => ⟨_, e1, trivial, rfl, e2, (Below.refl _ W).drew.trans e3⟩) ?_
    rintro u w3 - ⟨rfl, hb3, hw3⟩
    refine ⟨_, fun _ h => h, trivial, ?_⟩; try simp only [pS]
    refine wpG_take _ (.agg (wcells ad W.heap.size).toArray) rfl (by rfl) (fun X hX => ex_build rfl rfl rfl) ?_; try simp only [pS]
    refine wpG_fork (d_wpG_mk _ rfl (by rfl) v w3 (d_ex_ld rfl rfl (hc1 _ hw3)) (fun _ => True) trivial (fun _ h => h) ?_) ?_; try simp only [pS]
    refine d_wpG_mk _ rfl (by rfl) (.slice (some ⟨w3.heap.size, 0, none⟩) 1 1) (w3.alloc (.cells (wcells ad W.heap.size).toArray 187)) (ex_one rfl rfl) (fun _ => True) trivial (fun _ h => h) ?_; try simp only [pS]
    rotate_left
    refine d_wpG_mk _ rfl (by rfl) (.slice (some ⟨w3.heap.size, 0, none⟩) 1 1) (w3.alloc (.cells (wcells ad W.heap.size).toArray 187)) (ex_one rfl rfl) (fun _ => True) trivial (fun _ h => h) ?_; try simp only [pS]
    refine d_wpG_mk _ rfl (by rfl) v (w3.alloc (.cells (wcells ad W.heap.size).toArray 187)) (d_ex_ld rfl rfl (hc1 _ (hw3.alloc hw3.size _))) (fun _ => True) trivial (fun _ h => h) ?_; try simp only [pS]
    all_goals
      have hw4 : Below W.heap.size W (w3.alloc (.cells (wcells ad W.heap.size).toArray 187)) := hw3.alloc hw3.size _
      have hcc := (h.cache.turned (Chg.of_below (F := fun _ => False) hw4) (fun _ _ hf => hf.elim) (fun _ _ hf => hf.elim))
      obtain ⟨v', w5, hr, hcc5, hc5⟩ := app_cache hcc (fun k hk => Nat.lt_of_lt_of_le (h.lt k hk) hw4.size) ha hb (hb3.alloc (.cells (wcells ad W.heap.size).toArray 187)) (cells_two w3 ad W.heap.size) hcn 140
      obtain ⟨hd1, hd2⟩ := app_disk h hq hw4 (Nat.le_refl _) (hb3.alloc (.cells (wcells ad W.heap.size).toArray 187)) hcc5 hc5
      refine d_wpG_mk _ rfl (by rfl) v' w5 (ex_app rfl rfl rfl hr) (fun _ => True) trivial (fun _ h => h) ?_; try simp only [pS]
      refine wpG_take _ (.pointer (some ⟨D, 0, none⟩)) rfl (by rfl) (fun X hX => ex_nc rfl rfl) ?_; try simp only [pS]
      refine wpG_take _ (.pointer (some ⟨D, 3, none⟩)) rfl (by rfl) (fun X hX => ex_fa (by omega) rfl rfl) ?_; try simp only [pS]
      have hform := (hcc5 (fun _ => True) (fun _ _ => trivial) trivial (fun _ _ => trivial)).form
      obtain ⟨sp', cap', rfl, _, _⟩ := hform
      have hb4 : Blk (w3.alloc (.cells (wcells ad W.heap.size).toArray 187)) D (dcells Q M v to s) 142 := h.blk.below hw4 hD
      have hb5 : Blk w5 D (dcells Q M v to s) 142 := hb4.chg hc5 (fun ⟨_, cs, hbb⟩ => absurd (hbb.same hb4) (by decide))
      refine wpG_st _ rfl (by rfl) (w5.setCell ⟨D, 3, none⟩ (.slice sp' (s.cache ++ [(ad, b)]).length cap')) (ex_st rfl rfl rfl (hb5.cell rfl) (hb5.free 3)) (fun _ => True) trivial trivial (fun _ h => h) ?_
      refine wpG_nil ?_
      go_end0
      exact ⟨rfl, hd1, hd2⟩
  · have hd : decide (ad < s.n) = false := by simpa using hn
    rw [if_neg hn]
    clear hn
    go_enter Tryz.func89, Tryz.ntmps89
    go_wp2_with (first | (go_at_call 71; refine (d_has_any D Q S s ad ha _ H.out.at').mono ?_; rintro e w' ⟨rfl, rfl⟩; rw [hd]) | fail)
    go_end0
    exact ⟨rfl, H.out.extC hq, Chg.refl _ _⟩
end Go.Proofs.YtmgagalhpkieoaaGreatDoor
/- Operations of the regions that draw, each by its value. -/
namespace Go.Proofs.YtmgagalhpkieoaaGreatDoor
open Go.RowKit

theorem ex_ld72 {ρ : Operand → Value} {o : Oper} {x : Operand} {ad : Addr} {v : Value} {w : World} (ho : o.op = .load 139 x) (hx : ρ x = .pointer (some ad)) (hc : w.cell? ad = some v) : (execOp ρ o).run Tryz.prog w = .ok (.value v) w := by
  unfold execOp
  simp only [ho]
  go_simp
theorem ex_ld41 {ρ : Operand → Value} {o : Oper} {x : Operand} {ad : Addr} {v : Value} {w : World} (ho : o.op = .load 52 x) (hx : ρ x = .pointer (some ad)) (hc : w.cell? ad = some v) : (execOp ρ o).run Tryz.prog w = .ok (.value v) w := by
  unfold execOp
  simp only [ho]
  go_simp
theorem ex_ld42 {ρ : Operand → Value} {o : Oper} {x : Operand} {ad : Addr} {v : Value} {w : World} (ho : o.op = .load 59 x) (hx : ρ x = .pointer (some ad)) (hc : w.cell? ad = some v) : (execOp ρ o).run Tryz.prog w = .ok (.value v) w := by
  unfold execOp
  simp only [ho]
  go_simp
theorem ex_fa100 {ρ : Operand → Value} {o : Oper} {x : Operand} {b j : Nat} {w : World} (hj : j < 2) (ho : o.op = .fieldAddr 187 x j) (hx : ρ x = .pointer (some ⟨b, 0, none⟩)) : (execOp ρ o).run Tryz.prog w = .ok (.value (.pointer (some ⟨b, j, none⟩))) w := by
  unfold execOp
  simp only [ho]
  match j, hj with
  | 0, _ | 1, _ => go_simp
theorem ex_fa89 {ρ : Operand → Value} {o : Oper} {x : Operand} {b : Nat} {w : World} (ho : o.op = .fieldAddr 156 x 0) (hx : ρ x = .pointer (some ⟨b, 0, none⟩)) : (execOp ρ o).run Tryz.prog w = .ok (.value (.pointer (some ⟨b, 0, none⟩))) w := by
  unfold execOp
  simp only [ho]
  go_simp
theorem ex_sl87 {ρ : Operand → Value} {o : Oper} {x : Operand} {b : Nat} {w : World} (ho : o.op = .slice 154 x none none none) (hx : ρ x = .pointer (some ⟨b, 0, none⟩)) : (execOp ρ o).run Tryz.prog w = .ok (.value (.slice (some ⟨b, 0, none⟩) 512 512)) w := by
  unfold execOp
  simp only [ho]
  go_simp
theorem ex_sl42 {ρ : Operand → Value} {o : Oper} {x y z : Operand} {b n : Nat} {w : World} (ho : o.op = .slice 59 x none (some y) (some z)) (hx : ρ x = .slice (some ⟨b, 0, none⟩) 512 512) (hy : ρ y = .int .i64 (n : Int)) (hz : ρ z = .int .i64 (n : Int)) (hn : n ≤ 512) :
    (execOp ρ o).run Tryz.prog w = .ok (.value (.slice (some ⟨b, 0, none⟩) n n)) w := by
  unfold execOp
  simp only [ho]
  go_simp
  intro h
  omega
theorem ex_look {ρ : Operand → Value} {o : Oper} {m x : Operand} {M ad : Nat} {mem : Nat → Bk} {w : World} (ho : o.op = .lookup 139 m x false) (hm : ρ m = .map (some M)) (hx : ρ x = .int .u16 (ad : Int)) (h : MapAt w M mem) (ha : ad < 65536) : (execOp ρ o).run Tryz.prog w = .ok (.value (BV (mem ad))) w := by
  have hr := h.look ha
  unfold execOp
  simp only [ho]
  simp [hm, hx, hr, Result.andThen]
theorem ex_alloc89 {ρ : Operand → Value} {o : Oper} {w : World} (ho : o.op = .alloc 156) : (execOp ρ o).run Tryz.prog w = .ok (.value (.pointer (some ⟨w.heap.size, 0, none⟩))) (w.alloc (.cells (bcells blank).toArray 156)) := by
  have hr := run_alloc89 w
  unfold execOp
  simp only [ho]
  simp [hr, Result.andThen]
theorem ex_store89 {ρ : Operand → Value} {o : Oper} {x y : Operand} {g : Nat} {k k0 : Bk} {w : World} (ho : o.op = .store 156 x y) (hx : ρ x = .pointer (some ⟨g, 0, none⟩)) (hy : ρ y = BV k) (hk : k.b.length = 512) (hk0 : k0.b.length = 512) (hb : Blk w g (bcells k0) 156) :
    (execOp ρ o).run Tryz.prog w = .ok .skip (w.setRow g (bcells k).toArray) := by
  have hr := run_storeVar_row (P := Tryz.prog) w g 156 156 (bcells k0).toArray (bcells k).toArray hb (by rw [size89]; simp [bcells_length hk]) (by simp [bcells_length hk, bcells_length hk0]) (one_bcells k)
  unfold execOp
  simp only [ho, hx, hy, BV, Instr.storeAt, Instr.sureAddr, Sem.run_bind, Sem.run_pure, Result.andThen_ok, hr]
theorem ex_load89 {ρ : Operand → Value} {o : Oper} {x : Operand} {g : Nat} {k : Bk} {w : World} (ho : o.op = .load 156 x) (hx : ρ x = .pointer (some ⟨g, 0, none⟩)) (hk : k.b.length = 512) (hb : Blk w g (bcells k) 156) :
    (execOp ρ o).run Tryz.prog w = .ok (.value (BV k)) w := by
  have hr := run_loadVar_row (P := Tryz.prog) w g 156 156 (bcells k).toArray (0, 0) _ hb Tryz.underlying156 rfl (by rw [size89]; simp [bcells_length hk])
  unfold execOp
  simp only [ho, hx, BV, Instr.loadAt, Instr.sureAddr, Sem.run_bind, Sem.run_pure, Result.andThen_ok, hr]
theorem ex_put {ρ : Operand → Value} {o : Oper} {m x y : Operand} {M ad : Nat} {k : Bk} {w w' : World} (ho : o.op = .mapUpdate 139 m x y) (hm : ρ m = .map (some M)) (hx : ρ x = .int .u16 (ad : Int)) (hy : ρ y = BV k)
    (hr : (Instr.mapUpdate 139 (.map (some M)) (.int .u16 (ad : Int)) (BV k)).run Tryz.prog w = .ok () w') : (execOp ρ o).run Tryz.prog w = .ok .skip w' := by
  unfold execOp
  simp only [ho]
  simp [hm, hx, hy, hr, Result.andThen]
theorem grown_chg {w w' : World} {M : Nat} (h : w.grownBy w' (some M)) : Chg (fun k => k = M) w w' := (Chg.refl _ w).grown h (fun k hk => by cases hk; exact .inl rfl)
def over (k : Bk) (b : d_Bs) (n : Nat) : Bk := ⟨b.take n ++ k.b.drop n, k.bad, k.stuck⟩
theorem over_length {k : Bk} {b : d_Bs} {n : Nat} (hk : k.b.length = 512) (hb : b.length = 512) (hn : n ≤ 512) : (over k b n).b.length = 512 := by simp [over, hk, hb]; omega
theorem splice_over {k : Bk} {b : d_Bs} {n : Nat} (hk : k.b.length = 512) (hb : b.length = 512) (hn : n ≤ 512) : splice (bcells k) 0 ((b.take n).map V8) = bcells (over k b n) := by
  unfold splice bcells over
  have hl : ((b.take n).map V8).length = n := by simp [hb]; omega
  rw [hl]
  simp only [List.take_zero, List.nil_append, Nat.zero_add, List.map_append]
  rw [List.drop_append_of_le_length (by simp [hk]; omega), List.map_drop, List.append_assoc]
section
variable {ops : Array Oper} {Q : Exit → Act → World → Prop} {S : World → Prop}
theorem wpG_copy {i : Nat} {r : Tr} {a : Act} {w : World} (o : Oper) (hi : ops.toList[i]? = some o) (hw : Region.wanted o (yielded ops a.tmps) = true) (d s : Operand)
    (ho : o.op = .call { callee := .builtin .copy, args := #[d, s], argTypes := #[59, 59] }) {g gb n cap : Nat} {sp : Option Addr} {k : Bk} {b : d_Bs} (hd : a.eval d = .slice (some ⟨g, 0, none⟩) 512 512) (hs : a.eval s = .slice sp n cap) (hsp : 0 < n → sp = some ⟨gb, 0, none⟩) (hn : n ≤ 512)
    (hk : k.b.length = 512) (hb : b.length = 512) (hg : Blk w g (bcells k) 156) (hgb : Blk w gb (b.map V8) 5)
    (h : ∀ w', Blk w' g (bcells (over k b n)) 156 → Chg (fun i => i = g) w w' → w'.heap.size = w.heap.size → S w' ∧ wpG Tryz.prog ops Q r S (a.put o.dst (goInt n)) w') : wpG Tryz.prog ops Q (.step i r) S a w := by
  have hl : ((b.take n).map V8).length = n := by simp [hb]; omega
  have hfin : ∀ w1, Blk w1 g (splice (bcells k) 0 ((b.take n).map V8)) 156 → Chg (fun i => i = g) w w1 → w1.heap.size = w.heap.size → S w1 ∧ wpG Tryz.prog ops Q r S (a.put o.dst (goInt ((b.take n).map V8).length)) w1 := fun w1 h1 h2 h3 => by
    rw [splice_over hk hb hn] at h1
    rw [hl]
    exact h w1 h1 h2 h3
  refine wpG_bare o hi hw fun K hK => ?_
  by_cases h0 : n = 0
  · subst h0
    refine wpList_copy_nothing rfl d s 59 59 ho 5 Tryz.underlying59 sizeB (some ⟨g, 0, none⟩) sp 512 512 0 cap hd hs (by simp) ?_
    have := h w (by simpa [over] using hg) (Chg.refl _ _) rfl
    exact wpG_list_nil (hK _ _ S (fun _ h => h) this.1 this.2)
  · have hspx := hsp (by omega)
    subst hspx
    refine wpList_copy_own rfl d s 59 59 ho 5 Tryz.underlying59 sizeB g 0 512 512 ⟨gb, 0, none⟩ n cap hd hs (bcells k).toArray 156 hg ((b.take n).map V8) (by rw [hl]; show n = min n 512; omega) (fun j v hv => ?_) (by simp [bcells_length hk]; omega) (one_v8 _) ?_
    · rw [Addr.add_mid, Nat.zero_add]
      refine hgb.cell ?_
      rw [List.getElem?_map] at hv ⊢
      rw [List.getElem?_take] at hv
      split at hv
      · exact hv
      · simp at hv
    · have hx := hfin (w.setRow g (splice (bcells k) 0 ((b.take n).map V8)).toArray) (hg.row _) ((Chg.refl (fun i => i = g) _).setRow (.inl rfl) _) (by simp)
      exact wpG_list_nil (hK _ _ S (fun _ h => h) hx.1 hx.2)
end
end Go.Proofs.YtmgagalhpkieoaaGreatDoor
