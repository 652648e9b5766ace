/- Content: Write. -/
import Derived.Test.YthionhliokhcgaaCi
namespace Go.Proofs.Ythionhliokhcgaa
open Go.RowKit Go.Shelf

attribute [local go_sem] Oper.semAt_some

def wtP : Nat → Nat → Bool := fun f t => decide (t - f < 512)
theorem part_ok : WantsOk 15 wtP := fun off f t v h1 h2 W => cpart_any off f t v ⟨h1, h2⟩ W
/-- Bytes that a call was given: in memory that it does not turn. -/
def SrcW (w : World) (D : Nat) (av : Value) (A : World) (sp : Option Addr) (l : B8) : Prop :=
  0 < l.length → ∃ g o, sp = some ⟨g, o, none⟩ ∧ g < w.heap.size ∧ g ≠ D ∧ av.ownBlock ≠ some g ∧ ∀ j, j < l.length → A.cell? ⟨g, o + j, none⟩ = some (V8 (l.getD j 0))
theorem SrcW.keep {w A A' : World} {D : Nat} {av : Value} {sp : Option Addr} {l : B8} (h : SrcW w D av A sp l) (hk : ∀ g, g < w.heap.size → g ≠ D → av.ownBlock ≠ some g → A'.heap[g]? = A.heap[g]?) : SrcW w D av A' sp l := fun h0 => by
  obtain ⟨g, o, e, h1, h2, h3, h4⟩ := h h0
  exact ⟨g, o, e, h1, h2, h3, fun j hj => (World.cell?_of_block (w := A) (a := ⟨g, o + j, none⟩) (hk g h1 h2 h3)).trans (h4 j hj)⟩
theorem SrcW.nil (w : World) (D : Nat) (av : Value) (A : World) (sp : Option Addr) : SrcW w D av A sp [] := fun h => absurd h (by simp)
theorem getD_drop (l : B8) (n j : Nat) : (l.drop n).getD j 0 = l.getD (n + j) 0 := by simp [List.getD_eq_getElem?_getD]
/-- A piece's block, with the bytes that are written into it. -/
def blkW (m : List B8) (b : B8) (X te i : Nat) : B8 :=
  splice (padL (if wtP (pcF X i) (pcT X te i) = true then m.getD (pcO X i) [] else [])) (pcF X i) ((b.drop (pcA X i - X)).take (pcT X te i - pcF X i))
def wrU (m : List B8) (b : B8) (X te n : Nat) : List (Nat × B8) := (List.range n).map (fun i => (pcO X i, blkW m b X te i))
theorem wrU_succ (m : List B8) (b : B8) (X te n : Nat) : wrU m b X te (n + 1) = wrU m b X te n ++ [(pcO X n, blkW m b X te n)] := by unfold wrU; rw [List.range_succ, List.map_append]; rfl
theorem wrU_len (m : List B8) (b : B8) (X te n : Nat) : (wrU m b X te n).length = n := by simp [wrU]
/-- What is left to be written. -/
def WrE (w : World) (D : Nat) (av : Value) (g7 X : Nat) (te : Nat) (b : B8) (i : Nat) (A : World) : Prop :=
  ∃ sp cap, Blk A g7 [.slice sp (te - min (pcA X i) te) cap] 24 ∧ te - min (pcA X i) te ≤ cap ∧ cap ≤ maxLen ∧ SrcW w D av A sp (b.drop (min (pcA X i) te - X))
theorem wrE_keeps {w : World} {nS D g7 X te : Nat} {av : Value} {b : B8} (hws : w.heap.size ≤ nS) : Keeps D av ⟨w, nS⟩ (WrE w D av g7 X te b) := fun i A A' l h k hd => by
  obtain ⟨sp, cap, h1, h2, h3, h4⟩ := h
  exact ⟨sp, cap, k.new _ _ _ h1 (fun e => by subst e; exact absurd (h1.same hd) (by decide)) (by decide), h2, h3, h4.keep (fun g hg h1 h2 => k.old g (Nat.lt_of_lt_of_le hg hws) h1 h2)⟩
section
variable {ρ : Operand → Value} {o : Oper} {x y : Operand}
theorem c_exCopy {w : World} {g off dl dc cap n : Nat} {ad : Addr} {l : B8} {cur : List Value} {t : TypeId} (ho : o.op = .call { callee := .builtin .copy, args := #[x, y], argTypes := #[24, 24] }) (hx : ρ x = .slice (some ⟨g, off, none⟩) dl dc) (hy : ρ y = .slice (some ad) n cap)
    (hg : Blk w g cur t) (hn : l.length = min n dl) (hsrc : ∀ j u, (l.map V8)[j]? = some u → w.cell? (ad.add j) = some u) (hfit : off + l.length ≤ cur.length) :
    (execOp ρ o).run Try.prog w = .ok (.value (.int .i64 (l.length : Int))) (w.setRow g (splice cur off (l.map V8)).toArray) := by
  have hr := run_copy_row (P := Try.prog) w 24 24 o.type 5 g off dl dc ad n cap cur.toArray t (l.map V8) Try.underlying24 sizeB hg (by rw [List.length_map]; exact hn) hsrc (by simpa using hfit) (one_v8 l)
  have e : (cur.toArray.toList.take off ++ l.map V8 ++ cur.toArray.toList.drop (off + (l.map V8).length)) = splice cur off (l.map V8) := by simp [splice]
  rw [e, List.length_map] at hr
  unfold execOp
  simp only [ho, resolve, invoke, builtin, Sem.run_bind, Sem.run_pure, Result.andThen_ok, List.map_toArray, List.map_cons, List.map_nil, hx, hy, hr]
  rfl
theorem c_slFrom {g off n cap k : Nat} (hk : k ≤ n) (hc : n ≤ cap) (hm : cap ≤ maxLen) : ∃ sp', (0 < n - k → sp' = some ⟨g, off + k, none⟩) ∧ ∀ (ρ : Operand → Value) (o : Oper) (w : World), o.op = .slice 24 x (some y) none none → ρ x = .slice (some ⟨g, off, none⟩) n cap → ρ y = .int .i64 (k : Int) → (execOp ρ o).run Try.prog w = .ok (.value (.slice sp' (n - k) (cap - k))) w := by
  unfold maxLen at hm
  by_cases h : cap = k
  · refine ⟨some ⟨g, off, none⟩, fun h0 => by omega, fun ρ o w ho hx hy => ?_⟩
    have e1 : ¬ (n : Int) < (k : Int) := by omega
    have e2 : ¬ n < k := by omega
    unfold execOp
    simp only [ho]
    go_simp
  · refine ⟨some ⟨g, off + k, none⟩, fun _ => rfl, fun ρ o w ho hx hy => ?_⟩
    have e1 : ¬ (n : Int) < (k : Int) := by omega
    have e2 : ¬ n < k := by omega
    unfold execOp
    simp only [ho]
    go_simp
end
theorem map_splice (a : B8) (k : Nat) (c : B8) : (splice a k c).map V8 = splice (a.map V8) k (c.map V8) := by
  unfold splice
  rw [List.map_append, List.map_append, List.map_take, List.map_drop, List.length_map]
/-- The numbers of a piece that is written. -/
theorem wr_nums {X te x : Nat} (h : pcA X x < te) (hX : X ≤ te) : min (pcA X x) te = pcA X x ∧ te - min (pcA X (x + 1)) te = (te - pcA X x) - (pcT X te x - pcF X x) ∧ min (pcA X (x + 1)) te - X = (pcA X x - X) + (pcT X te x - pcF X x) ∧ pcT X te x - pcF X x ≤ te - pcA X x ∧ 0 < pcT X te x - pcF X x ∧ X ≤ pcA X x := by
  obtain ⟨f1, f2, f3, f4, f5⟩ := pc_facts h
  have := pcA_le X x
  omega
/-- The bytes of a piece are written into its block, and are no longer waiting. -/
theorem wr_copy {w : World} {nS B D G lo g7 g8 g9 g10 g13 : Nat} {vs : List Value} {m : List B8} {bad : Nat} {av : Value} {X te wf : Nat} {aq : List Nat} {b : B8} {x : Nat} {A A1 : World} (hw : WtB w nS g8 g9 g10 g13) (hlo : lo = w.heap.size) (h7 : w.heap.size ≤ g7 ∧ g7 < nS) (n7 : g7 ≠ g8 ∧ g7 ≠ g9 ∧ g7 ≠ g10 ∧ g7 ≠ g13)
    (hte : te = X + b.length) (hm : ∀ l ∈ m, l.length ≤ 512) (hJ : HdJ1 ⟨w, nS⟩ B D G vs m bad av wtP X te wf aq (WtK lo g8 g9 g10 g13 (wrU m b X te) (WrE w D av g7 X te b)) x A) (hb : Below A.heap.size A A1) {l : B8} (hl : l = if wtP (pcF X x) (pcT X te x) = true then m.getD (pcO X x) [] else []) {gb : Nat} (hgb : Blk A1 gb ((padL l).map V8) 5) (hge : A.heap.size ≤ gb) :
    ∃ g o cap, (∀ Y : World, Below A.heap.size A Y → Y.cell? ⟨g7, 0, none⟩ = some (.slice (some ⟨g, o, none⟩) (te - pcA X x) cap)) ∧ pcT X te x - pcF X x ≤ te - pcA X x ∧ te - pcA X x ≤ cap ∧ cap ≤ maxLen ∧
      (∀ j u, (((b.drop (pcA X x - X)).take (pcT X te x - pcF X x)).map V8)[j]? = some u → A1.cell? ((⟨g, o, none⟩ : Addr).add j) = some u) ∧ ((b.drop (pcA X x - X)).take (pcT X te x - pcF X x)).length = pcT X te x - pcF X x ∧
      (∀ sp'' : Option Addr, (0 < (te - pcA X x) - (pcT X te x - pcF X x) → sp'' = some ⟨g, o + (pcT X te x - pcF X x), none⟩) → ∀ A2 A3 : World, A2 = A1.setRow gb (splice ((padL l).map V8) (pcF X x) (((b.drop (pcA X x - X)).take (pcT X te x - pcF X x)).map V8)).toArray → A3 = A2.setCell ⟨g7, 0, none⟩ (.slice sp'' ((te - pcA X x) - (pcT X te x - pcF X x)) (cap - (pcT X te x - pcF X x))) →
        (∃ c, A2.cell? ⟨g7, 0, none⟩ = some c) ∧ A2.frozen? ⟨g7, 0, none⟩ = false ∧ (∀ g cs, Blk A g cs 56 → Blk A2 g cs 56 ∧ Blk A3 g cs 56) ∧ KeepsFrom nS A A3 ∧ Cst ⟨w, nS⟩ B D G vs m bad av X te wf (aq ++ askU wtP X te (x + 1)) A3 ∧
        Blk A3 g8 [.slice none 0 0] 35 ∧ Blk A3 g9 [.int .u32 0] 34 ∧ Blk A3 g10 [.int .i64 0] 36 ∧ (∃ cv, Blk A3 g13 [cv] 35 ∧ ChAt A3 lo cv (wrU m b X te x)) ∧ WrE w D av g7 X te b (x + 1) A3 ∧ OwnB A3 lo (.slice (some ⟨gb, 0, none⟩) 512 512) (blkW m b X te x)) := by
  obtain ⟨n1, n2, n3, n4, n5, n6⟩ := wr_nums hJ.l (by omega)
  obtain ⟨f1, f2, f3, f4, f5⟩ := pc_facts hJ.l
  have hT := pcT_le X te x
  have hll : l.length ≤ 512 := by
    rw [hl]; split
    · exact getD_le hm _
    · simp
  obtain ⟨sp, cap, hb7, hc1, hc2, hsrc⟩ := hJ.k.ex
  rw [n1] at hb7 hc1 hsrc
  have hdl : (b.drop (pcA X x - X)).length = te - pcA X x := by rw [List.length_drop]; omega
  obtain ⟨g, o, rfl, s1, s2, s3, s4⟩ := hsrc (by omega)
  have hws : w.heap.size ≤ nS := by obtain ⟨av', _, k2⟩ := hJ.c.sh; exact k2.ws
  have hsz : nS ≤ A.heap.size := hJ.c.size
  have htl : ((b.drop (pcA X x - X)).take (pcT X te x - pcF X x)).length = pcT X te x - pcF X x := by rw [List.length_take, hdl]; omega
  refine ⟨g, o, cap, fun Y hY => (hb7.below hY hb7.lt).cell (j := 0) rfl, n4, hc1, hc2, fun j u hj => ?_, htl, fun sp'' hsp A2 A3 e2 e3 => ?_⟩
  · rw [Addr.add_mid]
    rw [List.getElem?_map, List.getElem?_take] at hj
    have hjl : j < pcT X te x - pcF X x := by
      by_cases h : j < pcT X te x - pcF X x
      · exact h
      · rw [if_neg h] at hj; simp at hj
    rw [if_pos hjl] at hj
    have h0 := s4 j (by omega)
    have hj2 : j < (b.drop (pcA X x - X)).length := by omega
    rw [List.getElem?_eq_getElem hj2] at hj
    rw [hb.cell (p := ⟨g, o + j, none⟩) (by show g < _; omega), h0, ← hj, List.getD_eq_getElem?_getD, List.getElem?_eq_getElem hj2]
    rfl
  · have hA2 : Chg (fun k => k = g7) A A2 := by rw [e2]; exact (Chg.of_below hb).setRow (.inr hge) _
    have hne : gb ≠ g7 := by have := hb7.lt; omega
    have hb72 : Blk A2 g7 [.slice (some ⟨g, o, none⟩) (te - pcA X x) cap] 24 := by rw [e2]; exact (hb7.below hb hb7.lt).rowOther (Ne.symm hne) _
    have hA3 : Chg (fun k => k = g7) A A3 := by rw [e3]; exact hA2.setCell (.inl rfl) 0 _
    have hgb2 : Blk A2 gb ((blkW m b X te x).map V8) 5 := by
      rw [e2]
      have := hgb.row (splice ((padL l).map V8) (pcF X x) (((b.drop (pcA X x - X)).take (pcT X te x - pcF X x)).map V8))
      have e : (blkW m b X te x).map V8 = splice ((padL l).map V8) (pcF X x) (((b.drop (pcA X x - X)).take (pcT X te x - pcF X x)).map V8) := by
        unfold blkW
        rw [← hl]
        exact map_splice _ _ _
      rw [e]
      exact this
    have hgb3 : Blk A3 gb ((blkW m b X te x).map V8) 5 := by rw [e3]; exact hgb2.chg (chg1 A2 g7 0 _) hne
    obtain ⟨cv, h13, hch⟩ := hJ.k.b13
    refine ⟨hb72.has 0 (by simp), hb72.free 0, fun k cs hk => ?_, KeepsFrom.chg hA3 (fun k e => by have e : k = g7 := e; rw [e]; exact ⟨_, _, hb7⟩), hJ.c.setG hb7 (by decide) (.inl h7.2) h7.1 hA3, hJ.k.b8.chg hA3 (Ne.symm n7.1), hJ.k.b9.chg hA3 (Ne.symm n7.2.1), hJ.k.b10.chg hA3 (Ne.symm n7.2.2.1), ⟨cv, h13.chg hA3 (Ne.symm n7.2.2.2), hch.chg1 hb7 (by decide) (by decide) hA3⟩, ?_, ?_⟩
    · have hk7 : k ≠ g7 := fun e => by subst e; exact absurd (hk.same hb7) (by decide)
      exact ⟨hk.chg hA2 hk7, hk.chg hA3 hk7⟩
    · refine ⟨sp'', cap - (pcT X te x - pcF X x), by rw [e3, n2]; exact hb72.set 0 _, by omega, by omega, fun h0 => ?_⟩
      have hdl2 : (b.drop (min (pcA X (x + 1)) te - X)).length = (te - pcA X x) - (pcT X te x - pcF X x) := by rw [List.length_drop, n3]; omega
      refine ⟨g, o + (pcT X te x - pcF X x), hsp (by omega), s1, s2, s3, fun j hj => ?_⟩
      have h1 := s4 (pcT X te x - pcF X x + j) (by omega)
      rw [getD_drop] at h1
      rw [n3, getD_drop, World.cell?_of_block (w := A) (a := ⟨g, o + (pcT X te x - pcF X x) + j, none⟩) (hA3.block g (by omega) (by omega)), Nat.add_assoc o, h1, Nat.add_assoc]
    · have hlen : (blkW m b X te x).length = 512 := by
        unfold blkW
        rw [← hl]
        unfold splice
        rw [List.length_append, List.length_append, List.length_take, List.length_drop, padL_length hll, htl]
        omega
      have h9 := hgb3.owns (base := lo) (n := 512) (by omega) (by simp [hlen]) (by simp [hlen, maxLen])
      rw [List.length_map, hlen, List.take_of_length_le (by simp [hlen])] at h9
      unfold OwnB
      rw [hlen]
      exact h9
end Go.Proofs.Ythionhliokhcgaa
