/- How the document's disk grows, act by act; the law's disks, made, and kept apart by labels. -/
import Derived.Test.YtneemllgimeacaaBz
import Derived.Test.YtneemllgimeacaaTw
namespace Go.Proofs.Ytneemllgimeacaa
open Go.RowKit

structure Bd (t : Rsk) (k : Nat) : Prop where
  m : t.m.length + t.cache.length ≤ k
  bad : t.bad.length ≤ k
  stuck : t.stuck.length ≤ k
  b : ∀ x ∈ t.m, x.2.length = 512
  c : ∀ x ∈ t.cache, x.1 < 65536 ∧ x.2.length = 512
  al : ∀ x, t.astray = some x → x < 65536
theorem Bd.up {t : Rsk} {k l : Nat} (h : Bd t k) (hl : k ≤ l) : Bd t l := ⟨Nat.le_trans h.m hl, Nat.le_trans h.bad hl, Nat.le_trans h.stuck hl, h.b, h.c, h.al⟩
theorem Bd.room {t : Rsk} {k : Nat} (h : Bd t k) (hk : k < 1000000) : Room t :=
  ⟨⟨by have := h.m; omega, by have := h.m; omega, by have := h.bad; omega, by have := h.stuck; omega⟩, by have := h.m; omega, h.b, h.c⟩
theorem Bd.kept {t : Rsk} {k : Nat} (h : Bd t k) {a : Nat} (ha : a < 65536) {b : Bs} (hb : b.length = 512) : Bd (rkept t a b) (k + 1) := by
  unfold rkept
  split
  · refine ⟨?_, Nat.le_succ_of_le h.bad, Nat.le_succ_of_le h.stuck, h.b, fun x hx => ?_, h.al⟩
    · have := h.m
      simp
      omega
    · rcases List.mem_append.1 hx with hx | hx
      · exact h.c x hx
      · simp at hx
        subst hx
        exact ⟨ha, hb⟩
  · exact h.up (by omega)
theorem Bd.grows {t u : Rsk} {k j : Nat} (h : Bd t k) (g : Grows t u j) (hj : j ≤ t.cache.length) (u' : Rsk) (e1 : u'.m = u.m) (e2 : u'.cache = []) (e3 : u'.bad = u.bad) (e4 : u'.stuck = u.stuck) (e5 : ∀ x, u'.astray = some x → u.astray = some x) : Bd u' (k + 1) := by
  refine ⟨?_, ?_, ?_, ?_, ?_, ?_⟩
  · rw [e1, e2]
    have := g.m
    have := h.m
    simp
    omega
  · rw [e3]
    have := g.bad
    have := h.bad
    omega
  · rw [e4, g.stuck]
    have := h.stuck
    omega
  · rw [e1]
    exact g.b
  · rw [e2]
    intro x hx
    simp at hx
  · intro x hx
    have := e5 x hx
    rw [g.astray] at this
    exact h.al x this
theorem grows_all {t : Rsk} (hb : ∀ x ∈ t.m, x.2.length = 512) (hc : ∀ x ∈ t.cache, x.1 < 65536 ∧ x.2.length = 512) : ∀ k, k ≤ t.cache.length → Grows t (rall t (t.cache.take k)) k
  | 0, _ => by simpa [rall] using Grows.refl hb
  | k + 1, hk => by
    obtain ⟨x, hx⟩ : ∃ x, t.cache[k]? = some x := ⟨_, List.getElem?_eq_getElem (by omega)⟩
    rw [take_one hx, rall_snoc]
    exact (grows_all hb hc k (by omega)).came x.1 (hc x (List.mem_of_getElem? hx)).2 (Nat.le_refl _)
theorem grows_set {t : Rsk} (zs : List Int) (hb : ∀ x ∈ t.m, x.2.length = 512) (hc : ∀ x ∈ t.cache, x.1 < 65536 ∧ x.2.length = 512) : ∀ k, k ≤ t.cache.length → Grows t (rset zs t k) k
  | 0, _ => Grows.refl hb
  | k + 1, hk => by
    obtain ⟨x, hx⟩ : ∃ x, t.cache[k]? = some x := ⟨_, List.getElem?_eq_getElem (by omega)⟩
    have ih := grows_set zs hb hc k (by omega)
    rcases pickOf_bounds zs k with hp | ⟨hp, hp2⟩
    · rw [rset_none hp]
      exact ih.skip
    · rw [rset_some hx (show pickOf zs k = ((pickOf zs k).toNat : Int) by omega)]
      exact ih.came x.1 (hc x (List.mem_of_getElem? hx)).2 (by omega)
theorem Bd.said {t : Rsk} {k : Nat} (h : Bd t k) (p : Pw) (a : Ac) (ha : a.addr < 65536) : Bd (said t p a).2.2.1 (k + 1) := by
  have hup := h.up (show k ≤ k + 1 by omega)
  have hoth : ∀ x : Nat, (others t.cache x).length ≤ t.cache.length := fun x => List.length_filter_le _ _
  have hmem : ∀ (l : List (Nat × Bs)) (x : Nat) y, y ∈ others l x → y ∈ l := fun l x y hy => (List.mem_filter.1 hy).1
  have hf : ∀ j, j ≤ 2 → Bd (rfault t j a.addr (abytes a)).2 (k + 1) := fun j hj => by
    unfold rfault
    split
    · split
      · exact hup
      · rename_i hn
        have hc : ∀ x ∈ others t.cache a.addr, x.1 < 65536 ∧ x.2.length = 512 := fun x hx => h.c x (hmem _ _ x hx)
        have h1 := hoth a.addr
        have h2 := h.m
        have h3 : (others t.m a.addr).length ≤ t.m.length := List.length_filter_le _ _
        match j, hj with
        | 0, _ =>
          have hbl : (abytes a).length = 512 := Classical.byContradiction fun hh => hn ⟨rfl, hh⟩
          refine ⟨?_, hup.bad, hup.stuck, fun x hx => ?_, hc, h.al⟩
          · show (others t.m a.addr ++ [(a.addr, abytes a)]).length + (others t.cache a.addr).length ≤ k + 1
            simp
            omega
          · rcases List.mem_append.1 hx with hx | hx
            · exact h.b x (hmem _ _ x hx)
            · simp at hx
              subst hx
              exact hbl
        | 1, _ =>
          refine ⟨by show t.m.length + (others t.cache a.addr).length ≤ k + 1; omega, ?_, hup.stuck, h.b, hc, h.al⟩
          have h4 : (woN t.bad a.addr).length ≤ t.bad.length := List.length_filter_le _ _
          have h5 := h.bad
          show (woN t.bad a.addr ++ [a.addr]).length ≤ k + 1
          simp
          omega
        | 2, _ =>
          refine ⟨by show t.m.length + (others t.cache a.addr).length ≤ k + 1; omega, hup.bad, ?_, h.b, hc, h.al⟩
          have h4 : (woN t.stuck a.addr).length ≤ t.stuck.length := List.length_filter_le _ _
          have h5 := h.stuck
          show (woN t.stuck a.addr ++ [a.addr]).length ≤ k + 1
          simp
          omega
    · exact hup
  unfold Go.Proofs.Ytneemllgimeacaa.said
  split
  · show Bd (rwrote t p a.addr (abytes a)).2.1 (k + 1)
    unfold rwrote
    split
    · exact hup
    · split
      · exact hup
      · split
        · split
          · rename_i hbl
            split
            · exact hup
            · split
              · exact ⟨hup.m, hup.bad, hup.stuck, h.b, h.c, h.al⟩
              · split
                · rename_i x hx
                  have h1 : Bd { t with astray := none } k := ⟨h.m, h.bad, h.stuck, h.b, h.c, fun x hx => by cases hx⟩
                  exact h1.kept (h.al x hx) hbl
                · exact h.kept ha hbl
          · exact hup
        · exact hup
  · exact hup
  · show Bd (rflushed t p).2.1 (k + 1)
    unfold rflushed
    split
    · exact hup
    · split
      · exact hup
      · have g := grows_all h.b h.c t.cache.length (Nat.le_refl _)
        rw [List.take_length] at g
        exact h.grows g (Nat.le_refl _) _ rfl rfl rfl rfl (fun x hx => hx)
  · show Bd (rcrashed t a.z) (k + 1)
    unfold rcrashed
    split
    · exact hup
    · exact h.grows (grows_set a.z h.b h.c t.cache.length (Nat.le_refl _)) (Nat.le_refl _) _ rfl rfl rfl rfl (fun x hx => by cases hx)
  · exact hf 0 (by omega)
  · exact hf 1 (by omega)
  · exact hf 2 (by omega)
  · exact ⟨hup.m, hup.bad, hup.stuck, h.b, h.c, h.al⟩
  · exact ⟨hup.m, hup.bad, hup.stuck, h.b, h.c, fun x hx => by cases hx; exact ha⟩
  · exact ⟨hup.m, hup.bad, hup.stuck, h.b, h.c, h.al⟩
  · exact hup
  · exact hup
  · exact hup

def ptrV (k : Nat) : Value := .pointer (some ⟨k, 0, none⟩)
def ptrs (C : Nat → Nat) (m : Nat) : List Value := (List.range m).map fun i => ptrV (C i)
theorem ptrs_length (C : Nat → Nat) (m : Nat) : (ptrs C m).length = m := by simp [ptrs]
theorem ptrs_succ (C : Nat → Nat) (m : Nat) : ptrs C (m + 1) = ptrs C m ++ [ptrV (C m)] := by simp [ptrs, List.range_succ]
theorem ptrs_at (C : Nat → Nat) (m i : Nat) (h : i < m) : (ptrs C m)[i]? = some (ptrV (C i)) := by simp [ptrs, h]
theorem ptrs_congr {C C' : Nat → Nat} {m : Nat} (h : ∀ i, i < m → C i = C' i) : ptrs C m = ptrs C' m := by
  unfold ptrs
  exact List.map_congr_left fun i hi => by rw [h i (List.mem_range.1 hi)]
theorem info32 : (Try.prog.info? 32).map (fun i => (i.zero, i.size, i.bytes)) = some (some (.pointer none), 1, 8) := by kernel_rfl
theorem info36 : (Try.prog.info? 36).map (fun i => (i.zero, i.size, i.bytes)) = some (some (.pointer none), 1, 8) := by kernel_rfl
/-- One pointer more. -/
theorem own30_app {w : World} {B : Nat} {v : Value} {C : Nat → Nat} {m : Nat} (h : w.ownsRow B 32 1 v m (ptrs C m)) (hB : B ≤ w.heap.size) (hl : m < 1000000) {adr : Addr} {c : Nat} (hnews : ∀ j u, [ptrV (C m)][j]? = some u → w.cell? (adr.add j) = some u) (ty : TypeId) :
    ∃ v' w', (Builtin.append_ #[30, 30] ty #[v, .slice (some adr) 1 c]).run Try.prog w = .ok v' w' ∧ w'.ownsRow B 32 1 v' (m + 1) (ptrs C (m + 1)) ∧ w.grownBy w' v.ownBlock ∧ (v'.ownBlock = v.ownBlock ∨ v'.ownBlock = some w.heap.size) := by
  obtain ⟨i, hi, hz0, hz1, hz2⟩ := rinfo info32
  obtain ⟨v', w', hr, h2, h3, _, h5⟩ := run_append_own_at (P := Try.prog) w B 30 ty 32 i _ 1 8 Try.underlying30 hi hz0 hz1 hz2 rfl (by decide) v m (ptrs C m) h adr 1 c [ptrV (C m)] rfl hnews (fun y hy => by simp at hy; subst hy; rfl) (by unfold maxLen; omega) (by omega) hB
  exact ⟨v', w', hr, by rw [ptrs_succ]; exact h2, h3, h5⟩
theorem own31_app {w : World} {B : Nat} {v : Value} {C : Nat → Nat} {m : Nat} (h : w.ownsRow B 36 1 v m (ptrs C m)) (hB : B ≤ w.heap.size) (hl : m < 1000000) {adr : Addr} {c : Nat} (hnews : ∀ j u, [ptrV (C m)][j]? = some u → w.cell? (adr.add j) = some u) (ty : TypeId) :
    ∃ v' w', (Builtin.append_ #[31, 31] ty #[v, .slice (some adr) 1 c]).run Try.prog w = .ok v' w' ∧ w'.ownsRow B 36 1 v' (m + 1) (ptrs C (m + 1)) ∧ w.grownBy w' v.ownBlock ∧ (v'.ownBlock = v.ownBlock ∨ v'.ownBlock = some w.heap.size) := by
  obtain ⟨i, hi, hz0, hz1, hz2⟩ := rinfo info36
  obtain ⟨v', w', hr, h2, h3, _, h5⟩ := run_append_own_at (P := Try.prog) w B 31 ty 36 i _ 1 8 Try.underlying31 hi hz0 hz1 hz2 rfl (by decide) v m (ptrs C m) h adr 1 c [ptrV (C m)] rfl hnews (fun y hy => by simp at hy; subst hy; rfl) (by unfold maxLen; omega) (by omega) hB
  exact ⟨v', w', hr, by rw [ptrs_succ]; exact h2, h3, h5⟩
/-- The document's disk of noughts. -/
def rfresh (n : Nat) : Rsk := ⟨n, [], [], [], [], false, false, none⟩
def lab (own : Nat → Nat) (w : World) (L : Nat) (g : Nat) : Nat := if g < w.heap.size then own g else L
theorem lab_old {own : Nat → Nat} {w : World} {L g : Nat} (h : g < w.heap.size) : lab own w L g = own g := if_pos h
theorem lab_new {own : Nat → Nat} {w : World} {L g : Nat} (h : w.heap.size ≤ g) : lab own w L g = L := if_neg (by omega)
/-- So many disks made, so many of the document's. -/
structure Mk (B n : Nat) (w0 w : World) (C R : Nat → Nat) (Q q : Nat) (S T : Nat → Nat → Prop) (dv wv : Value) (m l : Nat) (own : Nat → Nat) : Prop where
  dk : ∀ i, i < m → DkAt w (C i) Q (S i) (fresh n)
  rk : ∀ i, i < l → RkAt w (R i) q (T i) (rfresh n)
  pw : PwAt w Q p0
  rp : RpAt w q p0
  hdv : w.ownsRow B 32 1 dv m (ptrs C m)
  hwv : w.ownsRow B 36 1 wv l (ptrs R l)
  os : ∀ i, i < m → ∀ g, S i g → own g = 10 + i
  ot : ∀ i, i < l → ∀ g, T i g → own g = 20 + i
  oQ : own Q = 5
  oq : own q = 6
  od : ∀ g, dv.ownBlock = some g → own g = 7
  ow : ∀ g, wv.ownBlock = some g → own g = 8
  lb : ∀ g, g < B → own g = 9
  bb : B ≤ w0.heap.size
  bel : Below B w0 w
/-- What the law, or a new disk, turns and makes. -/
theorem Mk.next {B n : Nat} {w0 w w' : World} {C R : Nat → Nat} {Q q : Nat} {S T : Nat → Nat → Prop} {dv wv : Value} {m l : Nat} {own : Nat → Nat} (h : Mk B n w0 w C R Q q S T dv wv m l own) (L : Nat) (hc : Below w.heap.size w w') : Mk B n w0 w' C R Q q S T dv wv m l (lab own w L) := by
  have hcc : Chg (fun _ => False) w w' := Chg.of_below hc
  have hBs : B ≤ w.heap.size := Nat.le_trans h.bb h.bel.size
  exact ⟨fun i hi => (h.dk i hi).chg hcc (fun _ _ h => h), fun i hi => (h.rk i hi).chg hcc (fun _ _ h => h), h.pw.chg hcc (fun h => h), h.rp.chg hcc (fun h => h), owns_chg h.hdv hcc (fun _ _ h => h), owns_chg h.hwv hcc (fun _ _ h => h),
    fun i hi g hg => (lab_old ((h.dk i hi).lt g hg)).trans (h.os i hi g hg), fun i hi g hg => (lab_old ((h.rk i hi).lt g hg)).trans (h.ot i hi g hg), (lab_old h.pw.blk.lt).trans h.oQ, (lab_old h.rp.blk.lt).trans h.oq,
    fun g hg => (lab_old (h.hdv.lt g hg).2).trans (h.od g hg), fun g hg => (lab_old (h.hwv.lt g hg).2).trans (h.ow g hg), fun g hg => (lab_old (Nat.lt_of_lt_of_le hg hBs)).trans (h.lb g hg), h.bb, h.bel.trans (hc.mono hBs)⟩
/-- A disk more. -/
theorem Mk.disk {B n : Nat} {w0 w w1 : World} {C R : Nat → Nat} {Q q : Nat} {S T : Nat → Nat → Prop} {dv wv : Value} {m l : Nat} {own : Nat → Nat} (h : Mk B n w0 w C R Q q S T dv wv m l own) (hm : m < 1000000) {D : Nat} {SD : Nat → Prop} (hd : DkAt w1 D Q SD (fresh n)) (hs : ∀ k, SD k → w.heap.size ≤ k) (hb : Below w.heap.size w w1) (ty : TypeId) :
    ∃ v' w2 C' S' own', (Builtin.append_ #[30, 30] ty #[dv, .slice (some ⟨w1.heap.size, 0, none⟩) 1 1]).run Try.prog (w1.alloc (.cells #[.pointer (some ⟨D, 0, none⟩)] 32)) = .ok v' w2 ∧ Mk B n w0 w2 C' R Q q S' T v' wv (m + 1) l own' := by
  have hz : Below w1.heap.size w1 (w1.alloc (.cells #[.pointer (some ⟨D, 0, none⟩)] 32)) := (Below.refl _ _).alloc (Nat.le_refl _) _
  have hcell : ∀ j u, [ptrV D][j]? = some u → (w1.alloc (.cells #[.pointer (some ⟨D, 0, none⟩)] 32)).cell? ((⟨w1.heap.size, 0, none⟩ : Addr).add j) = some u := fun j u hj => by
    rw [Addr.add_mid, Nat.zero_add]
    exact (Blk.new w1 [.pointer (some ⟨D, 0, none⟩)] 32).cell hj
  have hsz : (w1.alloc (.cells #[.pointer (some ⟨D, 0, none⟩)] 32)).heap.size = w1.heap.size + 1 := by simp
  generalize (w1.alloc (.cells #[.pointer (some ⟨D, 0, none⟩)] 32)) = Z at hz hcell hsz ⊢
  have h1 := (h.next (10 + m) hb).next 7 hz
  have hd1 := hd.chg (F := fun _ => False) (Chg.of_below hz) (fun _ _ h => h)
  have hold : ∀ i, i < m → (fun i => if i = m then D else C i) i = C i := fun i hi => if_neg (by omega)
  have hrow : Z.ownsRow B 32 1 dv m (ptrs (fun i => if i = m then D else C i) m) := by rw [ptrs_congr hold]; exact h1.hdv
  have hBs : B ≤ Z.heap.size := Nat.le_trans h1.bb h1.bel.size
  obtain ⟨v', w2, hr, ho, hg, hv⟩ := own30_app hrow hBs hm (adr := ⟨w1.heap.size, 0, none⟩) (c := 1) (by simp only [if_pos]; exact hcell) ty
  have hch : Chg (fun k => dv.ownBlock = some k) Z w2 := (Chg.refl _ _).grown hg (fun k hk => .inl hk)
  have hno : ∀ g, (lab (lab own w (10 + m)) w1 7) g ≠ 7 → ¬ dv.ownBlock = some g := fun g hg he => hg (h1.od g he)
  have hDlab : ∀ g, SD g → lab (lab own w (10 + m)) w1 7 g = 10 + m := fun g hg => (lab_old (hd.lt g hg)).trans (lab_new (hs g hg))
  refine ⟨v', w2, fun i => if i = m then D else C i, fun i => if i = m then SD else S i, lab (lab (lab own w (10 + m)) w1 7) Z 7, hr, ?_⟩
  refine ⟨fun i hi => ?_, fun i hi => (h1.rk i hi).chg hch (fun k hk => hno k (by rw [h1.ot i hi k hk]; omega)), h1.pw.chg hch (hno Q (by rw [h1.oQ]; omega)), h1.rp.chg hch (hno q (by rw [h1.oq]; omega)), ho, owns_chg h1.hwv hch (fun g hg => hno g (by rw [h1.ow g hg]; omega)),
    fun i hi g hg => ?_, fun i hi g hg => (lab_old ((h1.rk i hi).lt g hg)).trans (h1.ot i hi g hg), (lab_old h1.pw.blk.lt).trans h1.oQ, (lab_old h1.rp.blk.lt).trans h1.oq, fun g hg => ?_, fun g hg => (lab_old (h1.hwv.lt g hg).2).trans (h1.ow g hg), fun g hg => (lab_old (Nat.lt_of_lt_of_le hg hBs)).trans (h1.lb g hg), h1.bb,
    h1.bel.trans (hch.below (fun k hk => (h1.hdv.lt k hk).1) hBs)⟩
  · show DkAt w2 (if i = m then D else C i) Q (if i = m then SD else S i) (fresh n)
    by_cases him : i = m
    · rw [if_pos him, if_pos him]
      exact hd1.chg hch (fun k hk => hno k (by rw [hDlab k hk]; omega))
    · rw [if_neg him, if_neg him]
      exact (h1.dk i (by omega)).chg hch (fun k hk => hno k (by rw [h1.os i (by omega) k hk]; omega))
  · change (if i = m then SD else S i) g at hg
    by_cases him : i = m
    · rw [if_pos him] at hg
      rw [lab_old (hd1.lt g hg), hDlab g hg, him]
    · rw [if_neg him] at hg
      exact (lab_old ((h1.dk i (by omega)).lt g hg)).trans (h1.os i (by omega) g hg)
  · rcases hv with hv | hv
    · rw [hv] at hg
      exact (lab_old (h1.hdv.lt g hg).2).trans (h1.od g hg)
    · rw [hv] at hg
      cases hg
      exact lab_new (Nat.le_refl _)
/-- The document's disk more. -/
theorem Mk.doc {B n : Nat} {w0 w : World} {C R : Nat → Nat} {Q q : Nat} {S T : Nat → Nat → Prop} {dv wv : Value} {m l : Nat} {own : Nat → Nat} (h : Mk B n w0 w C R Q q S T dv wv m l own) (hl : l < 1000000) (hn : n ≤ 65536) (ty : TypeId) :
    ∃ v' w2 R' T' own', (Builtin.append_ #[31, 31] ty #[wv, .slice (some ⟨w.heap.size + 1, 0, none⟩) 1 1]).run Try.prog ((w.alloc (.cells (rcells q (.slice none 0 0) (.slice none 0 0) (.slice none 0 0) (.slice none 0 0) (.slice none 0 0) (rfresh n)).toArray 40)).alloc (.cells #[.pointer (some ⟨w.heap.size, 0, none⟩)] 36)) = .ok v' w2 ∧ Mk B n w0 w2 C R' Q q S T' dv v' m (l + 1) own' := by
  obtain ⟨w1, hw1⟩ : ∃ w1, (w.alloc (.cells (rcells q (.slice none 0 0) (.slice none 0 0) (.slice none 0 0) (.slice none 0 0) (.slice none 0 0) (rfresh n)).toArray 40)) = w1 := ⟨_, rfl⟩
  have hb : Below w.heap.size w w1 := by rw [← hw1]; exact (Below.refl _ _).alloc (Nat.le_refl _) _
  have hblk : Blk w1 w.heap.size (rcells q (.slice none 0 0) (.slice none 0 0) (.slice none 0 0) (.slice none 0 0) (.slice none 0 0) (rfresh n)) 40 := by rw [← hw1]; exact Blk.new w _ 40
  have hs1 : w1.heap.size = w.heap.size + 1 := by rw [← hw1]; simp
  rw [hw1, ← hs1]
  have hq := h.rp.blk.lt
  have hd : RkAt w1 w.heap.size q (fun k => k = w.heap.size) (rfresh n) :=
    ⟨_, _, _, _, _, ⟨hblk, ⟨rfl, .inl ⟨rfl, rfl⟩⟩, ⟨rfl, .inl ⟨rfl, rfl⟩⟩, ⟨rfl, .inl ⟨rfl, rfl⟩⟩, ⟨rfl, .inl ⟨rfl, rfl⟩⟩, ⟨rfl, .inl ⟨rfl, rfl⟩⟩, fun g hg => by simp [Value.ownBlock] at hg, fun g hg => by simp [Value.ownBlock] at hg, fun g hg => by simp [Value.ownBlock] at hg, fun g hg => by simp [Value.ownBlock] at hg, fun g hg => by simp [Value.ownBlock] at hg, fun g hg => by simp [Value.ownBlock] at hg, rfl, by show ¬ q = _; omega, fun k hk => by subst hk; omega, hn⟩⟩
  have hz : Below w1.heap.size w1 (w1.alloc (.cells #[.pointer (some ⟨w.heap.size, 0, none⟩)] 36)) := (Below.refl _ _).alloc (Nat.le_refl _) _
  have hcell : ∀ j u, [ptrV w.heap.size][j]? = some u → (w1.alloc (.cells #[.pointer (some ⟨w.heap.size, 0, none⟩)] 36)).cell? ((⟨w1.heap.size, 0, none⟩ : Addr).add j) = some u := fun j u hj => by
    rw [Addr.add_mid, Nat.zero_add]
    exact (Blk.new w1 [.pointer (some ⟨w.heap.size, 0, none⟩)] 36).cell hj
  have hsz : (w1.alloc (.cells #[.pointer (some ⟨w.heap.size, 0, none⟩)] 36)).heap.size = w1.heap.size + 1 := by simp
  generalize (w1.alloc (.cells #[.pointer (some ⟨w.heap.size, 0, none⟩)] 36)) = Z at hz hcell hsz ⊢
  have h1 := (h.next (20 + l) hb).next 8 hz
  have hd1 := hd.chg (F := fun _ => False) (Chg.of_below hz) (fun _ _ h => h)
  have hold : ∀ i, i < l → (fun i => if i = l then w.heap.size else R i) i = R i := fun i hi => if_neg (by omega)
  have hrow : Z.ownsRow B 36 1 wv l (ptrs (fun i => if i = l then w.heap.size else R i) l) := by rw [ptrs_congr hold]; exact h1.hwv
  have hBs : B ≤ Z.heap.size := Nat.le_trans h1.bb h1.bel.size
  obtain ⟨v', w2, hr, ho, hg, hv⟩ := own31_app hrow hBs hl (adr := ⟨w1.heap.size, 0, none⟩) (c := 1) (by simp only [if_pos]; exact hcell) ty
  have hch : Chg (fun k => wv.ownBlock = some k) Z w2 := (Chg.refl _ _).grown hg (fun k hk => .inl hk)
  have hno : ∀ g, (lab (lab own w (20 + l)) w1 8) g ≠ 8 → ¬ wv.ownBlock = some g := fun g hg he => hg (h1.ow g he)
  have hDlab : ∀ g, g = w.heap.size → lab (lab own w (20 + l)) w1 8 g = 20 + l := fun g hg => (lab_old (by omega)).trans (lab_new (by omega))
  refine ⟨v', w2, fun i => if i = l then w.heap.size else R i, fun i => if i = l then (fun k => k = w.heap.size) else T i, lab (lab (lab own w (20 + l)) w1 8) Z 8, hr, ?_⟩
  refine ⟨fun i hi => (h1.dk i hi).chg hch (fun k hk => hno k (by rw [h1.os i hi k hk]; omega)), fun i hi => ?_, h1.pw.chg hch (hno Q (by rw [h1.oQ]; omega)), h1.rp.chg hch (hno q (by rw [h1.oq]; omega)), owns_chg h1.hdv hch (fun g hg => hno g (by rw [h1.od g hg]; omega)), ho,
    fun i hi g hg => (lab_old ((h1.dk i hi).lt g hg)).trans (h1.os i hi g hg), fun i hi g hg => ?_, (lab_old h1.pw.blk.lt).trans h1.oQ, (lab_old h1.rp.blk.lt).trans h1.oq, fun g hg => (lab_old (h1.hdv.lt g hg).2).trans (h1.od g hg), fun g hg => ?_, fun g hg => (lab_old (Nat.lt_of_lt_of_le hg hBs)).trans (h1.lb g hg), h1.bb,
    h1.bel.trans (hch.below (fun k hk => (h1.hwv.lt k hk).1) hBs)⟩
  · show RkAt w2 (if i = l then w.heap.size else R i) q (if i = l then (fun k => k = w.heap.size) else T i) (rfresh n)
    by_cases him : i = l
    · rw [if_pos him, if_pos him]
      exact hd1.chg hch (fun k hk => hno k (by rw [hDlab k hk]; omega))
    · rw [if_neg him, if_neg him]
      exact (h1.rk i (by omega)).chg hch (fun k hk => hno k (by rw [h1.ot i (by omega) k hk]; omega))
  · change (if i = l then (fun k => k = w.heap.size) else T i) g at hg
    by_cases him : i = l
    · rw [if_pos him] at hg
      rw [lab_old (hd1.lt g hg), hDlab g hg, him]
    · rw [if_neg him] at hg
      exact (lab_old ((h1.rk i (by omega)).lt g hg)).trans (h1.ot i (by omega) g hg)
  · rcases hv with hv | hv
    · rw [hv] at hg
      exact (lab_old (h1.hwv.lt g hg).2).trans (h1.ow g hg)
    · rw [hv] at hg
      cases hg
      exact lab_new (Nat.le_refl _)

theorem rall_n (t : Rsk) (l : List (Nat × Bs)) : (rall t l).n = t.n := by
  unfold rall
  induction l generalizing t with
  | nil => rfl
  | cons x l ih => rw [List.foldl_cons, ih]; rfl
theorem rset_n (zs : List Int) (t : Rsk) : ∀ k, (rset zs t k).n = t.n
  | 0 => rfl
  | k + 1 => by
    unfold rset
    split
    · split
      · exact rset_n zs t k
      · exact rset_n zs t k
    · exact rset_n zs t k
theorem said_n (t : Rsk) (p : Pw) (a : Ac) : (said t p a).2.2.1.n = t.n := by
  have hf : ∀ j, (rfault t j a.addr (abytes a)).2.n = t.n := fun j => by
    unfold rfault
    split
    · split
      · rfl
      · match j with
        | 0 => rfl
        | 1 => rfl
        | _ + 2 => rfl
    · rfl
  have hk : ∀ (t : Rsk) x b, (rkept t x b).n = t.n := fun t x b => by
    unfold rkept
    split <;> rfl
  unfold said
  split
  · show (rwrote t p a.addr (abytes a)).2.1.n = t.n
    unfold rwrote
    split
    · rfl
    · split
      · rfl
      · split
        · split
          · split
            · rfl
            · split
              · rfl
              · split
                · exact hk _ _ _
                · exact hk _ _ _
          · rfl
        · rfl
  · rfl
  · show (rflushed t p).2.1.n = t.n
    unfold rflushed
    split
    · rfl
    · split
      · rfl
      · exact rall_n _ _
  · show (rcrashed t a.z).n = t.n
    unfold rcrashed
    split
    · rfl
    · exact rset_n _ _ _
  · exact hf 0
  · exact hf 1
  · exact hf 2
  all_goals rfl
def up1 {α : Type} (f : Nat → α) (j : Nat) (x : α) : Nat → α := fun i => if i = j then x else f i
theorem up1_same {α : Type} (f : Nat → α) (j : Nat) (x : α) : up1 f j x j = x := if_pos rfl
theorem up1_other {α : Type} (f : Nat → α) {i j : Nat} (x : α) (h : i ≠ j) : up1 f j x i = f i := if_neg h
structure Sys (B n : Nat) (w0 w : World) (C R : Nat → Nat) (Q q gd gw : Nat) (S T : Nat → Nat → Prop) (s : Nat → Dsk) (t : Nat → Rsk) (p r : Pw) (k : Nat) (own : Nat → Nat) : Prop where
  dk : ∀ i, i < 2 → DkAt w (C i) Q (S i) (s i)
  rk : ∀ i, i < 2 → RkAt w (R i) q (T i) (t i)
  pw : PwAt w Q p
  rp : RpAt w q r
  bd : ∀ i, i < 2 → Bd (t i) k
  nn : ∀ i, i < 2 → (t i).n = n
  cd : ∀ i, i < 2 → w.cell? ⟨gd, i, none⟩ = some (.pointer (some ⟨C i, 0, none⟩))
  cw : ∀ i, i < 2 → w.cell? ⟨gw, i, none⟩ = some (.pointer (some ⟨R i, 0, none⟩))
  os : ∀ i, i < 2 → ∀ g, S i g → own g = 10 + i
  ot : ∀ i, i < 2 → ∀ g, T i g → own g = 20 + i
  oQ : own Q = 5
  oq : own q = 6
  od : own gd = 7
  ow : own gw = 8
  ld : gd < w.heap.size
  lw : gw < w.heap.size
  lb : ∀ g, g < B → own g = 9
  bb : B ≤ w0.heap.size
  bel : Below B w0 w
section
variable {B n : Nat} {w0 w w' : World} {C R : Nat → Nat} {Q q gd gw : Nat} {S T : Nat → Nat → Prop} {s : Nat → Dsk} {t : Nat → Rsk} {p r : Pw} {k : Nat} {own : Nat → Nat}
/-- What bears no owner's label turns. -/
theorem Sys.law (h : Sys B n w0 w C R Q q gd gw S T s t p r k own) {F : Nat → Prop} (hc : Chg F w w') (hF : ∀ g, F g → own g = 0) : Sys B n w0 w' C R Q q gd gw S T s t p r k (lab own w 0) := by
  have hno : ∀ g, own g ≠ 0 → ¬ F g := fun g hg he => hg (hF g he)
  have hBs : B ≤ w.heap.size := Nat.le_trans h.bb h.bel.size
  exact ⟨fun i hi => (h.dk i hi).chg hc (fun g hg => hno g (by rw [h.os i hi g hg]; omega)), fun i hi => (h.rk i hi).chg hc (fun g hg => hno g (by rw [h.ot i hi g hg]; omega)), h.pw.chg hc (hno Q (by rw [h.oQ]; omega)), h.rp.chg hc (hno q (by rw [h.oq]; omega)), h.bd, h.nn,
    fun i hi => (World.cell?_of_block (a := ⟨gd, i, none⟩) (hc.block gd h.ld (hno gd (by rw [h.od]; omega)))).trans (h.cd i hi), fun i hi => (World.cell?_of_block (a := ⟨gw, i, none⟩) (hc.block gw h.lw (hno gw (by rw [h.ow]; omega)))).trans (h.cw i hi),
    fun i hi g hg => (lab_old ((h.dk i hi).lt g hg)).trans (h.os i hi g hg), fun i hi g hg => (lab_old ((h.rk i hi).lt g hg)).trans (h.ot i hi g hg), (lab_old h.pw.blk.lt).trans h.oQ, (lab_old h.rp.blk.lt).trans h.oq, (lab_old h.ld).trans h.od, (lab_old h.lw).trans h.ow,
    Nat.lt_of_lt_of_le h.ld hc.size, Nat.lt_of_lt_of_le h.lw hc.size, fun g hg => (lab_old (Nat.lt_of_lt_of_le hg hBs)).trans (h.lb g hg), h.bb,
    h.bel.trans (hc.below (fun g hg => Nat.le_of_not_lt fun hl => by have h1 := hF g hg; have h2 := h.lb g hl; omega) hBs)⟩
theorem Sys.grown (h : Sys B n w0 w C R Q q gd gw S T s t p r k own) (hb : Below w.heap.size w w') : Sys B n w0 w' C R Q q gd gw S T s t p r k (lab own w 0) := h.law (F := fun _ => False) (Chg.of_below hb) (fun _ h => h.elim)
/-- The program's disk acts. -/
theorem Sys.made (h : Sys B n w0 w C R Q q gd gw S T s t p r k own) {j : Nat} (hj : j < 2) {x : Bs × Int × Dsk × Pw} {e : Ending} (hm : Made (C j) Q (S j) x w e w') :
    Sys B n w0 w' C R Q q gd gw (up1 S j (Ext (S j) w w')) T (up1 s j x.2.2.1) t x.2.2.2 r k (lab own w (10 + j)) := by
  obtain ⟨-, hd, hp, hc⟩ := hm
  have hno : ∀ g, own g ≠ 10 + j → own g ≠ 5 → ¬ Fo (S j) Q g := fun g h1 h2 he => by
    rcases he with he | he
    · exact h1 (h.os j hj g he)
    · subst he; exact h2 h.oQ
  have hBs : B ≤ w.heap.size := Nat.le_trans h.bb h.bel.size
  refine ⟨fun i hi => ?_, fun i hi => (h.rk i hi).chg hc (fun g hg => hno g (by rw [h.ot i hi g hg]; omega) (by rw [h.ot i hi g hg]; omega)), hp, h.rp.chg hc (hno q (by rw [h.oq]; omega) (by rw [h.oq]; omega)), h.bd, h.nn,
    fun i hi => (World.cell?_of_block (a := ⟨gd, i, none⟩) (hc.block gd h.ld (hno gd (by rw [h.od]; omega) (by rw [h.od]; omega)))).trans (h.cd i hi), fun i hi => (World.cell?_of_block (a := ⟨gw, i, none⟩) (hc.block gw h.lw (hno gw (by rw [h.ow]; omega) (by rw [h.ow]; omega)))).trans (h.cw i hi),
    fun i hi g hg => ?_, fun i hi g hg => (lab_old ((h.rk i hi).lt g hg)).trans (h.ot i hi g hg), (lab_old h.pw.blk.lt).trans h.oQ, (lab_old h.rp.blk.lt).trans h.oq, (lab_old h.ld).trans h.od, (lab_old h.lw).trans h.ow,
    Nat.lt_of_lt_of_le h.ld hc.size, Nat.lt_of_lt_of_le h.lw hc.size, fun g hg => (lab_old (Nat.lt_of_lt_of_le hg hBs)).trans (h.lb g hg), h.bb,
    h.bel.trans (hc.below (fun g hg => Nat.le_of_not_lt fun hl => by
      have h2 := h.lb g hl
      rcases hg with hg | hg
      · have := h.os j hj g hg; omega
      · have := h.oQ; rw [hg] at h2; omega) hBs)⟩
  · by_cases hij : i = j
    · subst hij
      rw [up1_same, up1_same]
      exact hd
    · rw [up1_other _ _ hij, up1_other _ _ hij]
      exact (h.dk i hi).chg hc (fun g hg => hno g (by rw [h.os i hi g hg]; omega) (by rw [h.os i hi g hg]; omega))
  · by_cases hij : i = j
    · subst hij
      rw [up1_same] at hg
      rcases hg with hg | hg
      · exact (lab_old ((h.dk i hi).lt g hg)).trans (h.os i hi g hg)
      · exact lab_new hg.1
    · rw [up1_other _ _ hij] at hg
      exact (lab_old ((h.dk i hi).lt g hg)).trans (h.os i hi g hg)
/-- The document's disk acts. -/
theorem Sys.spoke (h : Sys B n w0 w C R Q q gd gw S T s t p r k own) {j : Nat} (hj : j < 2) {x : Bs × Int × Rsk × Pw} {e : Ending} (hm : Spoke (R j) q (T j) x w e w') (hbd : Bd x.2.2.1 (k + 1)) (hn : x.2.2.1.n = n) :
    Sys B n w0 w' C R Q q gd gw S (up1 T j (Ext (T j) w w')) s (up1 t j x.2.2.1) p x.2.2.2 (k + 1) (lab own w (20 + j)) := by
  obtain ⟨-, hd, hp, hc⟩ := hm
  have hno : ∀ g, own g ≠ 20 + j → own g ≠ 6 → ¬ (T j g ∨ g = q) := fun g h1 h2 he => by
    rcases he with he | he
    · exact h1 (h.ot j hj g he)
    · subst he; exact h2 h.oq
  have hBs : B ≤ w.heap.size := Nat.le_trans h.bb h.bel.size
  refine ⟨fun i hi => (h.dk i hi).chg hc (fun g hg => hno g (by rw [h.os i hi g hg]; omega) (by rw [h.os i hi g hg]; omega)), fun i hi => ?_, h.pw.chg hc (hno Q (by rw [h.oQ]; omega) (by rw [h.oQ]; omega)), hp, fun i hi => ?_, fun i hi => ?_,
    fun i hi => (World.cell?_of_block (a := ⟨gd, i, none⟩) (hc.block gd h.ld (hno gd (by rw [h.od]; omega) (by rw [h.od]; omega)))).trans (h.cd i hi), fun i hi => (World.cell?_of_block (a := ⟨gw, i, none⟩) (hc.block gw h.lw (hno gw (by rw [h.ow]; omega) (by rw [h.ow]; omega)))).trans (h.cw i hi),
    fun i hi g hg => (lab_old ((h.dk i hi).lt g hg)).trans (h.os i hi g hg), fun i hi g hg => ?_, (lab_old h.pw.blk.lt).trans h.oQ, (lab_old h.rp.blk.lt).trans h.oq, (lab_old h.ld).trans h.od, (lab_old h.lw).trans h.ow,
    Nat.lt_of_lt_of_le h.ld hc.size, Nat.lt_of_lt_of_le h.lw hc.size, fun g hg => (lab_old (Nat.lt_of_lt_of_le hg hBs)).trans (h.lb g hg), h.bb,
    h.bel.trans (hc.below (fun g hg => Nat.le_of_not_lt fun hl => by
      have h2 := h.lb g hl
      rcases hg with hg | hg
      · have := h.ot j hj g hg; omega
      · have := h.oq; rw [hg] at h2; omega) hBs)⟩
  · by_cases hij : i = j
    · subst hij
      rw [up1_same, up1_same]
      exact hd
    · rw [up1_other _ _ hij, up1_other _ _ hij]
      exact (h.rk i hi).chg hc (fun g hg => hno g (by rw [h.ot i hi g hg]; omega) (by rw [h.ot i hi g hg]; omega))
  · by_cases hij : i = j
    · subst hij
      rw [up1_same]
      exact hbd
    · rw [up1_other _ _ hij]
      exact (h.bd i hi).up (by omega)
  · by_cases hij : i = j
    · subst hij
      rw [up1_same]
      exact hn
    · rw [up1_other _ _ hij]
      exact h.nn i hi
  · by_cases hij : i = j
    · subst hij
      rw [up1_same] at hg
      rcases hg with hg | hg
      · exact (lab_old ((h.rk i hi).lt g hg)).trans (h.ot i hi g hg)
      · exact lab_new hg.1
    · rw [up1_other _ _ hij] at hg
      exact (lab_old ((h.rk i hi).lt g hg)).trans (h.ot i hi g hg)
end
theorem bd0 (n : Nat) : Bd (rfresh n) 0 := ⟨Nat.le_refl _, Nat.le_refl _, Nat.le_refl _, fun x hx => (by cases hx), fun x hx => (by cases hx), fun x hx => (by cases hx)⟩
theorem own_two {w : World} {B e : Nat} {v : Value} {C : Nat → Nat} (h : w.ownsRow B e 1 v 2 (ptrs C 2)) : ∃ g c, v = .slice (some ⟨g, 0, none⟩) 2 c ∧ g < w.heap.size ∧ (∀ i, i < 2 → w.cell? ⟨g, i, none⟩ = some (.pointer (some ⟨C i, 0, none⟩))) := by
  rcases h.2 with ⟨_, h0⟩ | ⟨g, cap, cur, rfl, _, hg, _⟩
  · omega
  · refine ⟨g, cap, rfl, (Array.getElem?_eq_some_iff.1 hg).1, fun i hi => ?_⟩
    have := h.cells (g := g) rfl i (ptrV (C i)) (ptrs_at C 2 i hi)
    rwa [Addr.add_mid, Nat.zero_add] at this
theorem Mk.sys {B n : Nat} {w0 w : World} {C R : Nat → Nat} {Q q : Nat} {S T : Nat → Nat → Prop} {dv wv : Value} {own : Nat → Nat} (h : Mk B n w0 w C R Q q S T dv wv 2 2 own) :
    ∃ gd cd gw cw, dv = .slice (some ⟨gd, 0, none⟩) 2 cd ∧ wv = .slice (some ⟨gw, 0, none⟩) 2 cw ∧ Sys B n w0 w C R Q q gd gw S T (fun _ => fresh n) (fun _ => rfresh n) p0 p0 0 own := by
  obtain ⟨gd, cd, rfl, h1, h2⟩ := own_two h.hdv
  obtain ⟨gw, cw, rfl, h3, h4⟩ := own_two h.hwv
  exact ⟨gd, cd, gw, cw, rfl, rfl, h.dk, h.rk, h.pw, h.rp, fun _ _ => bd0 n, fun _ _ => rfl, h2, h4, h.os, h.ot, h.oQ, h.oq, h.od gd rfl, h.ow gw rfl, h1, h3, h.lb, h.bb, h.bel⟩
end Go.Proofs.Ytneemllgimeacaa
