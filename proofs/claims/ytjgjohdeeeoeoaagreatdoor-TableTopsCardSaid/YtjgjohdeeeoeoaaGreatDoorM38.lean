/- A table's Set: what stands while leaves are made anew. -/
import Derived.Test.YtjgjohdeeeoeoaaGreatDoorM37
namespace Go.Proofs.YtjgjohdeeeoeoaaGreatDoor
open Go.RowKit
attribute [local go_sem] Oper.semAt_some
theorem own_blk {w : World} {B e k n : Nat} {v : Value} {xs : List Value} (h : w.ownsRow B e k v n xs) {g : Nat} (hg : v.ownBlock = some g) : (∃ cs, Blk w g cs e) ∧ B ≤ g := by
  rcases h.2 with ⟨rfl, _⟩ | ⟨a, cap, cur, rfl, hb, ha, _⟩
  · cases hg
  · have e1 : a = g := by injection hg
    subst e1
    exact ⟨⟨cur.toList, by unfold Blk; simpa using ha⟩, hb⟩
def TsB (w : World) (sp : Option Addr) (M : Nat) (kv lv : Value) (g : Nat) : Prop :=
  g = w.heap.size ∨ g = w.heap.size + 1 ∨ (∃ a, sp = some a ∧ a.block = g) ∨ g = M ∨ kv.ownBlock = some g ∨ lv.ownBlock = some g
structure TsM (w : World) (p : Pt) (l : List Itm) (sp : Option Addr) (M : Nat) (ks : List Nat) (kv : Value) (ls : List Lf) (lv : Value) (X : World) : Prop where
  bp : Blk X w.heap.size (pcells p) 28
  res : Blk X (w.heap.size + 1) (pcells zeroP) 28
  src : SrcT X sp l
  sl : ∀ a, sp = some a → a.block < w.heap.size
  map : ∀ g o, (0 < l.length → sp = some ⟨g, o, none⟩) → ∃ n, n ≤ l.length ∧ MapG TU X M (partF g o l) n
  mo : ∃ es c, X.heap[M]? = some (.map es c)
  ml : w.heap.size ≤ M
  kr : X.ownsRow w.heap.size 24 1 kv ks.length (ks.map UV)
  lr : OwnL X w.heap.size lv ls
  lok : ∀ x ∈ ls, Lf.OK x
section
variable {L : Nat → Nat} {w : World} {D : Nat} {p : Pt} {l : List Itm} {sp : Option Addr} {M : Nat} {ks : List Nat} {kv : Value} {ls : List Lf} {lv : Value} {s : Sh} {X Y : World}
theorem TsM.chg {F : Nat → Prop} (h : TsM w p l sp M ks kv ls lv X) (hc : Chg F X Y) (hn : ∀ g, TsB w sp M kv lv g → ¬ F g) : TsM w p l sp M ks kv ls lv Y := by
  have hM := hn M (.inr (.inr (.inr (.inl rfl))))
  obtain ⟨es, c, hmo⟩ := h.mo
  have hml : M < X.heap.size := (Array.getElem?_eq_some_iff.1 hmo).1
  refine ⟨h.bp.chg hc (hn _ (.inl rfl)), h.res.chg hc (hn _ (.inr (.inl rfl))), h.src.chg hc (fun a e => hn _ (.inr (.inr (.inl ⟨a, e, rfl⟩)))), h.sl, fun g o e => ?_, ⟨es, c, (hc.block M hml hM).trans hmo⟩, h.ml, owns_chg h.kr hc (fun g e => hn g (.inr (.inr (.inr (.inr (.inl e)))))), owns_chg h.lr hc (fun g e => hn g (.inr (.inr (.inr (.inr (.inr e)))))), h.lok⟩
  obtain ⟨n, h1, h2⟩ := h.map g o e
  exact ⟨n, h1, h2.kept (hc.block M hml hM)⟩
theorem TsM.lt (h : TsM w p l sp M ks kv ls lv X) {g : Nat} (hg : TsB w sp M kv lv g) : g < X.heap.size := by
  have h1 := h.bp.lt
  rcases hg with e | e | ⟨a, e, e2⟩ | e | e | e
  · omega
  · rw [e]; exact h.res.lt
  · have := h.sl a e; omega
  · obtain ⟨es, c, hmo⟩ := h.mo
    rw [e]; exact (Array.getElem?_eq_some_iff.1 hmo).1
  · exact owns_lt h.kr e
  · exact owns_lt h.lr e
def TsW (L : Nat → Nat) (w : World) (D : Nat) (p : Pt) (l : List Itm) (sp : Option Addr) (M : Nat) (ks : List Nat) (kv : Value) (ls : List Lf) (lv : Value) (s : Sh) (X : World) : Prop :=
  TsM w p l sp M ks kv ls lv X ∧ ∃ L1 v1, ShAt X L1 D s v1 ∧ Mv 5 L w L1 X ∧ ∀ g, TsB w sp M kv lv g → L1 g = 0 ∨ (L1 g = 10 ∧ g < w.heap.size)
theorem TsW.below (h : TsW L w D p l sp M ks kv ls lv s X) (hb : Below X.heap.size X Y) : TsW L w D p l sp M ks kv ls lv s Y := by
  obtain ⟨h1, L1, v1, h2, h3, h4⟩ := h
  exact ⟨h1.chg (F := fun _ => False) (Chg.of_below hb) (fun _ _ h => h), L1, v1, h2.below hb, h3.trans (Mv.of_below hb h2.lt), h4⟩
theorem Mv.lo {L1 : Nat → Nat} (h : Mv 5 L w L1 X) (hl : Lo L) : Lo L1 := fun g => by
  rcases Nat.lt_or_ge g w.heap.size with k | k
  · rw [h.old g k]; exact hl g
  · exact h.new g k
theorem TsW.call (h : TsW L w D p l sp M ks kv ls lv s X) : ∃ L1 v1, ShAt X L1 D s v1 ∧ (Lo L → Lo L1) ∧ (∀ g, TsB w sp M kv lv g → L1 g = 0 ∨ (L1 g = 10 ∧ g < w.heap.size)) ∧ ∀ s2 Y, ShPost 5 L1 X D s2 Y → TsW L w D p l sp M ks kv ls lv s2 Y ∧ ∀ g cs t, L1 g = 0 → Blk X g cs t → Blk Y g cs t := by
  obtain ⟨h1, L1, v1, h2, h3, h4⟩ := h
  refine ⟨L1, v1, h2, fun hl => h3.lo hl, h4, fun s2 Y ⟨L3, v3, j1, j2⟩ => ⟨⟨h1.chg j2.chg (fun g hg hf => by have := h4 g hg; unfold Foot at hf; omega), L3, v3, j1, h3.trans j2, fun g hg => by rw [j2.old g (h1.lt hg)]; exact h4 g hg⟩, fun g cs t hg hB => j2.blk hB hg⟩⟩
theorem TsW.app (h : TsW L w D p l sp M ks kv ls lv s X) (hlen : ls.length < 1000) {x : Lf} (hx : Lf.OK x) {g : Nat} {t : TypeId} (hb : Below X.heap.size X Y) (hg : Blk Y g (lcells x) t) (ty : TypeId) :
    ∃ v' w', (Builtin.append_ #[95, 95] ty #[lv, .slice (some ⟨g, 0, none⟩) 1 1]).run Tryz.prog Y = .ok v' w' ∧ TsW L w D p l sp M ks kv (ls ++ [x]) v' s w' := by
  obtain ⟨h1, L1, v1, h2, h3, h4⟩ := h.below hb
  obtain ⟨v', w', hr, ho, hgr, hn⟩ := ownL_app h1.lr (by have := h1.bp.lt; omega) (by omega) hx.2 hg ty
  have hc : Chg (fun g => lv.ownBlock = some g) Y w' := (Chg.refl _ Y).grown hgr (fun k e => .inl e)
  have hno : ∀ g, TsB w sp M kv (.slice none 0 0) g → lv.ownBlock ≠ some g := fun k hk e => by
    obtain ⟨⟨cs, hbk⟩, hlo⟩ := own_blk h1.lr e
    rcases hk with q | q | ⟨a, q, q2⟩ | q | q | q
    · subst q; exact absurd (hbk.same h1.bp) (by decide)
    · subst q; exact absurd (hbk.same h1.res) (by decide)
    · have := h1.sl a q; omega
    · subst q
      obtain ⟨es, c, hmo⟩ := h1.mo
      unfold Blk at hbk
      rw [hmo] at hbk
      cases hbk
    · obtain ⟨⟨cs', hbk'⟩, -⟩ := own_blk h1.kr q
      exact absurd (hbk.same hbk') (by decide)
    · cases q
  have hM0 : TsM w p l sp M ks kv [] (.slice none 0 0) Y := ⟨h1.bp, h1.res, h1.src, h1.sl, h1.map, h1.mo, h1.ml, h1.kr, ⟨rfl, .inl ⟨rfl, rfl⟩⟩, fun _ h => by cases h⟩
  have hM1 := hM0.chg hc hno
  refine ⟨v', w', hr, ⟨hM1.bp, hM1.res, hM1.src, hM1.sl, hM1.map, hM1.mo, hM1.ml, hM1.kr, ho, fun y hy => ?_⟩, L1, v1, ?_, ⟨h3.chg.trans hc (fun g e => .inr (own_blk h1.lr e).2), h3.old, h3.new⟩, fun k hk => ?_⟩
  · rcases List.mem_append.1 hy with hy | hy
    · exact h1.lok y hy
    · simp at hy; subst hy; exact hx
  · refine h2.out hc (fun g e _ => ?_) (fun _ _ => .inl rfl) (fun g hg => Nat.lt_of_lt_of_le (h2.lt g hg) hgr.size)
    have hlo := (own_blk h1.lr e).2
    rcases h4 g (.inr (.inr (.inr (.inr (.inr e))))) with q | q
    · exact .inl q
    · omega
  · rcases hk with q | q | q | q | q | q
    · exact h4 k (.inl q)
    · exact h4 k (.inr (.inl q))
    · exact h4 k (.inr (.inr (.inl q)))
    · exact h4 k (.inr (.inr (.inr (.inl q))))
    · exact h4 k (.inr (.inr (.inr (.inr (.inl q)))))
    · rcases hn with q' | q'
      · exact h4 k (.inr (.inr (.inr (.inr (.inr (by rw [← q']; exact q))))))
      · have e := Option.some.inj (q.symm.trans q')
        exact .inl (h2.not (Nat.le_of_eq e.symm))
theorem TsW.ends (h : TsW L w D p l sp M ks kv ls lv s X) (q : Pt) : ShPost 5 L w D s (X.setRow (w.heap.size + 1) (pcells q).toArray) ∧ Blk (X.setRow (w.heap.size + 1) (pcells q).toArray) (w.heap.size + 1) (pcells q) 28 := by
  obtain ⟨h1, L1, v1, h2, h3, h4⟩ := h
  have hc := chgR X (w.heap.size + 1) (pcells q).toArray
  have hz : (X.setRow (w.heap.size + 1) (pcells q).toArray).heap.size = X.heap.size := by simp
  have h10 : L1 (w.heap.size + 1) = 0 := by
    rcases h4 _ (.inr (.inl rfl)) with e | e
    · exact e
    · omega
  refine ⟨⟨L1, v1, h2.out hc (fun g e _ => .inl (by rw [e]; exact h10)) (fun _ _ => .inl rfl) (fun g hg => by rw [hz]; exact h2.lt g hg), ?_⟩, h1.res.row _⟩
  exact ⟨h3.chg.trans hc (fun g e => by right; have : g = w.heap.size + 1 := e; omega), h3.old, h3.new⟩
end
theorem ex_lookU {ρ : Operand → Value} {o : Oper} {x y : Operand} {w : World} {M k n : Nat} {f : Nat → Option Spt} {v : Value} (h : MapG TU w M f n) (hk : k < 4294967296) (hv : SpV ((f k).getD none) = v) (ho : o.op = .lookup 96 x y false) (hx : ρ x = .map (some M)) (hy : ρ y = .int .u32 (k : Int)) :
    (execOp ρ o).run Tryz.prog w = .ok (.value v) w := by
  subst hv
  have hr : (Instr.lookup 96 (.map (some M)) (.int .u32 (k : Int)) false).run Tryz.prog w = .ok (SpV ((f k).getD none)) w := h.look hk
  unfold execOp
  simp only [ho, hx, hy, Sem.run_bind, hr, Result.andThen_ok, Sem.run_pure]
theorem keysFrame {X : World} {B : Nat} {kv : Value} {ks : List Nat} (h : X.ownsRow B 24 1 kv ks.length (ks.map UV)) (h0 : 0 < ks.length) : ∃ g cap, kv = .slice (some ⟨g, 0, none⟩) ks.length cap ∧ ks.length ≤ cap ∧ ∀ (k off : Nat), ks[k]? = some off → X.cell? ⟨g, k, none⟩ = some (.int .u32 (off : Int)) := by
  rcases h.2 with ⟨_, e⟩ | ⟨g, cap, cur, rfl, _, hg, hc, _, hs, ht⟩
  · omega
  · refine ⟨g, cap, rfl, hc, fun k off hk => ?_⟩
    have hb : Blk X g cur.toList 24 := by unfold Blk; simpa using hg
    refine hb.cell ?_
    have hkl := (List.getElem?_eq_some_iff.1 hk).1
    have e1 : (ks.map UV)[k]? = some (.int .u32 (off : Int)) := by rw [List.getElem?_map, hk]; rfl
    rw [← ht, List.getElem?_take, if_pos (by omega)] at e1
    exact e1
theorem wth_okG {ns : List Ino} {l : List Itm} (h : BOK ns) (hok : ∀ x ∈ l, Itm.OK x) (off : Nat) : BOK (wth ns (grpI off l)) := wth_ok _ h (fun x hx => hok x ((List.mem_filter.1 hx).1))
set_option maxRecDepth 100000 in
set_option maxHeartbeats 16000000 in
theorem tbSet_any {w : World} {L : Nat → Nat} {D : Nat} {s : Sh} {v : Sv} {m : Nat} (p : Pt) (hp : p.OK) (l : List Itm) (hok : ∀ x ∈ l, Itm.OK x) (sp : Option Addr) (cap : Nat) (hc : l.length ≤ cap) (hl : l.length ≤ 12) (hS : SrcT w sp l) (hsp : ∀ a, sp = some a → a.block < w.heap.size ∧ (L a.block = 0 ∨ L a.block = 10)) (h : ShAt w L D s v) (hlo : Lo L) (hk : Lim m s) (hm : m + 3715 < 100000000) (hbk : BlkOK s) :
    Calls Tryz.prog 15 #[shI D, .agg (pcells p).toArray, .slice sp l.length cap] w (SetPost L w D (tsR s p l) (m + 3715)) := by
  have HPO := Lib.hid hp; have HOK := Lib.hid hok; have HC := Lib.hid hc; have HL := Lib.hid hl; have HSP := Lib.hid hsp; have HK := Lib.hid hk; have HM := Lib.hid hm; have HBK := Lib.hid hbk; have HLO := Lib.hid hlo; have HSH := Lib.hid h; have HSRC := Lib.hid hS
  have HX : Hid (∀ z, z = (pcells zeroP).toArray → Blk ((w.alloc (.cells (pcells p).toArray 28)).alloc (.cells z 28)) w.heap.size (pcells p) 28 ∧ Blk ((w.alloc (.cells (pcells p).toArray 28)).alloc (.cells z 28)) (w.heap.size + 1) (pcells zeroP) 28 ∧ Below w.heap.size w ((w.alloc (.cells (pcells p).toArray 28)).alloc (.cells z 28))) := Lib.hid (fun z hz => by
    subst hz
    exact ⟨(Blk.new _ _ _).alloc _, Blk.new' _ _ _ _ _ (by simp) rfl, ((Below.refl _ _).alloc (Nat.le_refl _) _).alloc (by simp) _⟩)
  obtain ⟨r, hr⟩ : ∃ r, tsR s p l = r := ⟨_, rfl⟩
  have HR : Hid (r = if setT l = false then ⟨zeroP, 1, s⟩ else if (sgGo p l (offsI l) s []).e ≠ 0 then ⟨zeroP, (sgGo p l (offsI l) s []).e, (sgGo p l (offsI l) s []).s⟩ else setR (sgGo p l (offsI l) s []).s p 0 (sgGo p l (offsI l) s []).l) := Lib.hid hr.symm
  rw [hr]
  generalize hPost : SetPost L w D r (m + 3715) = Post
  have HP : Hid (∀ w', ShPost 5 L w D r.s w' → Lim (m + 3715) r.s → r.p.OK → Post (.returned (.tuple #[.agg (pcells r.p).toArray, .int .i64 (r.e : Int)])) w') := Lib.hid fun w' h2 h3 h4 => by rw [← hPost]; exact ⟨rfl, h2, h3, h4⟩
  have HSZ0 := Lib.hid (size_pc zeroP_ok)
  obtain ⟨N, hN⟩ : ∃ N, l.length = N := ⟨_, rfl⟩
  have HN := Lib.hid hN
  rw [hN]
  clear hp hok hc hl hS hsp h hlo hk hm hbk hr hPost hN
  unfold shI
  go_enter Tryz.func15, Tryz.ntmps15
  go_upto_region 1 with fail
  refine (fun (k : ∀ W, Blk W w.heap.size (pcells p) 28 → Blk W (w.heap.size + 1) (pcells zeroP) 28 → Below w.heap.size w W → Code.wp _ _ _ _ W) => k _ (HX.out _ rfl).1 (HX.out _ rfl).2.1 (HX.out _ rfl).2.2) ?_
  intro W hp1 hr1 hb1
  have HST := Lib.hid (tbSettable_any l HOK.out sp cap HC.out (by have := HL.out; omega) W (HSRC.out.grown hb1) (HSH.out.below hb1).tab.1)
  rw [HN.out] at HST
  have HP1 := Lib.hid hp1; have HR1 := Lib.hid hr1; have HB1 := Lib.hid hb1
  obtain ⟨G, hG⟩ : ∃ g, w.heap.size + 1 = g := ⟨_, rfl⟩
  rw [hG] at HR1 ⊢
  have HG := Lib.hid hG
  clear hp1 hr1 hb1 HX hG
  go_wp2_with fail
  refine HST.out.mono ?_
  rintro e W2 ⟨rfl, hb2⟩
  have HP2 := Lib.hid (HP1.out.below hb2 HP1.out.lt); have HR2 := Lib.hid (HR1.out.below hb2 HR1.out.lt); have HB2 := Lib.hid (HB1.out.trans (hb2.mono HB1.out.size))
  clear hb2 HST HP1 HR1 HB1
  cases hst : setT l
  · obtain rfl : r = ⟨zeroP, 1, s⟩ := by rw [HR.out, if_pos hst]
    have HBE : Hid (ShPost 5 L w D s (W2.setRow G (pcells zeroP).toArray) ∧ Blk (W2.setRow G (pcells zeroP).toArray) G (pcells zeroP) 28) := Lib.hid ⟨by
      have hz : Below w.heap.size w (W2.setRow G (pcells zeroP).toArray) := below_row HB2.out (by have := HG.out; omega) _
      exact ShPost.below HSH.out hz, HR2.out.row _⟩
    have HE := Lib.hid (HP.out _ HBE.out.1 (HK.out.mono (by omega) HM.out) zeroP_ok)
    clear HP HR hst
    go_wp2_with (first | (refine wpL_val rfl (ex_bld0 rfl) ?_) | (refine wpList_store_row rfl 28 (.tmp 6) (.tmp 22) rfl G (pcells zeroP).toArray rfl rfl 28 _ HR2.out HSZ0.out rfl (one_pc zeroP) ?_) | fail)
    refine bodyPost_ret (results_cs Tryz.results15 _ _ G 28 _ rfl HBE.out.2 (size_pcl zeroP_ok)) rfl ?_
    exact HE.out
  · have HST2 := Lib.hid hst
    have HRG : Hid (r = if (sgGo p l (offsI l) s []).e ≠ 0 then ⟨zeroP, (sgGo p l (offsI l) s []).e, (sgGo p l (offsI l) s []).s⟩ else setR (sgGo p l (offsI l) s []).s p 0 (sgGo p l (offsI l) s []).l) := Lib.hid (by rw [HR.out, if_neg (by rw [hst]; decide)])
    have HBL := Lib.hid (byLeaf_any l HOK.out (setT_asc hst) sp cap HC.out (by have := HL.out; omega) W2 (HSRC.out.grown HB2.out))
    rw [HN.out] at HBL
    clear HR hst
    go_wp2_with fail
    refine HBL.out.mono ?_
    rintro e W3 ⟨M, rfl, hml, hb3, hmap⟩
    have HP3 := Lib.hid (HP2.out.below hb3 HP2.out.lt); have HR3 := Lib.hid (HR2.out.below hb3 HR2.out.lt); have HB3 := Lib.hid (HB2.out.trans (hb3.mono HB2.out.size)); have HML : Hid (w.heap.size ≤ M) := Lib.hid (Nat.le_trans HB2.out.size hml); have HMAP := Lib.hid hmap
    clear hb3 hml hmap HBL HP2 HR2 HB2
    go_wp2_with fail
    refine (keys_any (some M) W3).mono ?_
    rintro e W4 ⟨rfl, hW4⟩
    obtain ⟨gg, oo, hgo⟩ : ∃ g o, 0 < l.length → sp = some ⟨g, o, none⟩ := by
      by_cases h0 : 0 < l.length
      · obtain ⟨g, o, e, -⟩ := HSRC.out h0
        exact ⟨g, o, fun _ => e⟩
      · exact ⟨0, 0, fun h => absurd h h0⟩
    obtain ⟨nm, hnm, hmg⟩ := HMAP.out gg oo hgo
    have hb4 : Below W3.heap.size W3 W4 := by rw [hW4]; exact (Below.refl _ _).alloc (Nat.le_refl _) _
    have hcell : W4.cell? ⟨W3.heap.size, 0, none⟩ = some (.map (some M)) := by rw [hW4]; exact (Blk.new' _ #[.map (some M)] [.map (some M)] _ _ rfl rfl).cell (j := 0) rfl
    have HSO := Lib.hid (sorted_any (T := TU) rfl (enters_of Tryz.func68 (by kernel_rfl) rfl) (S := KeysAre TU (partF gg oo l) nm) (fun ss h => by have := h.1; have := HL.out; omega) (N := nm) (by have := HL.out; omega) (keysIn_any (T := TU) rfl 4 (by omega) hcell (by rw [hW4]; simp) (hmg.below hb4 hmg.lt)))
    have HP4 := Lib.hid (HP3.out.below hb4 HP3.out.lt); have HR4 := Lib.hid (HR3.out.below hb4 HR3.out.lt); have HB4 := Lib.hid (HB3.out.trans (hb4.mono HB3.out.size))
    have HMAP4 : Hid (∀ g o, (0 < l.length → sp = some ⟨g, o, none⟩) → ∃ n, n ≤ l.length ∧ MapG TU W4 M (partF g o l) n) := Lib.hid (fun g o e => by
      obtain ⟨n, h1, h2⟩ := HMAP.out g o e
      exact ⟨n, h1, h2.below hb4 h2.lt⟩)
    have HNM := Lib.hid hnm
    clear hnm hmg hb4 hcell hW4 HMAP HP3 HR3 HB3
    go_wp2_with fail
    refine HSO.out.mono ?_
    rintro e W5 ⟨kv, ss, rfl, hka, hks, hb5⟩
    rw [keys_offs HST2.out hka] at hks
    rw [← offsI_len HST2.out hka] at hks
    have hks : W5.ownsRow W4.heap.size 24 1 kv (offsI l).length ((offsI l).map UV) := hks
    have hol : (offsI l).length ≤ 12 := by
      rw [offsI_len HST2.out hka]
      have := hka.1
      have := HL.out
      have := HNM.out
      omega
    have hmap5 : ∀ g o, (0 < l.length → sp = some ⟨g, o, none⟩) → ∃ n, n ≤ l.length ∧ MapG TU W5 M (partF g o l) n := fun g o e => by
      obtain ⟨n, h1, h2⟩ := HMAP4.out g o e
      exact ⟨n, h1, h2.below hb5 h2.lt⟩
    have hb05 := HB4.out.trans (hb5.mono HB4.out.size)
    have HT : Hid (TsW L w D p l sp M (offsI l) kv [] (.slice none 0 0) s W5) := Lib.hid (by
      refine ⟨⟨HP4.out.below hb5 HP4.out.lt, by rw [HG.out]; exact HR4.out.below hb5 HR4.out.lt, HSRC.out.grown hb05, fun a e => (HSP.out a e).1, hmap5, ?_, HML.out, ?_, ⟨rfl, .inl ⟨rfl, rfl⟩⟩, fun _ h => by cases h⟩, L, v, HSH.out.below hb05, Mv.of_below hb05 HSH.out.lt, ?_⟩
      · obtain ⟨n, _, h2⟩ := hmap5 gg oo hgo
        exact h2.obj
      · refine ⟨hks.1, ?_⟩
        rcases hks.2 with e | ⟨g, c, cur, e1, e2, e3⟩
        · exact .inl e
        · exact .inr ⟨g, c, cur, e1, Nat.le_trans HB4.out.size e2, e3⟩
      · intro k hk
        have hL0 : ∀ k, w.heap.size ≤ k → L k = 0 := fun k hk => by
          have := HSH.out.lt k
          omega
        rcases hk with e | e | ⟨a, e, e2⟩ | e | e | e
        · exact .inl (hL0 k (by omega))
        · exact .inl (hL0 k (by omega))
        · have := HSP.out a e
          rw [← e2]
          rcases this.2 with q | q
          · exact .inl q
          · exact .inr ⟨q, this.1⟩
        · exact .inl (hL0 k (by rw [e]; exact HML.out))
        · have := (own_blk hks e).2
          exact .inl (hL0 k (by have := HB4.out.size; omega))
        · cases e)
    have HOL := Lib.hid hol
    obtain ⟨ks, hkse⟩ : ∃ ks, offsI l = ks := ⟨_, rfl⟩
    have HKM : Hid (∀ off ∈ ks, off < 64 ∧ grpI off l ≠ []) := Lib.hid (fun off h => offsI_mem (by rw [hkse]; exact h))
    rw [hkse] at HT HRG HOL hks
    obtain ⟨K, hK⟩ : ∃ K, ks.length = K := ⟨_, rfl⟩
    have HKL := Lib.hid hK
    obtain ⟨spk, capk, hkv, hkc, -⟩ := owns_form hks
    rw [hK] at hkv hkc
    subst hkv
    have HKC := Lib.hid hkc
    have HGGO := Lib.hid hgo
    clear hgo hka hks hb5 hol hmap5 hb05 hkse hK hkc HSO HP4 HR4 HB4 HMAP4 HSH HSRC HSP
    go_wp2_with fail
    go_loopw [8, 29] (fun lv i wr => ∃ (k : Nat) (sk : Sh) (ls : List Lf), k ≤ K ∧ i = .int .i64 (k : Int) ∧ TsW L w D p l sp M ks (.slice spk K capk) ls lv sk wr ∧ sgGo p l ks s [] = sgGo p l (ks.drop k) sk ls ∧ Lim (m + 75 * k) sk ∧ BlkOK sk ∧ ls.length ≤ k) (fun _ i _ => K - (intOf i).toNat)
    case atStart => exact ⟨0, s, [], by omega, rfl, HT.out, rfl, by simpa using HK.out, HBK.out, by simp⟩
    case round =>
      clear HT
      obtain ⟨k, sk, ls, hk, rfl, ht, hgo, hlm, hbk, hll⟩ := hrel
      obtain ⟨spl, capl, hlv, -⟩ := owns_form ht.1.lr
      subst hlv
      have HT := Lib.hid ht; have HGO := Lib.hid hgo; have HLM := Lib.hid hlm; have HBK2 := Lib.hid hbk; have HLL := Lib.hid hll
      have wk1 := IntWalk.i64_in ((k : Int) + 1) (by have := HOL.out; have := HKL.out; omega)
      clear ht hgo hlm hbk hll
      by_cases hlt : k < K
      · obtain ⟨off, hoff⟩ : ∃ off, ks[k]? = some off := ⟨_, List.getElem?_eq_getElem (by have := HKL.out; omega)⟩
        obtain ⟨gk, cap', e, hc', hat⟩ := keysFrame HT.out.1.kr (by have := HKL.out; omega)
        injection e with e1 e2 e3
        subst e1
        have ck := hat k off hoff
        have HOF := Lib.hid (HKM.out off (List.mem_of_getElem? hoff))
        have HDR : Hid (sgGo p l ks s [] = sgGo p l (off :: ks.drop (k + 1)) sk ls) := Lib.hid (by
          rw [HGO.out]
          obtain ⟨h1, e1⟩ := List.getElem?_eq_some_iff.1 hoff
          rw [List.drop_eq_getElem_cons h1, e1])
        have HKK : Hid (k < K ∧ K ≤ capk) := Lib.hid ⟨hlt, HKC.out⟩
        have hcn : ¬ K ≤ k := by omega
        obtain ⟨L1, v1, h1, hlo1, h2, hcall⟩ := HT.out.call
        have HBW := Lib.hid (tbBelow_any p HPO.out off (by have := HOF.out.1; omega) h1 (hlo1 HLO.out) HLM.out (by have := HM.out; have := HOL.out; have := HKL.out; omega) ((HBK2.out.same (getS_same _ _ _)).rdB _))
        have HCL := Lib.hid (hcall (blS sk p off))
        clear hat hc' e2 e3 HGO hoff h1 h2 hcall hlo1
        have HPB := Lib.hid HT.out.1.bp
        go_wp2_with (first | (refine wpL_val rfl (ex_iaW (k := k) HKK.out rfl rfl rfl) ?_) | (refine wpL_val rfl (ex_ldP HPO.out HPB.out rfl rfl) ?_) | fail)
        unfold shI at HBW
        refine HBW.out.mono ?_
        rintro e X6 ⟨rfl, hsp6, hlm6⟩
        have HT6 := Lib.hid (HCL.out X6 hsp6).1
        have HLM6 := Lib.hid hlm6
        clear hsp6 hlm6 HBW HCL HPB ck HT HLM
        obtain ⟨be, hbe⟩ : ∃ r, blE sk p off = r := ⟨_, rfl⟩
        obtain ⟨ns, hns⟩ : ∃ r, blN sk p off = r := ⟨_, rfl⟩
        obtain ⟨s6, hs6⟩ : ∃ r, blS sk p off = r := ⟨_, rfl⟩
        have HBE := Lib.hid hbe; have HNS := Lib.hid hns; have HS6 := Lib.hid hs6
        have HNO : Hid (BOK ns) := Lib.hid (by rw [← hns]; exact blN_ok _ _ _)
        have HBK6 : Hid (BlkOK s6) := Lib.hid (by rw [← hs6]; exact HBK2.out.same (blS_same _ _ _))
        rw [hbe, hns]
        rw [hs6] at HT6 HLM6
        have HSTN := Lib.hid (size_bcB HNO.out)
        have HSAN : Hid ((bcells ns).toArray.size = 176) := Lib.hid HNO.out.size
        clear hbe hns hs6
        go_upto_region 11 with (first | (refine wpList_store_row rfl 104 (.tmp 12) (.tmp 38) rfl X6.heap.size (bcells ns).toArray rfl rfl 104 _ (heap_alloc_new X6 _) HSTN.out (by rw [HSAN.out]; rfl) (bcells_one ns) ?_) | fail)
        refine (fun (k : ∀ W, Blk W X6.heap.size (bcells ns) 104 → Below X6.heap.size X6 W → Code.wp _ _ _ _ W) => k _ (blk_row1 X6 _ (bcells ns) 104).1 (blk_row1 X6 _ (bcells ns) 104).2) ?_
        intro X7 hx7 hb7
        have HT7 := Lib.hid (HT6.out.below hb7)
        obtain ⟨g7, hg7⟩ : ∃ g, X6.heap.size = g := ⟨_, rfl⟩
        rw [hg7] at hx7 ⊢
        have HI7 := Lib.hid hx7
        clear hx7 hb7 hg7 HT6
        by_cases h0 : be = 0
        · subst h0
          rw [show ((0 : Nat) : Int) = (0 : Int) from rfl]
          have hl0 : 0 < l.length := by
            have := HOF.out.2
            cases l with
            | nil => simp [grpI] at this
            | cons a l => simp
          have hspe := HGGO.out hl0
          obtain ⟨n7, hn7, hm7⟩ := HT7.out.1.map gg oo HGGO.out
          have hsrc7 := HT7.out.1.src
          rw [hspe] at hsrc7
          have hsg := grp_src (setT_asc HST2.out) hsrc7 off HOF.out.2
          obtain ⟨q, hq⟩ : ∃ q, (grpI off l).length = q := ⟨_, rfl⟩
          obtain ⟨oq, hoq⟩ : ∃ oq, oo + l.findIdx (fun x => x.1 / 4 == off) * 45 = oq := ⟨_, rfl⟩
          rw [hoq] at hsg
          have hval : SpV ((partF gg oo l off).getD none) = .slice (some ⟨gg, oq, none⟩) q q := by
            unfold partF
            rw [if_neg HOF.out.2, hoq, hq]
            rfl
          have hgl : (grpI off l).length ≤ l.length := List.length_filter_le _ _
          have hwi := tbWith_any ns HNO.out (grpI off l) (fun x hx => HOK.out x (List.mem_filter.1 hx).1) (some ⟨gg, oq, none⟩) q (by omega) (by have := HL.out; omega) X7 hsg
          obtain ⟨nw, hnw⟩ : ∃ r, wth ns (grpI off l) = r := ⟨_, rfl⟩
          have HNW0 : Hid (nowB p l sk off = nw) := Lib.hid (by unfold nowB; rw [HNS.out]; exact hnw)
          rw [hq, hnw] at hwi
          have HWI := Lib.hid hwi; have HM7 := Lib.hid hm7; have HVAL := Lib.hid hval
          have HNW : Hid (BOK nw) := Lib.hid (by rw [← hnw]; exact wth_okG HNO.out HOK.out off)
          have HSTW := Lib.hid (size_bcB HNW.out)
          have HSAW : Hid ((bcells nw).toArray.size = 176) := Lib.hid HNW.out.size
          clear hl0 hspe hn7 hm7 hsrc7 hsg hq hoq hval hgl hwi hnw
          go_wp2_with (first | (refine wpL_val rfl (ex_ldBn HNO.out HI7.out rfl rfl) ?_) | (refine wpL_val rfl (ex_lookU HM7.out (by have := HOF.out.1; omega) HVAL.out rfl rfl rfl) ?_) | fail)
          refine HWI.out.mono ?_
          rintro e X8 ⟨rfl, hb8⟩
          have HT8 := Lib.hid (HT7.out.below hb8)
          have HI8 := Lib.hid (HI7.out.below hb8 HI7.out.lt)
          clear hb8 HT7 HI7 HWI HM7
          go_upto_region 14 with (first | (refine wpList_store_row rfl 104 (.tmp 14) (.tmp 48) rfl X8.heap.size (bcells nw).toArray rfl rfl 104 _ (heap_alloc_new X8 _) HSTW.out (by rw [HSAW.out]; rfl) (bcells_one nw) ?_) | fail)
          refine (fun (k : ∀ W, Blk W X8.heap.size (bcells nw) 104 → Below X8.heap.size X8 W → Code.wp _ _ _ _ W) => k _ (blk_row1 X8 _ (bcells nw) 104).1 (blk_row1 X8 _ (bcells nw) 104).2) ?_
          intro X9 hx9 hb9
          have HT9 := Lib.hid (HT8.out.below hb9)
          have HI9 := Lib.hid (HI8.out.below hb9 HI8.out.lt)
          obtain ⟨g9, hg9⟩ : ∃ g, X8.heap.size = g := ⟨_, rfl⟩
          rw [hg9] at hx9 ⊢
          have HN9 := Lib.hid hx9
          clear hx9 hb9 hg9 HT8 HI8
          by_cases hsame : nw = ns
          · have HD : Hid (decide (nw = ns) = true) := Lib.hid (decide_eq_true hsame)
            have HGN : Hid (sgGo p l ks s [] = sgGo p l (ks.drop (k + 1)) s6 ls) := Lib.hid (by rw [HDR.out, sg_same HBE.out (by rw [HNW0.out, HNS.out]; exact hsame), HS6.out])
            clear hsame HDR HBE HNW0
            go_wp2_with (first | (refine wpL_val rfl (ex_ldBn HNW.out HN9.out rfl rfl) ?_) | (refine wpL_val rfl (ex_ldBn HNO.out HI9.out rfl rfl) ?_) | (refine wpL_val rfl ((ex_eqBn HNW.out HNO.out rfl rfl rfl).trans (by rw [HD.out])) ?_) | fail)
            go_roundw
            case rel => exact ⟨k + 1, s6, ls, by omega, by go_num, HT9.out, HGN.out, HLM6.out.mono (by omega) (by have := HM.out; have := HOL.out; have := HKL.out; omega), HBK6.out, by have := HLL.out; omega⟩
            case measure => simp [intOf]; omega
          · have HD : Hid (decide (nw = ns) = false) := Lib.hid (decide_eq_false hsame)
            have HNE : Hid (¬ nw = ns) := Lib.hid hsame
            obtain ⟨L1, v1, h1, -, -, hcall⟩ := HT9.out.call
            have HAN := Lib.hid (tbAnew_any nw HNW.out off (by have := HOF.out.1; omega) h1 HLM6.out (by have := HM.out; have := HOL.out; have := HKL.out; omega))
            have HCL := Lib.hid (hcall (taS s6 nw off))
            clear hsame h1 hcall
            go_wp2_with (first | (refine wpL_val rfl (ex_ldBn HNW.out HN9.out rfl rfl) ?_) | (refine wpL_val rfl (ex_ldBn HNO.out HI9.out rfl rfl) ?_) | (refine wpL_val rfl ((ex_eqBn HNW.out HNO.out rfl rfl rfl).trans (by rw [HD.out])) ?_) | fail)
            unfold shI at HAN
            refine HAN.out.mono ?_
            rintro e X10 ⟨rfl, hsp10, hlm10⟩
            have HT10 := Lib.hid (HCL.out X10 hsp10).1
            have HLM10 := Lib.hid hlm10
            clear hsp10 hlm10 HAN HCL HT9 HN9 HI9 HD
            obtain ⟨qp, hqp⟩ : ∃ r, taP s6 nw off = r := ⟨_, rfl⟩
            obtain ⟨er, her⟩ : ∃ r, taE s6 nw = r := ⟨_, rfl⟩
            obtain ⟨s10, hs10⟩ : ∃ r, taS s6 nw off = r := ⟨_, rfl⟩
            have HQP := Lib.hid hqp; have HER := Lib.hid her; have HS10 := Lib.hid hs10
            have HQO : Hid qp.OK := Lib.hid (by rw [← hqp]; exact taP_ok (by have := HOF.out.1; omega))
            have HBK10 : Hid (BlkOK s10) := Lib.hid (by rw [← hs10]; exact HBK6.out.taS HNW.out off)
            rw [hqp, her]
            rw [hs10] at HT10 HLM10
            have HSTQ := Lib.hid (size_pc HQO.out)
            have HSAQ : Hid ((pcells qp).toArray.size = 41) := Lib.hid (by rw [List.size_toArray, pcells_length HQO.out])
            clear hqp her hs10
            go_upto_region 16 with (first | (refine wpList_store_row rfl 28 (.tmp 15) (.tmp 57) rfl X10.heap.size (pcells qp).toArray rfl rfl 28 _ (heap_alloc_new X10 _) HSTQ.out (by rw [HSAQ.out]; rfl) (one_pc qp) ?_) | fail)
            refine (fun (k : ∀ W, Blk W X10.heap.size (pcells qp) 28 → Below X10.heap.size X10 W → Code.wp _ _ _ _ W) => k _ (blk_row1 X10 _ (pcells qp) 28).1 (blk_row1 X10 _ (pcells qp) 28).2) ?_
            intro X11 hx11 hb11
            have HT11 := Lib.hid (HT10.out.below hb11)
            obtain ⟨g11, hg11⟩ : ∃ g, X10.heap.size = g := ⟨_, rfl⟩
            rw [hg11] at hx11 ⊢
            have HI11 := Lib.hid hx11
            clear hx11 hb11 hg11 HT10
            by_cases h1 : er = 0
            · subst h1
              have HGN : Hid (sgGo p l ks s [] = sgGo p l (ks.drop (k + 1)) s10 (ls ++ [(off, qp)])) := Lib.hid (by
                rw [HDR.out, sg_new HBE.out (by rw [HNW0.out, HNS.out]; exact HNE.out) (by rw [HNW0.out, HS6.out]; exact HER.out), HNW0.out, HS6.out, HQP.out, HS10.out])
              obtain ⟨lv12, w12, hr12, hT12⟩ := HT11.out.app (by have := HLL.out; have := HOL.out; have := HKL.out; omega) (x := (off, qp)) ⟨by have := HOF.out.1; show off < 4294967296; omega, HQO.out⟩ ((Below.refl X11.heap.size X11).alloc (Nat.le_refl _) (.cells (lcells (off, qp)).toArray 110)) (Blk.new X11 (lcells (off, qp)) 110) 95
              have HR12 := Lib.hid hr12; have HT12 := Lib.hid hT12
              clear hr12 hT12 HDR HBE HNW0 HNE
              rw [show ((0 : Nat) : Int) = (0 : Int) from rfl]
              go_wp2_with (first | (refine wpL_val rfl (ex_ldP HQO.out HI11.out rfl rfl) ?_) | (refine wpL_val rfl (ex_bldL (f := off) HQO.out rfl rfl rfl) ?_) | (refine wpL_val rfl (ex_oneL (l := (off, qp)) HQO.out rfl rfl) ?_) | (at_builtin; refine wpL_val rfl (ex_appL rfl rfl rfl HR12.out) ?_) | fail)
              go_roundw
              case rel => exact ⟨k + 1, s10, ls ++ [(off, qp)], by omega, by go_num, HT12.out, HGN.out, HLM10.out.mono (by omega) (by have := HM.out; have := HOL.out; have := HKL.out; omega), HBK10.out, by have := HLL.out; rw [List.length_append, List.length_singleton]; omega⟩
              case measure => simp [intOf]; omega
            · have h1' : ¬ (er : Int) = 0 := by omega
              have HD3 : Hid (sgGo p l ks s [] = ⟨er, s10, []⟩) := Lib.hid (by
                rw [HDR.out, sg_bad HBE.out (by rw [HNW0.out, HNS.out]; exact HNE.out) (by rw [HNW0.out, HS6.out, HER.out]; exact h1), HNW0.out, HS6.out, HER.out, HS10.out])
              have hr3 : r = ⟨zeroP, er, s10⟩ := by rw [HRG.out, HD3.out, if_pos h1]
              subst hr3
              have HBX := Lib.hid (HT11.out.ends zeroP)
              have HRB11 := Lib.hid HT11.out.1.res
              rw [HG.out] at HBX HRB11
              have HE := Lib.hid (HP.out _ HBX.out.1 (HLM10.out.mono (by have := HOL.out; have := HKL.out; omega) HM.out) zeroP_ok)
              clear HP HRG HDR HD3 h1 HBE HNW0 HNE
              go_wp2_with (first | (refine wpL_val rfl (ex_bld0 rfl) ?_) | (refine wpList_store_row rfl 28 (.tmp 6) (.tmp 61) rfl G (pcells zeroP).toArray rfl rfl 28 _ HRB11.out HSZ0.out rfl (one_pc zeroP) ?_) | fail)
              refine bodyPost_ret (results_cs Tryz.results15 _ _ G 28 _ rfl HBX.out.2 (size_pcl zeroP_ok)) rfl ?_
              exact HE.out
        · have h0' : ¬ (be : Int) = 0 := by omega
          have HD3 : Hid (sgGo p l ks s [] = ⟨be, s6, []⟩) := Lib.hid (by rw [HDR.out, sg_err (by rw [HBE.out]; exact h0), HBE.out, HS6.out])
          have hr3 : r = ⟨zeroP, be, s6⟩ := by rw [HRG.out, HD3.out, if_pos h0]
          subst hr3
          have HBX := Lib.hid (HT7.out.ends zeroP)
          have HRB7 := Lib.hid HT7.out.1.res
          rw [HG.out] at HBX HRB7
          have HE := Lib.hid (HP.out _ HBX.out.1 (HLM6.out.mono (by have := HOL.out; have := HKL.out; omega) HM.out) zeroP_ok)
          clear HP HRG HDR HD3 h0 HBE
          go_wp2_with (first | (refine wpL_val rfl (ex_bld0 rfl) ?_) | (refine wpList_store_row rfl 28 (.tmp 6) (.tmp 42) rfl G (pcells zeroP).toArray rfl rfl 28 _ HRB7.out HSZ0.out rfl (one_pc zeroP) ?_) | fail)
          refine bodyPost_ret (results_cs Tryz.results15 _ _ G 28 _ rfl HBX.out.2 (size_pcl zeroP_ok)) rfl ?_
          exact HE.out
      · obtain rfl : k = K := by omega
        have hD3 : sgGo p l ks s [] = ⟨0, sk, ls⟩ := by rw [HGO.out, List.drop_of_length_le (by have := HKL.out; omega)]; rfl
        have HRT : Hid (setR sk p 0 ls = r) := Lib.hid (by rw [HRG.out, hD3, if_neg (by simp)])
        obtain ⟨sp2, cap2, e, hc2, hS2⟩ := srcF_of HT.out.1.lr HT.out.1.lok
        injection e with e1 e2 e3
        subst e1 e3
        obtain ⟨L1, v1, h1, -, hlab, hcall⟩ := HT.out.call
        have hts := trSet_any (obj := 0) p HPO.out (by omega) ls HT.out.1.lok spl capl hc2 (by have := HLL.out; have := HOL.out; have := HKL.out; omega) hS2 (fun a ha => by
          have hb : TsB w sp M (.slice spk k capk) (.slice spl ls.length capl) a.block := .inr (.inr (.inr (.inr (.inr (by rw [ha]; rfl)))))
          have h3 := hlab a.block hb
          exact ⟨HT.out.1.lt hb, by omega⟩) h1 HLM.out (by have := HM.out; have := HOL.out; have := HKL.out; omega)
        rw [HRT.out] at hts
        have HTS := Lib.hid hts
        have HCL := Lib.hid (hcall r.s)
        have HPB := Lib.hid HT.out.1.bp
        obtain ⟨ln, hln⟩ : ∃ n, ls.length = n := ⟨_, rfl⟩
        rw [hln] at HTS ⊢
        clear hD3 e2 hc2 hS2 h1 hlab hcall hts hlt hln HGO
        go_wp2_with (first | (refine wpL_val rfl (ex_ldP HPO.out HPB.out rfl rfl) ?_) | fail)
        unfold shI at HTS
        refine HTS.out.mono ?_
        rintro e X6 ⟨rfl, hsp6, hlm6, hro⟩
        have HT6 := Lib.hid (HCL.out X6 hsp6).1
        have HBX := Lib.hid (HT6.out.ends r.p)
        have HRB6 := Lib.hid HT6.out.1.res
        have HRO := Lib.hid hro
        rw [HG.out] at HBX HRB6
        have HE := Lib.hid (HP.out _ HBX.out.1 (hlm6.mono (by have := HOL.out; have := HKL.out; omega) HM.out) hro)
        have HSR := Lib.hid (size_pc hro)
        have HZR : Hid ((pcells zeroP).toArray.size = (pcells r.p).toArray.size) := Lib.hid (by rw [List.size_toArray, List.size_toArray, pcells_length hro, pcells_length zeroP_ok])
        clear hsp6 hlm6 hro HTS HCL HP HRG HRT HPB HT HLM
        go_wp2_with (first | (refine wpList_store_row rfl 28 (.tmp 6) (.tmp 74) rfl G (pcells r.p).toArray rfl rfl 28 _ HRB6.out HSR.out HZR.out (one_pc r.p) ?_) | fail)
        refine bodyPost_ret (results_cs Tryz.results15 _ _ G 28 _ rfl HBX.out.2 (size_pcl HRO.out)) rfl ?_
        exact HE.out
end Go.Proofs.YtjgjohdeeeoeoaaGreatDoor
