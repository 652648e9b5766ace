/- Content: Leaf; a piece's block. -/
import Derived.Test.YthionhliokhcgaaCc
import Derived.Deep.Cut
import Derived.Deep.DeepCutAuto
namespace Go.Proofs.Ythionhliokhcgaa
open Go.RowKit

attribute [local go_sem] Oper.semAt_some

def padL (l : B8) : B8 := l ++ List.replicate (512 - l.length) 0
theorem padL_length {l : B8} (h : l.length ≤ 512) : (padL l).length = 512 := by unfold padL; simp; omega
theorem c_copy {w : World} {ops : Array Oper} {rest : List Oper} {o : Oper} {a : Act} {Q : Exit → Act → World → Prop} (hgd : o.guard = none) (d s : Operand)
    (ho : o.op = .call { callee := .builtin .copy, args := #[d, s], argTypes := #[24, 24] }) {g off dl dc n cap : Nat} {sp : Option Addr} {m : B8} (hd : a.eval d = .slice (some ⟨g, off, none⟩) dl dc) (hs : a.eval s = .slice sp n cap) (hm : m.length = min n dl) (hsrc : SrcA w sp m)
    {cur : List Value} {t : TypeId} (hg : Blk w g cur t) (hfit : off + m.length ≤ cur.length)
    (h : ∀ W', Blk W' g (splice cur off (m.map V8)) t → W' = w ∨ W' = w.setRow g (splice cur off (m.map V8)).toArray → wpList Try.prog ops Q rest (a.put o.dst (goInt m.length)) W') : wpList Try.prog ops Q (o :: rest) a w := by
  rcases Nat.eq_zero_or_pos m.length with h0 | h0
  · have hm0 : m = [] := List.eq_nil_of_length_eq_zero h0
    subst hm0
    exact wpList_copy_nothing hgd d s 24 24 ho 5 Try.underlying24 sizeB _ sp dl dc n cap hd hs hm.symm (h w (by simpa [splice] using hg) (.inl rfl))
  · obtain ⟨g2, o2, rfl, hg2, hcl⟩ := hsrc h0
    have e : (cur.toArray.toList.take off ++ (m.map V8 ++ cur.toArray.toList.drop (off + (m.map V8).length))) = splice cur off (m.map V8) := by simp [splice]
    have h3 := h (w.setRow g (splice cur off (m.map V8)).toArray) (hg.row _) (.inr rfl)
    refine wpList_copy_own hgd d s 24 24 ho 5 Try.underlying24 sizeB g off dl dc ⟨g2, o2, none⟩ n cap hd hs cur.toArray t hg (m.map V8) (by rw [List.length_map]; exact hm) (fun j v hv => src_cell hcl j v hv) (by simpa using hfit) (one_v8 _) ?_
    rw [e, List.length_map]
    exact h3
/-- The block of a piece: a row of the call's own. -/
def BkPost (w : World) (l : B8) (e : Ending) (w' : World) : Prop := ∃ g, e = .returned (.slice (some ⟨g, 0, none⟩) 512 512) ∧ Blk w' g ((padL l).map V8) 5 ∧ w.heap.size ≤ g ∧ Below w.heap.size w w'
theorem splice_rep (l : B8) (n : Nat) (z : Value) (hz : V8 0 = z) : splice (List.replicate n z) 0 (l.map V8) = (l ++ List.replicate (n - l.length) 0).map V8 := by
  unfold splice
  rw [List.map_append, List.map_replicate, hz, List.take_zero, List.nil_append, List.drop_replicate, List.length_map, Nat.zero_add]
theorem splice_pad (l : B8) : splice (List.replicate 512 (.int .u8 0)) 0 (l.map V8) = (padL l).map V8 := splice_rep l 512 _ rfl
theorem infoB0 : ∃ i, Try.prog.info? 5 = some i ∧ i.zero = some (.int .u8 0) ∧ i.size = 1 ∧ i.bytes = 1 := info_parts infoB
theorem cblock_any (off fr tt : Nat) (v : Value) (l : B8) (hl : l.length ≤ 512) (w : World) (hv : OwnB w 0 v l) : Calls Try.prog 16 #[.agg (pcC off fr tt v).toArray] w (BkPost w l) := by
  obtain ⟨sp, cap, rfl, hc, hm, hsrc, -⟩ := OwnB.form hv
  have HL := Lib.hid hl
  have hb1 : Below w.heap.size w (w.alloc (.cells (pcC off fr tt (.slice sp l.length cap)).toArray 56)) := (Below.refl _ _).alloc (Nat.le_refl _) _
  have HB1 := Lib.hid hb1
  have HS := Lib.hid (hsrc.grown hb1)
  have HBX : Hid (Blk (w.alloc (.cells (pcC off fr tt (.slice sp l.length cap)).toArray 56)) w.heap.size (pcC off fr tt (.slice sp l.length cap)) 56) := Lib.hid (Blk.new _ _ _)
  generalize hPost : BkPost w l = Post
  have HP : Hid (∀ g W, Blk W g ((padL l).map V8) 5 → w.heap.size ≤ g → Below w.heap.size w W → Post (.returned (.slice (some ⟨g, 0, none⟩) 512 512)) W) := Lib.hid fun g W h1 h2 h3 => by rw [← hPost]; exact ⟨g, rfl, h1, h2, h3⟩
  obtain ⟨N, hN⟩ : ∃ N, l.length = N := ⟨_, rfl⟩
  rw [hN] at HL HB1 HS HBX ⊢
  have HN := Lib.hid hN
  clear hl hv hc hm hsrc hb1 hPost hN
  go_enter Try.func16, Try.ntmps16
  go_upto_region 1 with fail
  generalize (w.alloc (.cells (pcC off fr tt (.slice sp N cap)).toArray 56)) = W at HB1 HS HBX ⊢
  obtain ⟨i0, hi0, hz0, hz1, hz2⟩ := infoB0
  refine wp_region_list ?_
  refine wpList_makeLC rfl _ _ 24 rfl 5 i0 (.int .u8 0) Try.underlying24 hi0 hz0 rfl hz1 .i64 .i64 512 512 512 512 rfl rfl rfl rfl (Nat.le_refl _) (by rw [hz2]; omega) (by unfold maxLen; omega) fun W2 hB2 hb2 => ?_
  have HB2 := Lib.hid hB2; have HBX2 := Lib.hid (HBX.out.below hb2 HBX.out.lt); have HS2 := Lib.hid (HS.out.grown hb2); have HG2 := Lib.hid HB1.out.size; have HW2 := Lib.hid (HB1.out.trans (hb2.mono HB1.out.size))
  clear hB2 hb2 HB1 HS HBX hi0 hz0 hz1 hz2
  obtain ⟨G2, hG2⟩ : ∃ G, W.heap.size = G := ⟨_, rfl⟩
  rw [hG2] at HB2 HG2 ⊢
  clear hG2
  have c3 := HBX2.out.cell (j := 3) rfl
  go_wp2_with (first | (refine c_copy rfl (.tmp 5) (.tmp 7) rfl rfl rfl (m := l) (by rw [HN.out]; have := HL.out; omega) HS2.out HB2.out (by rw [List.length_replicate]; have := HL.out; have := HN.out; omega) ?_; intro W3 hB3 hW3) | fail)
  have hE := HP.out G2 W3 (by rw [← splice_pad]; exact hB3) HG2.out (by
    rcases hW3 with rfl | rfl
    · exact HW2.out
    · exact below_row HW2.out HG2.out _)
  go_wp2_with fail
  first | exact hE | (go_ret; exact hE)
/-- Leaf: what it answers; that it notes what was asked. -/
def lfE (bad k : Nat) : Nat := if badAt bad k = true then 21 else 0
def lfV (vs : List Value) (bad k : Nat) : Value := if badAt bad k = true then .slice none 0 0 else vs.getD k undef
def LfPost (w : World) (B D : Nat) (vs : List Value) (m : List B8) (bad : Nat) (av : Value) (aq : List Nat) (k : Nat) (e : Ending) (w' : World) : Prop :=
  e = .returned (.tuple #[lfV vs bad k, .int .i64 (lfE bad k : Int)]) ∧ ∃ av', ShW w' B D vs m bad av' (aq ++ [k]) ∧ CMv D av w av' w'
theorem ex_appQ {ρ : Operand → Value} {o : Oper} {x y : Operand} {v u v' : Value} {w w' : World} (ho : o.op = .call { callee := .builtin .append, args := #[x, y], argTypes := #[31, 31] }) (hx : ρ x = v) (hy : ρ y = u)
    (hr : (Builtin.append_ #[31, 31] o.type #[v, u]).run Try.prog w = .ok v' w') : (execOp ρ o).run Try.prog w = .ok (.value v') w' := by
  unfold execOp
  simp only [ho, resolve, invoke, builtin, Sem.run_bind, Sem.run_pure, Result.andThen_ok, List.map_toArray, List.map_cons, List.map_nil, hx, hy, hr]
theorem bad_bits (bad k : Nat) (hb : bad < 18446744073709551616) : bits .and .u64 ((bad : Int) / 2 ^ k) 1 = (if badAt bad k = true then 1 else 0) := by
  have h0 : bad / 2 ^ k < 18446744073709551616 := Nat.lt_of_le_of_lt (Nat.div_le_self _ _) hb
  have h1 := u64_and_nat (bad / 2 ^ k) 1 h0 (by omega)
  rw [Nat.and_one_is_mod] at h1
  have e : (((bad / 2 ^ k : Nat) : Nat) : Int) = (bad : Int) / 2 ^ k := by simp
  rw [e] at h1
  have e1 : ((1 : Nat) : Int) = 1 := rfl
  rw [e1] at h1
  rw [h1]
  unfold badAt
  have h2 : bad / 2 ^ k % 2 < 2 := Nat.mod_lt _ (by omega)
  generalize bad / 2 ^ k % 2 = x at h2
  by_cases h : x = 1
  · subst h; rfl
  · obtain rfl : x = 0 := by omega
    rfl
set_option maxRecDepth 100000 in
set_option maxHeartbeats 4000000 in
theorem cleaf_any {w : World} {B D : Nat} {vs : List Value} {m : List B8} {bad : Nat} {av : Value} {aq : List Nat} (h : ShW w B D vs m bad av aq) (k : Nat) (hk : k < 64) (hB : B ≤ w.heap.size) (hl : aq.length < 1000000) :
    Calls Try.prog 35 #[.pointer (some ⟨D, 0, none⟩), .int .u32 (k : Int)] w (LfPost w B D vs m bad av aq k) := by
  obtain ⟨sp, cap, sp', cap', av', w3, ha, ha', hr, ⟨_, hc⟩, hf, hS, hM⟩ := cask_here h k hB hl
  have c65 := h.cell65
  have hvk : ∃ v, vs[k]? = some v := ⟨_, List.getElem?_eq_getElem (by rw [h.vl]; exact hk)⟩
  obtain ⟨v, hv⟩ := hvk
  have hml : ∃ l, m[k]? = some l := ⟨_, List.getElem?_eq_getElem (by rw [h.ml]; exact hk)⟩
  obtain ⟨l, hml⟩ := hml
  obtain ⟨spv, nv, capv, hvf⟩ : ∃ sp n cap, v = .slice sp n cap := by
    obtain ⟨sp, cap, e, _⟩ := c_owns_form (h.row k v l hv hml)
    exact ⟨sp, _, cap, e⟩
  have hlv : lfV vs bad k = if badAt bad k = true then .slice none 0 0 else v := by unfold lfV; rw [List.getD_eq_getElem?_getD, hv]; rfl
  have hbd := h.bad
  generalize hPost : LfPost w B D vs m bad av aq k = Post
  have HP : Hid (Post (.returned (.tuple #[lfV vs bad k, .int .i64 (lfE bad k : Int)])) (w3.setCell ⟨D, 65, none⟩ av')) := Lib.hid (by rw [← hPost]; exact ⟨rfl, av', hS, hM⟩)
  have HC64 : Hid ((w3.setCell ⟨D, 65, none⟩ av').cell? ⟨D, 64, none⟩ = some (.int .u64 (bad : Int))) := Lib.hid hS.cell64
  have HCk : Hid ((w3.setCell ⟨D, 65, none⟩ av').cell? ⟨D, k, none⟩ = some v) := Lib.hid (hS.cell hv)
  rw [hlv] at HP
  subst ha ha' hvf
  have HR := Lib.hid hr
  have HBD := Lib.hid hbd
  clear hPost hS hM h hv hml hlv hr hbd
  have hk0 : (k : Int) < 64 := by omega
  go_enter Try.func35, Try.ntmps35
  go_upto_region 2 with (first | (at_builtin; refine c_val rfl (ex_appQ rfl rfl rfl HR.out) ?_) | fail)
  generalize (w3.setCell ⟨D, 65, none⟩ (.slice sp' (aq.length + 1) cap')) = W at HP HC64 HCk ⊢
  have c64 := HC64.out
  have ck := HCk.out
  clear c65 hc hf HR HC64 HCk hl hB
  have hbt := bad_bits bad k HBD.out
  have HK := Lib.hid hk
  have HE : Hid (lfE bad k = if badAt bad k = true then 21 else 0) := Lib.hid rfl
  rw [HE.out] at HP
  clear HE HBD
  cases hbk : badAt bad k
  · rw [hbk, if_neg (by simp)] at hbt
    rw [hbk, if_neg (by simp), if_neg (by simp)] at HP
    go_wp2_with fail
    first | exact HP.out | (go_ret2; exact HP.out)
  · rw [hbk, if_pos rfl] at hbt
    rw [hbk, if_pos rfl, if_pos rfl] at HP
    go_wp2_with fail
    first | exact HP.out | (go_ret2; exact HP.out)
end Go.Proofs.Ythionhliokhcgaa
