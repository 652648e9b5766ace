/- Take: what a reader reads as a pointer. -/
import Derived.Test.YtmgagalhpkieoaaDoorM23
import Derived.Laws.CopyOwn
import Derived.Test.YtmgagalhpkieoaaDoorM38
namespace Go.Proofs.YtmgagalhpkieoaaDoor
open Go.RowKit

/-- What is left and the error when k bytes of l were asked for: all is well, or an error stays. -/
def Rs (l : Bs) (e k : Nat) (rest : Bs) (ee : Nat) : Prop := (ee = 0 ∧ e = 0 ∧ k ≤ l.length ∧ rest = l.drop k) ∨ (ee ≠ 0 ∧ ee = (if e = 0 then 4 else e) ∧ (e ≠ 0 ∨ l.length < 64) ∧ rest.length ≤ l.length)
theorem Rs.start (l : Bs) (e : Nat) : Rs l e 0 l e := by
  by_cases h : e = 0
  · exact .inl ⟨h, h, Nat.zero_le _, rfl⟩
  · exact .inr ⟨h, by rw [if_neg h], .inl h, Nat.le_refl _⟩
theorem Rs.len {l : Bs} {e k : Nat} {rest : Bs} {ee : Nat} (h : Rs l e k rest ee) : rest.length ≤ l.length := by
  rcases h with ⟨_, _, _, rfl⟩ | ⟨_, _, _, h⟩
  · simp
  · exact h
theorem Rs.next {l : Bs} {e k : Nat} {rest : Bs} {ee : Nat} (h : Rs l e k rest ee) (n : Nat) (hn : 0 < n) (hk : k + n ≤ 64) : Rs l e (k + n) (nextRes rest ee n).2.1 (nextRes rest ee n).2.2 ∧ ((nextRes rest ee n).2.2 = 0 → (nextRes rest ee n).1 = (l.drop k).take n) ∧ ((nextRes rest ee n).1.length = n ∨ (nextRes rest ee n).1 = []) := by
  rcases h with ⟨rfl, rfl, h2, rfl⟩ | ⟨h1, h2, h3, h4⟩
  · by_cases hs : l.length - k < n
    · have e1 : nextRes (l.drop k) 0 n = ([], l.drop k, 4) := by
        unfold nextRes
        rw [if_neg (by omega), if_pos (by rw [List.length_drop]; omega)]
      rw [e1]
      exact ⟨.inr ⟨by simp, by simp, .inr (by omega), by simp⟩, fun h => by simp at h, .inr rfl⟩
    · have e1 : nextRes (l.drop k) 0 n = ((l.drop k).take n, (l.drop k).drop n, 0) := by
        unfold nextRes
        rw [if_neg (by omega), if_neg (by rw [List.length_drop]; omega), Int.toNat_natCast]
      rw [e1]
      exact ⟨.inl ⟨rfl, rfl, by omega, by rw [List.drop_drop]⟩, fun _ => rfl, .inl (by simp; omega)⟩
  · have e1 : nextRes rest ee n = ([], rest, ee) := by
      unfold nextRes
      rw [if_pos (.inl h1)]
    rw [e1]
    exact ⟨.inr ⟨h1, h2, h3, h4⟩, fun h => absurd h h1, .inr rfl⟩
theorem Rs.num {l : Bs} {e k : Nat} {rest : Bs} {ee : Nat} (h : Rs l e k rest ee) (n : Nat) (hn : 0 < n) (hk : k + n ≤ 64) : ∃ x rest' ee', val (nextRes rest ee n).1 = x ∧ (nextRes rest ee n).2.1 = rest' ∧ (nextRes rest ee n).2.2 = ee' ∧ Rs l e (k + n) rest' ee' ∧ x < 2 ^ (8 * n) ∧ (ee' = 0 → x = val ((l.drop k).take n)) ∧ (ee' = 0 → ee = 0) := by
  obtain ⟨h1, h2, h3⟩ := h.next n hn hk
  refine ⟨_, _, _, rfl, rfl, rfl, h1, ?_, fun h0 => by rw [h2 h0], fun h0 => ?_⟩
  · refine Nat.lt_of_lt_of_le (val_lt _) (Nat.pow_le_pow_right (by omega) ?_)
    rcases h3 with h3 | h3 <;> simp [h3]
  · rcases Nat.eq_zero_or_pos ee with h4 | h4
    · exact h4
    · have : nextRes rest ee n = ([], rest, ee) := by unfold nextRes; rw [if_pos (.inl (by omega))]
      rw [this] at h0
      exact h0
/-- The error in the end; what is read. -/
def takeE (l : Bs) (e : Nat) : Nat := if e ≠ 0 then e else if l.length < 64 then 4 else if quietP (l.take 64) && (eqP (pt l) zeroP || mayP (pt l)) then 0 else 5
def takenP (l : Bs) (e : Nat) : Pt := if takeE l e = 0 then pt l else zeroP
theorem takeE_long {l : Bs} {e : Nat} (h : takeE l e = 0) : e = 0 ∧ 64 ≤ l.length := by
  unfold takeE at h
  split at h
  · rename_i h1; exact absurd h h1
  · rename_i h1
    split at h
    · cases h
    · rename_i h2; exact ⟨by omega, by omega⟩
theorem takenP_ok (l : Bs) (e : Nat) : (takenP l e).OK := by
  unfold takenP
  split
  · rename_i h; exact pt_ok (takeE_long h).2
  · exact zeroP_ok
/-- Behind the noughts, and what is said of a pointer that may not be. -/
theorem rs_end {l : Bs} {e : Nat} {rest : Bs} {ee : Nat} {p : Pt} (h : Rs l e 56 rest ee) (hp : ee = 0 → p = pt l) : (if (!eqP p zeroP && !mayP p) then badOf (nouOf rest ee 8).2 else (nouOf rest ee 8).2) = takeE l e ∧ (takeE l e = 0 → p = takenP l e ∧ (nouOf rest ee 8).1 = l.drop 64) := by
  rcases h with ⟨rfl, rfl, h2, rfl⟩ | ⟨h1, h2, h3, h4⟩
  · have hpt := hp rfl
    subst hpt
    by_cases hs : l.length < 64
    · have e1 : nouOf (l.drop 56) 0 8 = (l.drop 56, 4) := by
        unfold nouOf nextRes
        rw [if_neg (by omega), if_pos (by rw [List.length_drop]; omega)]
        rfl
      have e2 : takeE l 0 = 4 := by unfold takeE; rw [if_neg (by omega), if_pos hs]
      rw [e1, e2]
      exact ⟨by split <;> rfl, fun h => by cases h⟩
    · have hq : quietP (l.take 64) = ((l.drop 56).take 8).all (· == 0#8) := by unfold quietP; rw [List.drop_take]
      have e1 : nouOf (l.drop 56) 0 8 = (l.drop 64, if quietP (l.take 64) then 0 else 5) := by
        unfold nouOf nextRes
        rw [if_neg (by omega), if_neg (by rw [List.length_drop]; omega), hq]
        simp
      have e2 : takeE l 0 = if quietP (l.take 64) && (eqP (pt l) zeroP || mayP (pt l)) then 0 else 5 := by unfold takeE; rw [if_neg (by omega), if_neg hs]
      rw [e1, e2]
      refine ⟨?_, fun h => ⟨?_, rfl⟩⟩
      · cases quietP (l.take 64) <;> cases eqP (pt l) zeroP <;> cases mayP (pt l) <;> rfl
      · unfold takenP
        rw [e2, if_pos h]
  · have e1 : nouOf rest ee 8 = (rest, ee) := by
      unfold nouOf nextRes
      rw [if_pos (.inl h1)]
      rfl
    have e2 : takeE l e = ee := by
      unfold takeE
      rw [h2]
      by_cases he : e = 0
      · rw [if_neg (by omega), if_pos (by omega), if_pos he]
      · rw [if_pos he, if_neg he]
    rw [e1, e2]
    refine ⟨?_, fun h => absurd h h1⟩
    split
    · unfold badOf; rw [if_neg h1]
    · rfl
/-- The five numbers are read. -/
def numP (a b c d f : Nat) (hs : Bs) (xs : List Nat) : Pt := ⟨a, b, c, d, f, hs, xs⟩
theorem butFor_row {g : Nat} {w : World} (cs : Array Value) : ButFor g w (w.setRow g cs) := ⟨rfl, rfl, rfl, by simp, fun k _ hn => setRow_other w g k cs hn⟩
/-- .. whatever its guard, where that is met. -/
theorem wpL_valG {ops : Array Oper} {rest : List Oper} {o : Oper} {a : Act} {Q : Exit → Act → World → Prop} {w w' : World} {v : Value} (hw : Region.wanted o (yielded ops a.tmps) = true) (hrun : (execOp a.eval o).run Tryd.prog w = .ok (.value v) w')
    (hK : wpList Tryd.prog ops Q rest (a.put o.dst v) w') : wpList Tryd.prog ops Q (o :: rest) a w := by
  unfold wpList
  rw [if_pos hw]
  refine .inl ?_
  unfold Oper.wp
  rw [hrun]
  exact hK
section
variable {ops : Array Oper} {Q : Exit → Act → World → Prop} {S : World → Prop}
/-- Bytes, or none, are copied into a block. -/
theorem wpG_copyE {i : Nat} {r : Tr} {a : Act} {w : World} (o : Oper) (hi : ops.toList[i]? = some o) (hw : Region.wanted o (yielded ops a.tmps) = true) (d s : Operand)
    (ho : o.op = .call { callee := .builtin .copy, args := #[d, s], argTypes := #[29, 29] }) {g off dl dc cap : Nat} {sp : Option Addr} {m : Bs} (hd : a.eval d = .slice (some ⟨g, off, none⟩) dl dc) (hs : a.eval s = .slice sp m.length cap) (hm : m.length ≤ dl) (hsrc : SrcA w sp m)
    {cur : List Value} {t : TypeId} (hg : Blk w g cur t) (hfit : off + m.length ≤ cur.length)
    (h : ∀ W' gv, Blk W' g (splice cur off (m.map V8)) t → ButFor g w W' → ∃ S' : World → Prop, (∀ w, S' w → S w) ∧ S' W' ∧ wpG Tryd.prog ops Q r S' (a.put o.dst gv) W') : wpG Tryd.prog ops Q (.step i r) S a w := by
  refine wpG_bare o hi hw fun K hK => ?_
  rcases Nat.eq_zero_or_pos m.length with h0 | h0
  · have hm0 : m = [] := List.eq_nil_of_length_eq_zero h0
    subst hm0
    obtain ⟨S', h1, h2, h3⟩ := h w (goInt 0) (by simpa [splice] using hg) (ButFor.refl _ _)
    refine wpList_copy_nothing rfl d s 29 29 ho 5 Tryd.underlying29 sizeB _ sp dl dc 0 cap hd hs (by simp) ?_
    exact wpG_list_nil (hK _ _ S' h1 h2 h3)
  · obtain ⟨g2, o2, rfl, hg2, hcl⟩ := hsrc h0
    have e : (cur.toArray.toList.take off ++ (m.map V8 ++ cur.toArray.toList.drop (off + (m.map V8).length))) = splice cur off (m.map V8) := by simp [splice]
    obtain ⟨S', h1, h2, h3⟩ := h (w.setRow g (splice cur off (m.map V8)).toArray) (goInt m.length) (hg.row _) (butFor_row _)
    refine wpList_copy_own rfl d s 29 29 ho 5 Tryd.underlying29 sizeB g off dl dc ⟨g2, o2, none⟩ m.length cap hd hs cur.toArray t hg (m.map V8) (by rw [List.length_map]; show m.length = min m.length dl; omega) (fun j v hv => src_cell hcl j v hv) (by simpa using hfit) (one_v8 _) ?_
    rw [e]
    exact wpG_list_nil (hK _ _ S' h1 h2 (by rw [List.length_map]; exact h3))
end
theorem splice_hash {p : Pt} (hz : p.hash.length = 32) (h : Bs) (hh : h.length = 32) : splice (pcells p) 5 (h.map V8) = pcells { p with hash := h } := by
  have e : pcells p = pnums p ++ (p.hash.map V8 ++ p.ats.map U16) := rfl
  unfold splice
  rw [e, List.take_left' (by rfl), show 5 + (h.map V8).length = 5 + 32 by simp [hh], ← List.drop_drop, List.drop_left' (by rfl), List.drop_left' (by simp [hz])]
  rfl
theorem ats_set {p : Pt} (hh : p.hash.length = 32) (k x : Nat) : (pcells p).set (37 + k) (U16 x) = pcells { p with ats := p.ats.set k x } := by
  have e : ∀ q : Pt, pcells q = (pnums q ++ q.hash.map V8) ++ q.ats.map U16 := fun q => by simp [pcells]
  rw [e, e, List.set_append_right _ _ (by simp [hh, pnums])]
  rw [show 37 + k - (pnums p ++ p.hash.map V8).length = k by simp [hh, pnums], List.map_set]
  rfl
def Like (q : Pt) (l : Bs) : Prop := q.kind = (pt l).kind ∧ q.level = (pt l).level ∧ q.obj = (pt l).obj ∧ q.off = (pt l).off ∧ q.birth = (pt l).birth ∧ q.hash = (pt l).hash
theorem ats_at (l : Bs) (k : Nat) (hk : k < 4) : (pt l).ats[k]? = some (val ((l.drop (48 + 2 * k)).take 2)) := by
  match k, hk with
  | 0, _ | 1, _ | 2, _ | 3, _ => rfl
theorem like_all {q : Pt} {l : Bs} {xs : List Nat} (h : Like q l) (hx : xs.take 4 = (pt l).ats.take 4) (hl : xs.length = 4) : { q with ats := xs } = pt l := by
  obtain ⟨h1, h2, h3, h4, h5, h6⟩ := h
  have e : xs = (pt l).ats := by rw [List.take_of_length_le (by omega)] at hx; rw [hx]; rfl
  rw [h1, h2, h3, h4, h5, h6, e]
theorem take_set {xs ys : List Nat} {k x : Nat} (h : xs.take k = ys.take k) (hk : k < xs.length) (hy : ys[k]? = some x) : (xs.set k x).take (k + 1) = ys.take (k + 1) := by
  rw [val_take_one hy, ← h, List.take_succ_eq_append_getElem (by simpa using hk)]
  simp [List.take_set_of_le]
end Go.Proofs.YtmgagalhpkieoaaDoor
/- Pointers that are known. -/
namespace Go.Proofs.YtmgagalhpkieoaaDoor
open Go.RowKit

def k1 : Pt := ⟨1, 0, 7, 3, 9, List.replicate 32 0#8, [5, 0, 6, 0]⟩
theorem k1_ok : k1.OK := ⟨by simp [k1], by simp [k1], by simp [k1], by simp [k1], by simp [k1], by simp [k1], by simp [k1], by simp [k1]⟩
def zs : Bs := List.replicate 512 0#8
def z9 : Bs := List.replicate 9 0#8 ++ 1#8 :: List.replicate 502 0#8
theorem dg9 : decide (digest (tagB k1 ++ z9) = digest (tagB k1 ++ zs)) = false := by kernel_rfl
def k2 : Pt := sealP k1 zs
theorem k2_ok : k2.OK := sealP_ok k1_ok zs
theorem may1 : mayP k1 = true := by decide
theorem may0 : mayP zeroP = false := by decide
theorem may_seal (p : Pt) (bs : Bs) : mayP (sealP p bs) = mayP p := rfl
theorem may2 : mayP k2 = true := (may_seal k1 zs).trans may1
theorem ex_eqPs {ρ : Operand → Value} {o : Oper} {x y : Operand} {p : Pt} {w : World} (ho : o.op = .binOp .eql 28 x y 28) (hx : ρ x = .agg (pcells p).toArray) (hy : ρ y = .agg (pcells p).toArray) (hp : p.OK) : (execOp ρ o).run Tryd.prog w = .ok (.value (.bool true)) w := by
  have h := ex_eqP (w := w) ho hx hy hp hp
  rw [eqP_same] at h
  exact h
theorem ex_nePs {ρ : Operand → Value} {o : Oper} {x y : Operand} {p : Pt} {w : World} (ho : o.op = .binOp .neq 28 x y 28) (hx : ρ x = .agg (pcells p).toArray) (hy : ρ y = .agg (pcells p).toArray) (hp : p.OK) : (execOp ρ o).run Tryd.prog w = .ok (.value (.bool false)) w := by
  have h := ex_neP (w := w) ho hx hy hp hp
  rw [eqP_same] at h
  exact h
theorem taken_padB {p : Pt} (h : p.OK) (hm : mayP p = true) : takeE (padB p) 0 = 0 ∧ takenP (padB p) 0 = p := by
  have h1 := pt_padB h
  have hl := padB_length h
  have e : takeE (padB p) 0 = 0 := by
    unfold takeE
    rw [if_neg (by omega), if_neg (by omega), List.take_of_length_le (by omega), h1.2, h1.1, hm]
    simp
  exact ⟨e, by unfold takenP; rw [if_pos e, h1.1]⟩
theorem fits_seal (p : Pt) (bs cs : Bs) : fitsP (sealP p bs) cs = (decide (cs.length = 512) && decide (digest (tagB p ++ cs) = digest (tagB p ++ bs))) := rfl
theorem zs_len : zs.length = 512 := List.length_replicate
theorem z9_len : z9.length = 512 := by unfold z9; rw [List.length_append, List.length_cons, List.length_replicate, List.length_replicate]
theorem fits2 : fitsP k2 zs = true := by
  unfold k2
  rw [fits_seal, decide_eq_true zs_len, decide_eq_true rfl]
  rfl
theorem fits9 : fitsP k2 z9 = false := by
  unfold k2
  rw [fits_seal, dg9, Bool.and_false]
theorem zs_cells : (List.replicate 512 (Value.int .u8 0)) = zs.map V8 := by
  unfold zs
  rw [List.map_replicate]
  rfl
theorem z9_cells : (zs.map V8).set 9 (.int .u8 1) = z9.map V8 := by
  rw [show zs = List.replicate 9 0#8 ++ 0#8 :: List.replicate 502 0#8 by unfold zs; rw [← List.replicate_succ, List.replicate_append_replicate], List.map_append, List.map_cons, List.set_append_right _ _ (by rw [List.length_map, List.length_replicate]; omega), List.length_map, List.length_replicate]
  unfold z9
  rw [List.map_append, List.map_cons]
  rfl
theorem ex_mk512 {ρ : Operand → Value} {o : Oper} {w : World} (ho : o.op = .makeSlice 29 (.const (.int .i64 512)) (.const (.int .i64 512))) (h1 : ρ (.const (.int .i64 512)) = .int .i64 512) : (execOp ρ o).run Tryd.prog w = .ok (.value (.slice (some ⟨w.heap.size, 0, none⟩) 512 512)) (w.alloc (.cells (zs.map V8).toArray 5)) := by
  obtain ⟨i0, hi, hz0, hz1, hz2⟩ := info_parts infoB
  have hrun := run_make (P := Tryd.prog) w 29 5 i0 (.int .u8 0) Tryd.underlying29 hi hz0 .i64 .i64 512 512 (by omega) (by omega) (by rw [hz2]; decide) (by decide)
  have e : madeCells (Value.int .u8 0).cells (512 * i0.size) = (zs.map V8).toArray := by
    apply Array.toList_inj.1
    rw [hz1]
    show (madeCells #[Value.int .u8 0] 512).toList = _
    rw [toList_madeCells_one, ← zs_cells]
  unfold execOp
  simp [ho, h1, hrun, Result.andThen]
  exact congrArg (fun c => w.alloc (.cells c 5)) e
end Go.Proofs.YtmgagalhpkieoaaDoor
/- The mirror that is known, plain. -/
namespace Go.Proofs.YtmgagalhpkieoaaDoor
open Go.RowKit

def mw0 : Pt := ⟨2, 0, 3, 0, 0, List.replicate 32 0#8, [1, 2, 3, 4]⟩
theorem mw0_ok : mw0.OK := ⟨by simp [mw0], by simp [mw0], by simp [mw0], by simp [mw0], by simp [mw0], by simp [mw0], by simp [mw0], by simp [mw0]⟩
def mwb : Bs := d_full [7#8]
def mwz : Bs := d_full []
theorem mwb_len : mwb.length = 512 := full_length _
theorem mwz_len : mwz.length = 512 := full_length _
theorem mwdg : decide (digest (tagB mw0 ++ mwz) = digest (tagB mw0 ++ mwb)) = false := by kernel_rfl
def mwq : Pt := sealP mw0 mwb
theorem mwq_ok : mwq.OK := sealP_ok mw0_ok mwb
theorem mwmay : mayP mwq = true := (may_seal mw0 mwb).trans (by decide)
theorem mwfit : fitsP mwq mwb = true := by
  unfold mwq
  rw [fits_seal, decide_eq_true mwb_len, decide_eq_true rfl]
  rfl
theorem mwfitz : fitsP mwq mwz = false := by
  unfold mwq
  rw [fits_seal, mwdg, Bool.and_false]
theorem mwcps : copiesP mwq = [(0, 1), (0, 2), (1, 3), (1, 4)] := by rfl
theorem mwsame : eqP mwq mwq = true := eqP_same _
theorem gd_yes {x : Mi Dsk Sp} {c : Cpy} (h : readB (x.d c.1) x.p c.2 = some mwb) : gd kinD x mwq c = some mwb := by
  unfold gd
  show (match readB (x.d c.1) x.p c.2 with | some b => if fitsP mwq b then some b else none | none => none) = _
  rw [h]
  show (if fitsP mwq mwb then some mwb else none) = some mwb
  rw [mwfit]
  rfl
theorem gd_no {x : Mi Dsk Sp} {c : Cpy} (h : readB (x.d c.1) x.p c.2 = some mwz) : gd kinD x mwq c = none := by
  unfold gd
  show (match readB (x.d c.1) x.p c.2 with | some b => if fitsP mwq b then some b else none | none => none) = _
  rw [h]
  show (if fitsP mwq mwz then some mwz else none) = none
  rw [mwfitz]
  rfl
theorem gd_none {x : Mi Dsk Sp} {c : Cpy} (h : readB (x.d c.1) x.p c.2 = none) : gd kinD x mwq c = none := by
  unfold gd
  show (match readB (x.d c.1) x.p c.2 with | some b => if fitsP mwq b then some b else none | none => none) = _
  rw [h]
end Go.Proofs.YtmgagalhpkieoaaDoor
/- The mirror that is known, step by step. -/
namespace Go.Proofs.YtmgagalhpkieoaaDoor
open Go.RowKit

/-- The steps. -/
def mx1 : Mi Dsk Sp := (wrotes kinD (start 9) mwb [(0, 1), (0, 2), (1, 3), (1, 4)]).2
theorem mx1w : writeR kinD (start 9) mwq mwb = wrotes kinD (start 9) mwb [(0, 1), (0, 2), (1, 3), (1, 4)] := by
  unfold writeR
  rw [if_pos mwmay, if_pos mwfit, mwcps]
theorem mx1e : (writeR kinD (start 9) mwq mwb).1 = 0 := by rw [mx1w]; kernel_rfl
theorem mx1s : (writeR kinD (start 9) mwq mwb).2 = mx1 := by rw [mx1w]; rfl
def mx2 : Mi Dsk Sp := { mx1 with d := upk mx1.d 0 (ailed (mx1.d 0) 1 512 (rotK mwz)).2 }
def mx2w : Mi Dsk Sp := (wrote1 kinD (founds mx2 [(0, 1)]) mwb (0, 1)).2
def mx3 : Mi Dsk Sp := { mx2w with g := upk mx2.g 0 (mx2.g 0 + 1) }
theorem g2a : gd kinD mx2 mwq (0, 1) = none := gd_no (by kernel_rfl)
theorem g2b : gd kinD mx2 mwq (0, 2) = some mwb := gd_yes (by kernel_rfl)
theorem g2c : gd kinD mx2w mwq (0, 1) = some mwb := gd_yes (by kernel_rfl)
theorem dead2 : kinD.dead (mx2.d 0) = false := by kernel_rfl
theorem seen2 : seen kinD mx2 mwq false = [(0, 1), (0, 2)] := by
  simp [seen, mwcps, till, g2a, g2b]
theorem ill2 : ill kinD mx2 mwq [(0, 1), (0, 2)] = [(0, 1)] := by
  simp [ill, g2a, g2b, dead2]
theorem first2 : firstG kinD mx2 mwq [(0, 1), (0, 2)] = some mwb := by
  simp [firstG, g2a, g2b]
theorem mx3s : healS kinD mx2 mwq false = mx3 := by
  unfold healS endS
  rw [if_pos mwmay, seen2, first2, ill2]
  simp only [mends, List.foldl_cons, List.foldl_nil]
  unfold mend1
  have e : (wrote1 kinD (founds mx2 [(0, 1)]) mwb (0, 1)).2 = mx2w := by unfold mx2w; rfl
  rw [e, g2c, if_pos (show (some mwb).isSome = true from rfl)]
  unfold mx3
  rfl
theorem mx3b : healB kinD mx2 mwq false = some mwb := by
  unfold healB
  rw [if_pos mwmay, seen2, first2]
theorem mx3e : healE kinD mx2 mwq false = 0 := by
  unfold healE
  rw [if_pos mwmay, seen2, first2]
  rfl
theorem mx3l : look (mx3.d 0) 1 = some mwb := by kernel_rfl
def mx4 : Mi Dsk Sp := { mx3 with d := upk mx3.d 0 (ailed (mx3.d 0) 2 512 (fun k => { k with stuck := true })).2 }
def mx4w : Mi Dsk Sp := (wrote1 kinD (founds mx4 [(0, 2)]) mwb (0, 2)).2
def mx5 : Mi Dsk Sp := { mx4w with s := kinD.sick (founds mx4 [(0, 2)]).s 0 2, mv := addMv (founds mx4 [(0, 2)]).mv mwq }
theorem g4a : gd kinD mx4 mwq (0, 1) = some mwb := gd_yes (by kernel_rfl)
theorem g4b : gd kinD mx4 mwq (0, 2) = none := gd_none (by kernel_rfl)
theorem g4c : gd kinD mx4 mwq (1, 3) = some mwb := gd_yes (by kernel_rfl)
theorem g4d : gd kinD mx4 mwq (1, 4) = some mwb := gd_yes (by kernel_rfl)
theorem g4w : gd kinD mx4w mwq (0, 2) = none := gd_none (by kernel_rfl)
theorem dead4 : kinD.dead (mx4.d 0) = false := by kernel_rfl
theorem seen4 : seen kinD mx4 mwq true = [(0, 1), (0, 2), (1, 3), (1, 4)] := by
  simp [seen, mwcps]
theorem ill4 : ill kinD mx4 mwq [(0, 1), (0, 2), (1, 3), (1, 4)] = [(0, 2)] := by
  simp [ill, g4a, g4b, g4c, g4d, dead4]
theorem first4 : firstG kinD mx4 mwq [(0, 1), (0, 2), (1, 3), (1, 4)] = some mwb := by
  simp [firstG, g4a]
theorem mx5s : healS kinD mx4 mwq true = mx5 := by
  unfold healS endS
  rw [if_pos mwmay, seen4, first4, ill4]
  simp only [mends, List.foldl_cons, List.foldl_nil]
  unfold mend1
  have e : (wrote1 kinD (founds mx4 [(0, 2)]) mwb (0, 2)).2 = mx4w := by unfold mx4w; rfl
  rw [e, g4w, if_neg (show ¬ ((none : Option Bs).isSome = true) by simp)]
  unfold mx5
  rfl
theorem mx5e : healE kinD mx4 mwq true = 0 := by
  unfold healE
  rw [if_pos mwmay, seen4, first4]
  rfl
theorem mx5v : mx5.mv = [mwq] := by rfl
theorem mx5f : mx5.f 0 = 2 := by rfl
theorem mx5g : mx5.g 0 = 1 := by rfl
theorem mx5h0 : healthN mx5 0 = 1 := by kernel_rfl
theorem mx5h1 : healthN mx5 1 = 0 := by kernel_rfl
theorem mx5i : isS mx5.s 0 2 = true := by kernel_rfl
end Go.Proofs.YtmgagalhpkieoaaDoor
