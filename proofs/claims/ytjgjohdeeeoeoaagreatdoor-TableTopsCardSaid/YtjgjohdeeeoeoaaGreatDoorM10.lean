/- Take: what a reader reads as a pointer. -/
import Derived.Test.YtjgjohdeeeoeoaaGreatDoorM09
import Derived.Laws.CopyOwn
namespace Go.Proofs.YtjgjohdeeeoeoaaGreatDoor
open Go.RowKit
def Rs (l : Bs) (e k : Nat) (rest : Bs) (ee : Nat) : Prop := (ee = 0 ∧ e = 0 ∧ k ≤ l.length ∧ rest = l.drop k) ∨ (ee ≠ 0 ∧ ee = (if e = 0 then 4 else e) ∧ (e ≠ 0 ∨ l.length < 64) ∧ rest.length ≤ l.length)
theorem Rs.start (l : Bs) (e : Nat) : Rs l e 0 l e := by
  by_cases h : e = 0
  · exact .inl ⟨h, h, Nat.zero_le _, rfl⟩
  · exact .inr ⟨h, by rw [if_neg h], .inl h, Nat.le_refl _⟩
theorem Rs.len {l : Bs} {e k : Nat} {rest : Bs} {ee : Nat} (h : Rs l e k rest ee) : rest.length ≤ l.length := by
  rcases h with ⟨_, _, _, rfl⟩ | ⟨_, _, _, h⟩
  · simp
  · exact h
theorem Rs.next {l : Bs} {e k : Nat} {rest : Bs} {ee : Nat} (h : Rs l e k rest ee) (n : Nat) (hn : 0 < n) (hk : k + n ≤ 64) : Rs l e (k + n) (nextRes rest ee n).2.1 (nextRes rest ee n).2.2 ∧ ((nextRes rest ee n).2.2 = 0 → (nextRes rest ee n).1 = (l.drop k).take n) ∧ ((nextRes rest ee n).1.length = n ∨ (nextRes rest ee n).1 = []) := by
  rcases h with ⟨rfl, rfl, h2, rfl⟩ | ⟨h1, h2, h3, h4⟩
  · by_cases hs : l.length - k < n
    · have e1 : nextRes (l.drop k) 0 n = ([], l.drop k, 4) := by
        unfold nextRes
        rw [if_neg (by omega), if_pos (by rw [List.length_drop]; omega)]
      rw [e1]
      exact ⟨.inr ⟨by simp, by simp, .inr (by omega), by simp⟩, fun h => by simp at h, .inr rfl⟩
    · have e1 : nextRes (l.drop k) 0 n = ((l.drop k).take n, (l.drop k).drop n, 0) := by
        unfold nextRes
        rw [if_neg (by omega), if_neg (by rw [List.length_drop]; omega), Int.toNat_natCast]
      rw [e1]
      exact ⟨.inl ⟨rfl, rfl, by omega, by rw [List.drop_drop]⟩, fun _ => rfl, .inl (by simp; omega)⟩
  · have e1 : nextRes rest ee n = ([], rest, ee) := by
      unfold nextRes
      rw [if_pos (.inl h1)]
    rw [e1]
    exact ⟨.inr ⟨h1, h2, h3, h4⟩, fun h => absurd h h1, .inr rfl⟩
theorem Rs.num {l : Bs} {e k : Nat} {rest : Bs} {ee : Nat} (h : Rs l e k rest ee) (n : Nat) (hn : 0 < n) (hk : k + n ≤ 64) : ∃ x rest' ee', val (nextRes rest ee n).1 = x ∧ (nextRes rest ee n).2.1 = rest' ∧ (nextRes rest ee n).2.2 = ee' ∧ Rs l e (k + n) rest' ee' ∧ x < 2 ^ (8 * n) ∧ (ee' = 0 → x = val ((l.drop k).take n)) ∧ (ee' = 0 → ee = 0) := by
  obtain ⟨h1, h2, h3⟩ := h.next n hn hk
  refine ⟨_, _, _, rfl, rfl, rfl, h1, ?_, fun h0 => by rw [h2 h0], fun h0 => ?_⟩
  · refine Nat.lt_of_lt_of_le (val_lt _) (Nat.pow_le_pow_right (by omega) ?_)
    rcases h3 with h3 | h3 <;> simp [h3]
  · rcases Nat.eq_zero_or_pos ee with h4 | h4
    · exact h4
    · have : nextRes rest ee n = ([], rest, ee) := by unfold nextRes; rw [if_pos (.inl (by omega))]
      rw [this] at h0
      exact h0
theorem take_post {H : Nat} {K : Nat → Prop} {l : Bs} {e n : Nat} {k : IntKind} {w w' : World} {x : Ending} {v : Nat} {rest : Bs} {ee : Nat} (h : TakePost H K l e n k w x w') (e1 : val (nextRes l e n).1 = v) (e2 : (nextRes l e n).2.1 = rest) (e3 : (nextRes l e n).2.2 = ee) : x = .returned (.int k (v : Int)) ∧ RdAt w' H K rest ee ∧ ButFor H w w' := by
  subst e1 e2 e3
  exact h
def takeE (l : Bs) (e : Nat) : Nat := if e ≠ 0 then e else if l.length < 64 then 4 else if quietP (l.take 64) && (eqP (pt l) zeroP || mayP (pt l)) then 0 else 5
def takenP (l : Bs) (e : Nat) : Pt := if takeE l e = 0 then pt l else zeroP
theorem takeE_long {l : Bs} {e : Nat} (h : takeE l e = 0) : e = 0 ∧ 64 ≤ l.length := by
  unfold takeE at h
  split at h
  · rename_i h1; exact absurd h h1
  · rename_i h1
    split at h
    · cases h
    · rename_i h2; exact ⟨by omega, by omega⟩
theorem takenP_ok (l : Bs) (e : Nat) : (takenP l e).OK := by
  unfold takenP
  split
  · rename_i h; exact pt_ok (takeE_long h).2
  · exact zeroP_ok
theorem rs_end {l : Bs} {e : Nat} {rest : Bs} {ee : Nat} {p : Pt} (h : Rs l e 56 rest ee) (hp : ee = 0 → p = pt l) : (if (!eqP p zeroP && !mayP p) then badOf (nouOf rest ee 8).2 else (nouOf rest ee 8).2) = takeE l e ∧ (takeE l e = 0 → p = takenP l e ∧ (nouOf rest ee 8).1 = l.drop 64) := by
  rcases h with ⟨rfl, rfl, h2, rfl⟩ | ⟨h1, h2, h3, h4⟩
  · have hpt := hp rfl
    subst hpt
    by_cases hs : l.length < 64
    · have e1 : nouOf (l.drop 56) 0 8 = (l.drop 56, 4) := by
        unfold nouOf nextRes
        rw [if_neg (by omega), if_pos (by rw [List.length_drop]; omega)]
        rfl
      have e2 : takeE l 0 = 4 := by unfold takeE; rw [if_neg (by omega), if_pos hs]
      rw [e1, e2]
      exact ⟨by split <;> rfl, fun h => by cases h⟩
    · have hq : quietP (l.take 64) = ((l.drop 56).take 8).all (· == 0#8) := by unfold quietP; rw [List.drop_take]
      have e1 : nouOf (l.drop 56) 0 8 = (l.drop 64, if quietP (l.take 64) then 0 else 5) := by
        unfold nouOf nextRes
        rw [if_neg (by omega), if_neg (by rw [List.length_drop]; omega), hq]
        simp
      have e2 : takeE l 0 = if quietP (l.take 64) && (eqP (pt l) zeroP || mayP (pt l)) then 0 else 5 := by unfold takeE; rw [if_neg (by omega), if_neg hs]
      rw [e1, e2]
      refine ⟨?_, fun h => ⟨?_, rfl⟩⟩
      · cases quietP (l.take 64) <;> cases eqP (pt l) zeroP <;> cases mayP (pt l) <;> rfl
      · unfold takenP
        rw [e2, if_pos h]
  · have e1 : nouOf rest ee 8 = (rest, ee) := by
      unfold nouOf nextRes
      rw [if_pos (.inl h1)]
      rfl
    have e2 : takeE l e = ee := by
      unfold takeE
      rw [h2]
      by_cases he : e = 0
      · rw [if_neg (by omega), if_pos (by omega), if_pos he]
      · rw [if_pos he, if_neg he]
    rw [e1, e2]
    refine ⟨?_, fun h => absurd h h1⟩
    split
    · unfold badOf; rw [if_neg h1]
    · rfl
def numP (a b c d f : Nat) (hs : Bs) (xs : List Nat) : Pt := ⟨a, b, c, d, f, hs, xs⟩
structure TkR (w : World) (H : Nat) (K : Nat → Prop) (rest : Bs) (ee : Nat) (W : World) : Prop where
  res : Blk W w.heap.size (pcells zeroP) 28
  rd : RdAt W H K rest ee
  bf : ButFor H w W
  hH : H < w.heap.size
  hK : ∀ g, K g → g < w.heap.size
structure TkW (w : World) (H : Nat) (K : Nat → Prop) (G : Nat) (p : Pt) (rest : Bs) (ee : Nat) (W : World) : Prop where
  r : TkR w H K rest ee W
  an : Blk W G (pcells p) 28
  hG : w.heap.size < G
theorem TkR.start {w : World} {H : Nat} {K : Nat → Prop} {l : Bs} {e : Nat} (hR : RdAt w H K l e) (hK : ∀ g, K g → g < w.heap.size) (z : Array Value) (hz : z = (pcells zeroP).toArray) : TkR w H K l e (w.alloc (.cells z 28)) := by
  subst hz
  exact ⟨Blk.new _ _ _, hR.below ((Below.refl _ _).alloc (Nat.le_refl _) _) (Nat.le_refl _), (ButFor.refl _ _).alloc _, hR.lt, hK⟩
theorem TkR.read {w W W' : World} {H : Nat} {K : Nat → Prop} {rest rest' : Bs} {ee ee' : Nat} (h : TkR w H K rest ee W) (hr : RdAt W' H K rest' ee') (hb : ButFor H W W') : TkR w H K rest' ee' W' :=
  have := h.hH
  ⟨hb.blk h.res (by omega), hr, h.bf.trans hb, h.hH, h.hK⟩
theorem TkR.grown {w W W' : World} {H : Nat} {K : Nat → Prop} {rest : Bs} {ee : Nat} (h : TkR w H K rest ee W) (hb : Below W.heap.size W W') : TkR w H K rest ee W' :=
  ⟨h.res.below hb h.res.lt, h.rd.below hb (Nat.le_refl _), h.bf.trans (ButFor.of_below hb), h.hH, h.hK⟩
theorem TkW.read {w W W' : World} {H G : Nat} {K : Nat → Prop} {p : Pt} {rest rest' : Bs} {ee ee' : Nat} (h : TkW w H K G p rest ee W) (hr : RdAt W' H K rest' ee') (hb : ButFor H W W') : TkW w H K G p rest' ee' W' :=
  have h1 := h.r.hH
  have h2 := h.hG
  ⟨h.r.read hr hb, hb.blk h.an (by omega), h.hG⟩
theorem TkW.grown {w W W' : World} {H G : Nat} {K : Nat → Prop} {p : Pt} {rest : Bs} {ee : Nat} (h : TkW w H K G p rest ee W) (hb : Below W.heap.size W W') : TkW w H K G p rest ee W' :=
  ⟨h.r.grown hb, h.an.below hb h.an.lt, h.hG⟩
theorem TkW.store {w W W' : World} {H G : Nat} {K : Nat → Prop} {p p' : Pt} {rest : Bs} {ee : Nat} (h : TkW w H K G p rest ee W) (hr : Blk W' G (pcells p') 28) (hb : ButFor G W W') : TkW w H K G p' rest ee W' :=
  have h1 := h.r.hH
  have h2 := h.hG
  ⟨⟨hb.blk h.r.res (by omega), h.r.rd.other hb (by omega) (fun hk => by have := h.r.hK _ hk; omega), ⟨hb.os.trans h.r.bf.os, hb.tape.trans h.r.bf.tape, hb.output.trans h.r.bf.output, Nat.le_trans h.r.bf.size hb.size, fun k hk hn => (hb.block k (Nat.lt_of_lt_of_le hk h.r.bf.size) (by omega)).trans (h.r.bf.block k hk hn)⟩, h1, h.r.hK⟩, hr, h.hG⟩
theorem TkW.start {w W : World} {H : Nat} {K : Nat → Prop} {rest : Bs} {ee : Nat} (h : TkR w H K rest ee W) (z : Array Value) (p : Pt) : TkW w H K W.heap.size p rest ee ((W.alloc (.cells z 28)).setRow W.heap.size (pcells p).toArray) := by
  have hz : Below W.heap.size W ((W.alloc (.cells z 28)).setRow W.heap.size (pcells p).toArray) := below_row ((Below.refl _ _).alloc (Nat.le_refl _) _) (Nat.le_refl _) _
  exact ⟨h.grown hz, Blk.row (Blk.new' W z z.toList 28 _ rfl (by simp)) _, h.res.lt⟩
theorem TkR.result {w W : World} {H : Nat} {K : Nat → Prop} {rest : Bs} {ee : Nat} (h : TkR w H K rest ee W) (cs : Array Value) : RdAt (W.setRow w.heap.size cs) H K rest ee ∧ ButFor H w (W.setRow w.heap.size cs) := by
  have h1 := h.hH
  refine ⟨h.rd.other (J := w.heap.size) ⟨rfl, rfl, rfl, by simp, fun k _ hn => setRow_other W w.heap.size k cs hn⟩ (by omega) (fun hk => by have := h.hK _ hk; omega), ?_⟩
  exact ⟨h.bf.os, h.bf.tape, h.bf.output, by simpa using h.bf.size, fun k hk hn => (setRow_other W w.heap.size k cs (by omega)).trans (h.bf.block k hk hn)⟩
theorem butFor_row {g : Nat} {w : World} (cs : Array Value) : ButFor g w (w.setRow g cs) := ⟨rfl, rfl, rfl, by simp, fun k _ hn => setRow_other w g k cs hn⟩
theorem wpL_valG {ops : Array Oper} {rest : List Oper} {o : Oper} {a : Act} {Q : Exit → Act → World → Prop} {w w' : World} {v : Value} (hw : Region.wanted o (yielded ops a.tmps) = true) (hrun : (execOp a.eval o).run Tryz.prog w = .ok (.value v) w')
    (hK : wpList Tryz.prog ops Q rest (a.put o.dst v) w') : wpList Tryz.prog ops Q (o :: rest) a w := by
  unfold wpList
  rw [if_pos hw]
  refine .inl ?_
  unfold Oper.wp
  rw [hrun]
  exact hK
section
variable {ops : Array Oper} {Q : Exit → Act → World → Prop} {S : World → Prop}
theorem wpG_copyE {i : Nat} {r : Tr} {a : Act} {w : World} (o : Oper) (hi : ops.toList[i]? = some o) (hw : Region.wanted o (yielded ops a.tmps) = true) (d s : Operand)
    (ho : o.op = .call { callee := .builtin .copy, args := #[d, s], argTypes := #[29, 29] }) {g off dl dc cap : Nat} {sp : Option Addr} {m : Bs} (hd : a.eval d = .slice (some ⟨g, off, none⟩) dl dc) (hs : a.eval s = .slice sp m.length cap) (hm : m.length ≤ dl) (hsrc : SrcA w sp m)
    {cur : List Value} {t : TypeId} (hg : Blk w g cur t) (hfit : off + m.length ≤ cur.length)
    (h : ∀ W' gv, Blk W' g (splice cur off (m.map V8)) t → ButFor g w W' → ∃ S' : World → Prop, (∀ w, S' w → S w) ∧ S' W' ∧ wpG Tryz.prog ops Q r S' (a.put o.dst gv) W') : wpG Tryz.prog ops Q (.step i r) S a w := by
  refine wpG_bare o hi hw fun K hK => ?_
  rcases Nat.eq_zero_or_pos m.length with h0 | h0
  · have hm0 : m = [] := List.eq_nil_of_length_eq_zero h0
    subst hm0
    obtain ⟨S', h1, h2, h3⟩ := h w (goInt 0) (by simpa [splice] using hg) (ButFor.refl _ _)
    refine wpList_copy_nothing rfl d s 29 29 ho 5 Tryz.underlying29 sizeB _ sp dl dc 0 cap hd hs (by simp) ?_
    exact wpG_list_nil (hK _ _ S' h1 h2 h3)
  · obtain ⟨g2, o2, rfl, hg2, hcl⟩ := hsrc h0
    have e : (cur.toArray.toList.take off ++ (m.map V8 ++ cur.toArray.toList.drop (off + (m.map V8).length))) = splice cur off (m.map V8) := by simp [splice]
    obtain ⟨S', h1, h2, h3⟩ := h (w.setRow g (splice cur off (m.map V8)).toArray) (goInt m.length) (hg.row _) (butFor_row _)
    refine wpList_copy_own rfl d s 29 29 ho 5 Tryz.underlying29 sizeB g off dl dc ⟨g2, o2, none⟩ m.length cap hd hs cur.toArray t hg (m.map V8) (by rw [List.length_map]; show m.length = min m.length dl; omega) (fun j v hv => src_cell hcl j v hv) (by simpa using hfit) (one_v8 _) ?_
    rw [e]
    exact wpG_list_nil (hK _ _ S' h1 h2 (by rw [List.length_map]; exact h3))
end
theorem splice_hash {p : Pt} (hz : p.hash.length = 32) (h : Bs) (hh : h.length = 32) : splice (pcells p) 5 (h.map V8) = pcells { p with hash := h } := by
  have e : pcells p = pnums p ++ (p.hash.map V8 ++ p.ats.map U16) := rfl
  unfold splice
  rw [e, List.take_left' (by rfl), show 5 + (h.map V8).length = 5 + 32 by simp [hh], ← List.drop_drop, List.drop_left' (by rfl), List.drop_left' (by simp [hz])]
  rfl
theorem ats_set {p : Pt} (hh : p.hash.length = 32) (k x : Nat) : (pcells p).set (37 + k) (U16 x) = pcells { p with ats := p.ats.set k x } := by
  have e : ∀ q : Pt, pcells q = (pnums q ++ q.hash.map V8) ++ q.ats.map U16 := fun q => by simp [pcells]
  rw [e, e, List.set_append_right _ _ (by simp [hh, pnums])]
  rw [show 37 + k - (pnums p ++ p.hash.map V8).length = k by simp [hh, pnums], List.map_set]
  rfl
def Like (q : Pt) (l : Bs) : Prop := q.kind = (pt l).kind ∧ q.level = (pt l).level ∧ q.obj = (pt l).obj ∧ q.off = (pt l).off ∧ q.birth = (pt l).birth ∧ q.hash = (pt l).hash
def TaRel (l : Bs) (e : Nat) (w : World) (H : Nat) (K : Nat → Prop) (G : Nat) (q : Pt) (i : Value) (wr : World) : Prop :=
  ∃ (k : Nat) (xs : List Nat) (rest : Bs) (ee : Nat), k ≤ 4 ∧ i = .int .i64 (k : Int) ∧ xs.length = 4 ∧ (∀ x ∈ xs, x < 65536) ∧ Rs l e (48 + 2 * k) rest ee ∧ (ee = 0 → Like q l ∧ xs.take k = (pt l).ats.take k) ∧ TkW w H K G { q with ats := xs } rest ee wr
theorem ats_at (l : Bs) (k : Nat) (hk : k < 4) : (pt l).ats[k]? = some (val ((l.drop (48 + 2 * k)).take 2)) := by
  match k, hk with
  | 0, _ | 1, _ | 2, _ | 3, _ => rfl
theorem like_all {q : Pt} {l : Bs} {xs : List Nat} (h : Like q l) (hx : xs.take 4 = (pt l).ats.take 4) (hl : xs.length = 4) : { q with ats := xs } = pt l := by
  obtain ⟨h1, h2, h3, h4, h5, h6⟩ := h
  have e : xs = (pt l).ats := by rw [List.take_of_length_le (by omega)] at hx; rw [hx]; rfl
  rw [h1, h2, h3, h4, h5, h6, e]
theorem take_set {xs ys : List Nat} {k x : Nat} (h : xs.take k = ys.take k) (hk : k < xs.length) (hy : ys[k]? = some x) : (xs.set k x).take (k + 1) = ys.take (k + 1) := by
  rw [val_take_one hy, ← h, List.take_succ_eq_append_getElem (by simpa using hk)]
  simp [List.take_set_of_le]
theorem nouOf_le (l : Bs) (e : Nat) (n : Int) : (nouOf l e n).1.length ≤ l.length := by
  unfold nouOf nextRes
  split
  · exact Nat.le_refl _
  · split
    · exact Nat.le_refl _
    · simp
set_option maxRecDepth 100000 in
set_option maxHeartbeats 8000000 in
theorem ptrTake_len (l : Bs) (e H : Nat) {K : Nat → Prop} (w : World) (hR : RdAt w H K l e) (hK : ∀ g, K g → g < w.heap.size) (hl : l.length ≤ 100000) (hT : RTab w) (hg : 0 ≠ H) :
    Calls Tryz.prog 28 #[.pointer (some ⟨H, 0, none⟩)] w fun x w' => x = .returned (.agg (pcells (takenP l e)).toArray) ∧ (∃ rest, RdAt w' H K rest (takeE l e) ∧ (takeE l e = 0 → rest = l.drop 64) ∧ rest.length ≤ l.length) ∧ ButFor H w w' := by
  have HL := Lib.hid hl
  have HT := Lib.hid hT
  have HGH := Lib.hid hg
  obtain ⟨pe, hpe⟩ : ∃ t, takeE l e = t := ⟨_, rfl⟩
  obtain ⟨tp, htp⟩ : ∃ t, takenP l e = t := ⟨_, rfl⟩
  have HTP : Hid (tp.OK) := Lib.hid (by rw [← htp]; exact takenP_ok l e)
  rw [hpe, htp]
  have HPE := Lib.hid hpe
  have HTPE := Lib.hid htp
  have HST : Hid (∀ z, z = (pcells zeroP).toArray → TkR w H K l e (w.alloc (.cells z 28))) := Lib.hid (fun z hz => TkR.start hR hK z hz)
  have HR0 := Lib.hid (Rs.start l e)
  clear hR hK hl hT hg hpe htp
  go_enter Tryz.func28, Tryz.ntmps28
  go_upto_region 1 with fail
  refine (fun (k : ∀ W, TkR w H K l e W → Code.wp _ _ _ _ W) => k _ (HST.out _ rfl)) ?_
  intro W0 hw
  have HW0 := Lib.hid hw
  clear hw HST
  go_wp2_with fail
  refine (ru8_any H l e W0 HW0.out.rd).mono ?_
  intro x0 W1 hh
  obtain ⟨a, r1, e1, q1, q2, q3, q4, q5, q6, q7⟩ := HR0.out.num 1 (by omega) (by omega)
  obtain ⟨rfl, q8, q9⟩ := take_post hh q1 q2 q3
  have HW1 := Lib.hid (HW0.out.read q8 q9)
  have HR1 := Lib.hid q4
  have HX0 := Lib.hid q5
  have HV0 : Hid (e1 = 0 → a = (pt l).kind ∧ e = 0) := Lib.hid (fun h => ⟨q6 h, q7 h⟩)
  clear hh q1 q2 q3 q4 q5 q6 q7 q8 q9 HW0 HR0
  go_wp2_with fail
  refine (ru8_any H r1 e1 W1 HW1.out.rd).mono ?_
  intro x1 W2 hh
  obtain ⟨b, r2, e2, q1, q2, q3, q4, q5, q6, q7⟩ := HR1.out.num 1 (by omega) (by omega)
  obtain ⟨rfl, q8, q9⟩ := take_post hh q1 q2 q3
  have HW2 := Lib.hid (HW1.out.read q8 q9)
  have HR2 := Lib.hid q4
  have HX1 := Lib.hid q5
  have HV1 : Hid (e2 = 0 → b = (pt l).level ∧ e1 = 0) := Lib.hid (fun h => ⟨q6 h, q7 h⟩)
  clear hh q1 q2 q3 q4 q5 q6 q7 q8 q9 HW1 HR1
  go_wp2_with fail
  refine (ru16_any H r2 e2 W2 HW2.out.rd).mono ?_
  intro x2 W3 hh
  obtain ⟨c, r3, e3, q1, q2, q3, q4, q5, q6, q7⟩ := HR2.out.num 2 (by omega) (by omega)
  obtain ⟨rfl, q8, q9⟩ := take_post hh q1 q2 q3
  have HW3 := Lib.hid (HW2.out.read q8 q9)
  have HR3 := Lib.hid q4
  have HX2 := Lib.hid q5
  have HV2 : Hid (e3 = 0 → c = (pt l).obj ∧ e2 = 0) := Lib.hid (fun h => ⟨q6 h, q7 h⟩)
  clear hh q1 q2 q3 q4 q5 q6 q7 q8 q9 HW2 HR2
  go_wp2_with fail
  refine (ru32_any H r3 e3 W3 HW3.out.rd).mono ?_
  intro x3 W4 hh
  obtain ⟨d, r4, e4, q1, q2, q3, q4, q5, q6, q7⟩ := HR3.out.num 4 (by omega) (by omega)
  obtain ⟨rfl, q8, q9⟩ := take_post hh q1 q2 q3
  have HW4 := Lib.hid (HW3.out.read q8 q9)
  have HR4 := Lib.hid q4
  have HX3 := Lib.hid q5
  have HV3 : Hid (e4 = 0 → d = (pt l).off ∧ e3 = 0) := Lib.hid (fun h => ⟨q6 h, q7 h⟩)
  clear hh q1 q2 q3 q4 q5 q6 q7 q8 q9 HW3 HR3
  go_wp2_with fail
  refine (ru64_any H r4 e4 W4 HW4.out.rd).mono ?_
  intro x4 W5 hh
  obtain ⟨f, r5, e5, q1, q2, q3, q4, q5, q6, q7⟩ := HR4.out.num 8 (by omega) (by omega)
  obtain ⟨rfl, q8, q9⟩ := take_post hh q1 q2 q3
  have HW5 := Lib.hid (HW4.out.read q8 q9)
  have HR5 := Lib.hid q4
  have HX4 := Lib.hid q5
  have HV4 : Hid (e5 = 0 → f = (pt l).birth ∧ e4 = 0) := Lib.hid (fun h => ⟨q6 h, q7 h⟩)
  clear hh q1 q2 q3 q4 q5 q6 q7 q8 q9 HW4 HR4
  obtain ⟨q0, hq0⟩ : ∃ q0, q0 = numP a b c d f (List.replicate 32 0#8) [0, 0, 0, 0] := ⟨_, rfl⟩
  have hq0ok : q0.OK := by
    subst hq0
    exact ⟨HX0.out, HX1.out, HX2.out, HX3.out, HX4.out, by simp [numP], by simp [numP], by simp [numP]⟩
  have HQ0 := Lib.hid hq0
  have HQ0K := Lib.hid hq0ok
  have HC0 : Hid ((pcells (numP a b c d f (List.replicate 32 0#8) [0, 0, 0, 0])).toArray = (pcells q0).toArray) := Lib.hid (by rw [hq0])
  have HSZ := Lib.hid (size_pc hq0ok)
  have HLQ : Hid ((pcells q0).toArray.size = 41) := Lib.hid (by rw [List.size_toArray, pcells_length hq0ok])
  clear hq0 hq0ok
  go_wp2_with (first | (refine wpList_build' rfl 28 _ rfl (pcells (numP a b c d f (List.replicate 32 0#8) [0, 0, 0, 0])).toArray (by kernel_rfl) ?_; rw [HC0.out]) | (refine wpList_store_row rfl 28 (.tmp 3) (.tmp 15) rfl W5.heap.size (pcells q0).toArray rfl rfl 28 _ (heap_alloc_new W5 _) HSZ.out (by rw [HLQ.out]; rfl) (one_pc q0) ?_) | fail)
  refine (fun (k : ∀ W, TkW w H K W5.heap.size q0 r5 e5 W → Code.wp _ _ _ _ W) => k _ (TkW.start HW5.out _ _)) ?_
  intro W6 hw
  obtain ⟨G, hG⟩ : ∃ G, W5.heap.size = G := ⟨_, rfl⟩
  rw [hG] at hw ⊢
  have HW6 := Lib.hid hw
  clear hw hG HW5 HSZ HC0
  refine gS (.take 0 (.take 1 (.take 2 (.step 3 (.step 4 (.nil)))))) (fun _ => True) trivial ?_
  refine wpG_take _ (.pointer (some ⟨G, 5, none⟩)) rfl (by rfl) (fun X hX => ex_faP 5 5 (by omega) rfl rfl) ?_; try simp only [pS]
  refine wpG_take _ (.slice (some ⟨G, 5, none⟩) 32 32) rfl (by rfl) (fun X hX => ex_slH rfl rfl) ?_; try simp only [pS]
  refine gT (.pointer (some ⟨H, 0, none⟩)) ?_; try simp only [pS]
  refine wpG_call _ rfl (by rfl) 57 #[.pointer (some ⟨H, 0, none⟩), .int .i64 32] (fun _ => by go_simp) (fun u w' => RawPost H K r5 e5 32 W6.drew (.returned u) w') ((raw_any H r5 e5 32 W6.drew (Nat.le_trans HR5.out.len HL.out) (HW6.out.r.rd.below (Below.refl _ _).drew (Nat.le_refl _))).mono fun e w' hh => by obtain ⟨v, rfl, h2⟩ := hh; exact ⟨v, rfl, trivial, v, rfl, h2⟩) ?_
  rintro u W7 - ⟨v, e, ho, hrd, hbf⟩
  cases e
  obtain ⟨t1, t2, t3⟩ := HR5.out.next 32 (by omega) (by omega)
  have t4 : (nextRes r5 e5 ((32 : Nat) : Int)).2.2 = 0 → e5 = 0 := by
    obtain ⟨_, _, _, _, _, u3, _, _, _, u7⟩ := HR5.out.num 32 (by omega) (by omega)
    intro h
    rw [u3] at h
    exact u7 h
  rw [show ((32 : Nat) : Int) = (32 : Int) from rfl] at t1 t2 t3 t4
  obtain ⟨m, hm⟩ : ∃ m, (nextRes r5 e5 32).1 = m := ⟨_, rfl⟩
  obtain ⟨r6, hr6⟩ : ∃ m, (nextRes r5 e5 32).2.1 = m := ⟨_, rfl⟩
  obtain ⟨e6, he6⟩ : ∃ m, (nextRes r5 e5 32).2.2 = m := ⟨_, rfl⟩
  rw [hm] at t2 t3 ho
  rw [hr6] at t1 hrd
  rw [he6] at t1 t2 t4 hrd
  obtain ⟨sp5, cp5, e55, s1, s2, s3, -⟩ := OwnB.form ho
  subst e55
  have hW7 := HW6.out.read hrd ((ButFor.refl _ _).drew.trans hbf)
  refine ⟨_, fun _ h => h, trivial, ?_⟩; try simp only [pS]
  refine wpG_copyE _ rfl (by rfl) (.tmp 17) (.tmp 19) rfl (m := m) (sp := sp5) (cap := cp5) rfl rfl (by rcases t3 with h | h <;> simp [h]) s3 hW7.an (by rw [pcells_length HQ0K.out]; rcases t3 with h | h <;> simp [h]) ?_
  intro W8 gv hb8 hbf8
  refine ⟨fun _ => True, fun _ _ => trivial, trivial, ?_⟩; try simp only [pS]
  refine wpG_nil ?_
  obtain ⟨q, hq, hqok, hql⟩ : ∃ q : Pt, splice (pcells q0) 5 (m.map V8) = pcells q ∧ q.OK ∧ (e6 = 0 → Like q l) ∧ q = { q with ats := [0, 0, 0, 0] } := by
    rcases t3 with h | h
    · refine ⟨{ q0 with hash := m }, splice_hash HQ0K.out.hash m h, ⟨HQ0K.out.kind, HQ0K.out.level, HQ0K.out.obj, HQ0K.out.off, HQ0K.out.birth, h, HQ0K.out.len, HQ0K.out.ats⟩, fun h0 => ?_, by rw [HQ0.out]; rfl⟩
      have v4 := HV4.out (t4 h0)
      have v3 := HV3.out v4.2
      have v2 := HV2.out v3.2
      have v1 := HV1.out v2.2
      have v0 := HV0.out v1.2
      rw [HQ0.out]
      exact ⟨v0.1, v1.1, v2.1, v3.1, v4.1, t2 h0⟩
    · refine ⟨q0, ?_, HQ0K.out, fun h0 => ?_, by rw [HQ0.out]; rfl⟩
      · rw [h]; simp [splice]
      · exfalso
        have h1 := t2 h0
        rw [h] at h1
        rcases t1 with ⟨_, _, h2, _⟩ | ⟨h2, _⟩
        · have := congrArg List.length h1
          simp at this
          omega
        · exact h2 h0
  rw [hq] at hb8
  have HR := Lib.hid (show TaRel l e w H K G q (.int .i64 0) W8 from ⟨0, [0, 0, 0, 0], r6, e6, by omega, rfl, rfl, by simp, t1, fun h0 => ⟨hql.1 h0, rfl⟩, by rw [← hql.2]; exact hW7.store hb8 hbf8⟩)
  have HQ := Lib.hid hqok
  clear hb8 hbf8 hW7 s1 s2 s3 ho hrd hbf t1 t2 t3 t4 hm hr6 he6 hq hqok hql HV0 HV1 HV2 HV3 HV4 HX0 HX1 HX2 HX3 HX4 HQ0 HQ0K HR5 HW6
  go_wp2_with fail
  go_loopw [21] (fun i wr => TaRel l e w H K G q i wr) (fun i _ => 4 - (intOf i).toNat)
  case atStart => exact HR.out
  case round =>
    clear HR
    obtain ⟨k, xs, rest, ee, hk, rfl, hxl, hxb, hrs, hlk, hT⟩ := hrel
    have HTW := Lib.hid hT
    have HRS := Lib.hid hrs
    have HXL := Lib.hid hxl
    have HXB := Lib.hid hxb
    have HLK := Lib.hid hlk
    clear hT hrs hxl hxb hlk
    have wk1 := IntWalk.i64_in ((k : Int) + 1) (by omega)
    by_cases hlt : k < 4
    · go_wp2_with fail
      refine (ru16_any H rest ee wr HTW.out.r.rd).mono ?_
      intro x7 w7 hh
      obtain ⟨x, r7, e7, q1, q2, q3, q4, q5, q6, q7⟩ := HRS.out.num 2 (by omega) (by omega)
      obtain ⟨rfl, q8, q9⟩ := take_post hh q1 q2 q3
      have HT7 := Lib.hid (HTW.out.read q8 q9)
      have HQK : Hid ({ q with ats := xs } : Pt).OK := Lib.hid ⟨HQ.out.kind, HQ.out.level, HQ.out.obj, HQ.out.off, HQ.out.birth, HQ.out.hash, HXL.out, HXB.out⟩
      obtain ⟨y, hy⟩ := HT7.out.an.has (37 + k) (by rw [pcells_length HQK.out]; omega)
      have fy := HT7.out.an.free (37 + k)
      have hst : TkW w H K G { q with ats := xs.set k x } r7 e7 (w7.setCell ⟨G, 37 + k, none⟩ (.int .u16 (x : Int))) := by
        have h8 := HT7.out.an.set (37 + k) (U16 x)
        rw [ats_set (p := { q with ats := xs }) HQ.out.hash k x] at h8
        exact HT7.out.store h8 ((ButFor.refl _ _).set _ _)
      have HR2 := Lib.hid (show TaRel l e w H K G q (.int .i64 ((k : Int) + 1)) (w7.setCell ⟨G, 37 + k, none⟩ (.int .u16 (x : Int))) from ⟨k + 1, xs.set k x, r7, e7, by omega, by go_num, by rw [List.length_set]; exact HXL.out, fun z hz => by
        rcases List.mem_or_eq_of_mem_set hz with h | h
        · exact HXB.out z h
        · rw [h]; exact q5, q4, fun h0 => ⟨(HLK.out (q7 h0)).1, take_set (HLK.out (q7 h0)).2 (by rw [HXL.out]; exact hlt) (by rw [q6 h0]; exact ats_at l k hlt)⟩, hst⟩)
      clear hh q1 q2 q3 q4 q5 q6 q7 q8 q9 hst
      go_wp2_with fail
      go_roundw
      case rel => exact HR2.out
      case measure => simp [intOf]; omega
    · obtain rfl : k = 4 := by omega
      obtain ⟨p, hp⟩ : ∃ p : Pt, p = { q with ats := xs } := ⟨_, rfl⟩
      have hpo : p.OK := by subst hp; exact ⟨HQ.out.kind, HQ.out.level, HQ.out.obj, HQ.out.off, HQ.out.birth, HQ.out.hash, HXL.out, HXB.out⟩
      have hT2 := HTW.out
      rw [← hp] at hT2
      have HTP2 := Lib.hid hT2
      have HPO := Lib.hid hpo
      have HEND := Lib.hid (rs_end (p := p) HRS.out (fun h0 => by rw [hp]; exact like_all (HLK.out h0).1 (HLK.out h0).2 HXL.out))
      have HRL := Lib.hid (Nat.le_trans HRS.out.len HL.out)
      have HRS9 := Lib.hid HRS.out.len
      clear hp hpo hT2 HTW HRS HXL HXB HLK HQ hlt hk
      rw [show ((4 : Nat) : Int) = (4 : Int) from rfl]
      go_wp2_with fail
      refine (noughts_any H rest ee 8 wr HRL.out HTP2.out.r.rd).mono ?_
      rintro x8 w8 ⟨rfl, hr8, hb8⟩
      obtain ⟨r9, hr9⟩ : ∃ m, (nouOf rest ee 8).1 = m := ⟨_, rfl⟩
      obtain ⟨e9, he9⟩ : ∃ m, (nouOf rest ee 8).2 = m := ⟨_, rfl⟩
      have hend := HEND.out
      rw [he9, hr9, HPE.out] at hend
      rw [hr9, he9] at hr8
      have HR9 : Hid (r9.length ≤ l.length) := Lib.hid (by rw [← hr9]; exact Nat.le_trans (nouOf_le _ _ _) HRS9.out)
      have HE1 := Lib.hid hend.1
      have HE2 := Lib.hid hend.2
      have HW8 := Lib.hid (HTP2.out.read hr8 hb8)
      clear hr8 hb8 hr9 he9 hend HEND HRL HTP2
      have HT8 : Hid (RTab w8) := Lib.hid (HT.out.of_heap (HW8.out.r.bf.block _ HT.out.lt HGH.out))
      have HZ1 : Hid ((pcells zeroP).toArray.size = (pcells tp).toArray.size) := Lib.hid (by rw [List.size_toArray, List.size_toArray, pcells_length HTP.out, pcells_length zeroP_ok])
      have HSP := Lib.hid (size_pc HPO.out)
      have HST := Lib.hid (size_pc HTP.out)
      have HLP := Lib.hid (pcells_length HPO.out)
      have HAN : Hid (Blk w8 G (pcells p) 28) := Lib.hid HW8.out.an
      cases hez : eqP p zeroP
      · have HEZ := Lib.hid hez
        clear hez
        go_wp2_with (first | (refine wpL_valG (by rfl) (ex_ld (ty := 28) (cs := pcells p) rfl rfl (rng_all HAN.out) Tryz.underlying28 rfl (by rw [sizeP, HLP.out])) ?_) | (refine wpL_val rfl (ex_bld0 rfl) ?_) | (refine wpL_val rfl (ex_neP (p := p) (q := zeroP) rfl rfl rfl HPO.out zeroP_ok) ?_; rw [HEZ.out]) | fail)
        refine (may_any p HPO.out w8 HT8.out).mono ?_
        rintro x9 w9 ⟨rfl, hb9⟩
        have HW9 := Lib.hid (HW8.out.grown hb9)
        have HAN9 : Hid (Blk w9 G (pcells p) 28) := Lib.hid HW9.out.an
        clear hb9
        cases hmm : mayP p
        · have hpe : pe = badOf e9 := by have := HE1.out; rw [HEZ.out, hmm] at this; exact this.symm
          have HPB := Lib.hid hpe
          clear hpe hmm
          go_wp2_with fail
          refine (bad_any H r9 e9 w9 HW9.out.r.rd).mono ?_
          rintro x10 w10 ⟨rfl, hr10, hb10⟩
          rw [← HPB.out] at hr10
          have HW10 := Lib.hid (HW9.out.read hr10 hb10)
          have HAN10 : Hid (Blk w10 G (pcells p) 28) := Lib.hid HW10.out.an
          clear hr10 hb10
          go_wp2_with fail
          refine (err_any H r9 pe _ HW10.out.r.rd).mono ?_
          rintro x9 w9 ⟨rfl, rfl⟩
          by_cases h0 : pe = 0
          · have hp : p = tp := by rw [(HE2.out h0).1]; exact HTPE.out
            have hr : r9 = l.drop 64 := (HE2.out h0).2
            have HHP := Lib.hid hp
            have HHR := Lib.hid hr
            have h0' : (pe : Int) = 0 := by omega
            have HR := Lib.hid (HW10.out.r.result (pcells tp).toArray)
            have HRS := Lib.hid HW10.out.r.res
            clear h0 hp hr
            go_wp2_with (first | (refine wpL_valG (by rfl) (ex_ld (ty := 28) (cs := pcells p) rfl rfl (rng_all HAN10.out) Tryz.underlying28 rfl (by rw [sizeP, HLP.out])) ?_) | (refine wpList_store_row rfl 28 (.tmp 2) (.tmp 46) rfl w.heap.size (pcells tp).toArray rfl (by rw [← HHP.out]; rfl) 28 _ HRS.out HST.out HZ1.out (one_pc tp) ?_) | fail)
            exact bodyPost_ret (results_cell_row Tryz.results28 _ _ w.heap.size 28 _ _ _ rfl (HRS.out.row _) Tryz.underlying28 rfl HST.out) rfl ⟨rfl, ⟨r9, HR.out.1, fun _ => HHR.out, HR9.out⟩, HR.out.2⟩
          · have hp : zeroP = tp := by have := HTPE.out; unfold takenP at this; rw [HPE.out, if_neg h0] at this; exact this
            have HHP := Lib.hid hp
            have HH0 := Lib.hid h0
            have h0' : ¬ (pe : Int) = 0 := by omega
            have HR := Lib.hid (HW10.out.r.result (pcells tp).toArray)
            have HRS := Lib.hid HW10.out.r.res
            clear h0 hp
            go_wp2_with (first | (refine wpL_val rfl (ex_bld0 rfl) ?_) | (refine wpList_store_row rfl 28 (.tmp 2) (.tmp 45) rfl w.heap.size (pcells tp).toArray rfl (by rw [← HHP.out]; rfl) 28 _ HRS.out HST.out HZ1.out (one_pc tp) ?_) | fail)
            exact bodyPost_ret (results_cell_row Tryz.results28 _ _ w.heap.size 28 _ _ _ rfl (HRS.out.row _) Tryz.underlying28 rfl HST.out) rfl ⟨rfl, ⟨r9, HR.out.1, fun h => absurd h HH0.out, HR9.out⟩, HR.out.2⟩
        · have hpe : pe = e9 := by have := HE1.out; rw [HEZ.out, hmm] at this; exact this.symm
          subst hpe
          clear hmm
          go_wp2_with fail
          refine (err_any H r9 pe _ HW9.out.r.rd).mono ?_
          rintro x9 w9 ⟨rfl, rfl⟩
          by_cases h0 : pe = 0
          · have hp : p = tp := by rw [(HE2.out h0).1]; exact HTPE.out
            have hr : r9 = l.drop 64 := (HE2.out h0).2
            have HHP := Lib.hid hp
            have HHR := Lib.hid hr
            have h0' : (pe : Int) = 0 := by omega
            have HR := Lib.hid (HW9.out.r.result (pcells tp).toArray)
            have HRS := Lib.hid HW9.out.r.res
            clear h0 hp hr
            go_wp2_with (first | (refine wpL_valG (by rfl) (ex_ld (ty := 28) (cs := pcells p) rfl rfl (rng_all HAN9.out) Tryz.underlying28 rfl (by rw [sizeP, HLP.out])) ?_) | (refine wpList_store_row rfl 28 (.tmp 2) (.tmp 46) rfl w.heap.size (pcells tp).toArray rfl (by rw [← HHP.out]; rfl) 28 _ HRS.out HST.out HZ1.out (one_pc tp) ?_) | fail)
            exact bodyPost_ret (results_cell_row Tryz.results28 _ _ w.heap.size 28 _ _ _ rfl (HRS.out.row _) Tryz.underlying28 rfl HST.out) rfl ⟨rfl, ⟨r9, HR.out.1, fun _ => HHR.out, HR9.out⟩, HR.out.2⟩
          · have hp : zeroP = tp := by have := HTPE.out; unfold takenP at this; rw [HPE.out, if_neg h0] at this; exact this
            have HHP := Lib.hid hp
            have HH0 := Lib.hid h0
            have h0' : ¬ (pe : Int) = 0 := by omega
            have HR := Lib.hid (HW9.out.r.result (pcells tp).toArray)
            have HRS := Lib.hid HW9.out.r.res
            clear h0 hp
            go_wp2_with (first | (refine wpL_val rfl (ex_bld0 rfl) ?_) | (refine wpList_store_row rfl 28 (.tmp 2) (.tmp 45) rfl w.heap.size (pcells tp).toArray rfl (by rw [← HHP.out]; rfl) 28 _ HRS.out HST.out HZ1.out (one_pc tp) ?_) | fail)
            exact bodyPost_ret (results_cell_row Tryz.results28 _ _ w.heap.size 28 _ _ _ rfl (HRS.out.row _) Tryz.underlying28 rfl HST.out) rfl ⟨rfl, ⟨r9, HR.out.1, fun h => absurd h HH0.out, HR9.out⟩, HR.out.2⟩
      · have hpe : pe = e9 := by have := HE1.out; rw [hez] at this; exact this.symm
        have HEZ := Lib.hid hez
        subst hpe
        clear hez
        go_wp2_with (first | (refine wpL_valG (by rfl) (ex_ld (ty := 28) (cs := pcells p) rfl rfl (rng_all HAN.out) Tryz.underlying28 rfl (by rw [sizeP, HLP.out])) ?_) | (refine wpL_val rfl (ex_bld0 rfl) ?_) | (refine wpL_val rfl (ex_neP (p := p) (q := zeroP) rfl rfl rfl HPO.out zeroP_ok) ?_; rw [HEZ.out]) | fail)
        refine (err_any H r9 pe _ HW8.out.r.rd).mono ?_
        rintro x9 w9 ⟨rfl, rfl⟩
        by_cases h0 : pe = 0
        · have hp : p = tp := by rw [(HE2.out h0).1]; exact HTPE.out
          have hr : r9 = l.drop 64 := (HE2.out h0).2
          have HHP := Lib.hid hp
          have HHR := Lib.hid hr
          have h0' : (pe : Int) = 0 := by omega
          have HR := Lib.hid (HW8.out.r.result (pcells tp).toArray)
          have HRS := Lib.hid HW8.out.r.res
          clear h0 hp hr
          go_wp2_with (first | (refine wpL_valG (by rfl) (ex_ld (ty := 28) (cs := pcells p) rfl rfl (rng_all HAN.out) Tryz.underlying28 rfl (by rw [sizeP, HLP.out])) ?_) | (refine wpList_store_row rfl 28 (.tmp 2) (.tmp 46) rfl w.heap.size (pcells tp).toArray rfl (by rw [← HHP.out]; rfl) 28 _ HRS.out HST.out HZ1.out (one_pc tp) ?_) | fail)
          exact bodyPost_ret (results_cell_row Tryz.results28 _ _ w.heap.size 28 _ _ _ rfl (HRS.out.row _) Tryz.underlying28 rfl HST.out) rfl ⟨rfl, ⟨r9, HR.out.1, fun _ => HHR.out, HR9.out⟩, HR.out.2⟩
        · have hp : zeroP = tp := by have := HTPE.out; unfold takenP at this; rw [HPE.out, if_neg h0] at this; exact this
          have HHP := Lib.hid hp
          have HH0 := Lib.hid h0
          have h0' : ¬ (pe : Int) = 0 := by omega
          have HR := Lib.hid (HW8.out.r.result (pcells tp).toArray)
          have HRS := Lib.hid HW8.out.r.res
          clear h0 hp
          go_wp2_with (first | (refine wpL_val rfl (ex_bld0 rfl) ?_) | (refine wpList_store_row rfl 28 (.tmp 2) (.tmp 45) rfl w.heap.size (pcells tp).toArray rfl (by rw [← HHP.out]; rfl) 28 _ HRS.out HST.out HZ1.out (one_pc tp) ?_) | fail)
          exact bodyPost_ret (results_cell_row Tryz.results28 _ _ w.heap.size 28 _ _ _ rfl (HRS.out.row _) Tryz.underlying28 rfl HST.out) rfl ⟨rfl, ⟨r9, HR.out.1, fun h => absurd h HH0.out, HR9.out⟩, HR.out.2⟩
section
variable {ρ : Operand → Value} {o : Oper} {x y : Operand} {w : World} {ns ms : List Pt}
theorem ex_ldT {t : TypeId} (hu : Tryz.prog.underlying t = some (.array 8 28)) (hs : (Tryz.prog.info? t).map (·.size) = some 328) (h : NOK ns) {g : Nat} {t' : TypeId} (hB : Blk w g (ncells ns) t') (ho : o.op = .load t x) (hx : ρ x = .pointer (some ⟨g, 0, none⟩)) : (execOp ρ o).run Tryz.prog w = .ok (.value (.agg (ncells ns).toArray)) w :=
  ex_ld (ty := t) (cs := ncells ns) ho hx (rng_all hB) hu rfl (by rw [hs, h.cells])
theorem ex_ldN (h : NOK ns) {g : Nat} {t' : TypeId} (hB : Blk w g (ncells ns) t') (ho : o.op = .load 170 x) (hx : ρ x = .pointer (some ⟨g, 0, none⟩)) : (execOp ρ o).run Tryz.prog w = .ok (.value (.agg (ncells ns).toArray)) w := ex_ldT Tryz.underlying170 size_nd h hB ho hx
theorem ex_ldP {p : Pt} (hp : p.OK) {g : Nat} {t' : TypeId} (hB : Blk w g (pcells p) t') (ho : o.op = .load 28 x) (hx : ρ x = .pointer (some ⟨g, 0, none⟩)) : (execOp ρ o).run Tryz.prog w = .ok (.value (.agg (pcells p).toArray)) w :=
  ex_ld (ty := 28) (cs := pcells p) ho hx (rng_all hB) Tryz.underlying28 rfl (by rw [sizeP, pcells_length hp])
theorem rng_elem {g : Nat} {t' : TypeId} (h : NOK ns) (hB : Blk w g (ncells ns) t') {k : Nat} {p : Pt} (hk : ns[k]? = some p) : w.rangeAt g (41 * k) (pcells p) := by
  obtain ⟨e, hl⟩ := ncells_split h.ok hk
  have := hB.rng _ _ _ e
  rw [hl] at this
  exact this
theorem ex_ldE {g off : Nat} {t' : TypeId} (h : NOK ns) (hB : Blk w g (ncells ns) t') {k : Nat} {p : Pt} (hk : ns[k]? = some p) (hoff : off = 41 * k) (ho : o.op = .load 28 x) (hx : ρ x = .pointer (some ⟨g, off, none⟩)) : (execOp ρ o).run Tryz.prog w = .ok (.value (.agg (pcells p).toArray)) w := by
  subst hoff
  exact ex_ld (ty := 28) (cs := pcells p) ho hx (rng_elem h hB hk) Tryz.underlying28 rfl (by rw [sizeP, pcells_length (h.at hk)])
theorem ex_bldN (ho : o.op = .build 170 #[]) : (execOp ρ o).run Tryz.prog w = .ok (.value (.agg (ncells holes).toArray)) w := by
  have hr : (Instr.build 170 #[]).run Tryz.prog w = .ok (.agg (ncells holes).toArray) w := run_build w 170 _ _ (by kernel_rfl)
  unfold execOp
  simp only [ho]
  simp only [List.map_toArray, List.map_nil, Sem.run_bind, hr, Result.andThen_ok, Sem.run_pure]
theorem ex_eqN (h : NOK ns) (h' : NOK ms) (ho : o.op = .binOp .eql 170 x y 170) (hx : ρ x = .agg (ncells ns).toArray) (hy : ρ y = .agg (ncells ms).toArray) : (execOp ρ o).run Tryz.prog w = .ok (.value (.bool (decide (ns = ms)))) w := by
  have h := run_eqN Tryz.underlying170 h h' w
  unfold execOp
  simp only [ho]
  go_simp
end
theorem hole_any (p : Pt) (hp : p.OK) (w : World) : Calls Tryz.prog 131 #[.agg (pcells p).toArray] w fun e w' => e = .returned (.bool (eqP p zeroP)) ∧ Below w.heap.size w w' := by
  have HP := Lib.hid hp
  have HB := Lib.hid (Blk.new w (pcells p) 28)
  have HW : Hid (Below w.heap.size w (w.alloc (.cells (pcells p).toArray 28))) := Lib.hid ((Below.refl _ _).alloc (Nat.le_refl _) _)
  clear hp
  go_enter Tryz.func131, Tryz.ntmps131
  go_wp2_with (first | (refine wpL_val rfl (ex_ldP HP.out HB.out rfl rfl) ?_) | (refine wpL_val rfl (ex_bld0 rfl) ?_) | (refine wpL_val rfl (ex_eqP (p := p) (q := zeroP) rfl rfl rfl HP.out zeroP_ok) ?_) | fail)
  go_ret
  exact ⟨rfl, HW.out⟩
theorem empty_any (ns : List Pt) (h : NOK ns) (w : World) : Calls Tryz.prog 119 #[.agg (ncells ns).toArray] w fun e w' => e = .returned (.bool (decide (ns = holes))) ∧ Below w.heap.size w w' := by
  have HP := Lib.hid h
  have HB := Lib.hid (Blk.new w (ncells ns) 170)
  have HW : Hid (Below w.heap.size w (w.alloc (.cells (ncells ns).toArray 170))) := Lib.hid ((Below.refl _ _).alloc (Nat.le_refl _) _)
  clear h
  go_enter Tryz.func119, Tryz.ntmps119
  go_wp2_with (first | (refine wpL_val rfl (ex_ldN HP.out HB.out rfl rfl) ?_) | (refine wpL_val rfl (ex_bldN rfl) ?_) | (refine wpL_val rfl (ex_eqN HP.out holes_ok rfl rfl rfl) ?_) | fail)
  go_ret
  exact ⟨rfl, HW.out⟩
theorem below_sets {B g : Nat} {w0 : World} : ∀ (vs : List Value) (o : Nat) (w : World), Below B w0 w → B ≤ g → Below B w0 (w.setCells g o vs)
  | [], _, _, h, _ => h
  | v :: vs, o, w, h, hg => below_sets vs (o + 1) _ (h.trans ⟨rfl, rfl, rfl, by simp, fun k hk => heap_setCell_other w ⟨g, o, none⟩ k v (by simp; omega)⟩) hg
theorem blk_setE {w : World} {g : Nat} {t : TypeId} {ns : List Pt} (h : NOK ns) (hB : Blk w g (ncells ns) t) {k off : Nat} (hk : k < 8) (ho : off = 41 * k) {q : Pt} (hq : q.OK) : Blk (w.setCells g off (pcells q)) g (ncells (ns.set k q)) t := by
  subst ho
  have h1 := blk_setCells g t (pcells q) (41 * k) w _ hB (by rw [h.cells, pcells_length hq]; omega)
  have h2 := ncells_set h.ok (k := k) (by rw [h.len]; exact hk) hq
  unfold splice at h2
  rw [List.append_assoc, h2] at h1
  exact h1
end Go.Proofs.YtjgjohdeeeoeoaaGreatDoor
