/- Nodes: what Take reads: one pointer after another, by a closure. -/
import Derived.Test.YtincpdnmaiimnaaDoorNd
namespace Go.Proofs.YtincpdnmaiimnaaDoor
open Go.RowKit

/-- The error behind so many pointers. -/
def stE (l : Bs) : Nat → Nat
  | 0 => 0
  | k + 1 => takeE (l.drop (64 * k)) (stE l k)
theorem takeE_bad' {l : Bs} {e : Nat} (h : e ≠ 0) : takeE l e = e := by unfold takeE; rw [if_pos h]
theorem stE_step {l rest : Bs} {ee k : Nat} (he : ee = stE l k) (hr : ee = 0 → rest = l.drop (64 * k)) : takeE rest ee = stE l (k + 1) := by
  show _ = takeE _ _
  rw [← he]
  by_cases h : ee = 0
  · rw [hr h]
  · rw [takeE_bad' h, takeE_bad' h]
theorem takeE_zero {l : Bs} {e : Nat} (h : takeE l e = 0) : e = 0 := (takeE_long h).1
/-- What is read where there is no error. -/
def nodeP (l : Bs) : List Pt := (List.range 8).map fun j => pt (l.drop (64 * j))
structure TiPost (l : Bs) (e H : Nat) (K : Nat → Prop) (w : World) (x : Ending) (w' : World) : Prop where
  val : x = .returned (.agg (pcells (takenP l e)).toArray)
  rd : ∃ rest, RdAt w' H K rest (takeE l e) ∧ (takeE l e = 0 → rest = l.drop 64) ∧ rest.length ≤ l.length
  bf : ButFor H w w'
set_option maxRecDepth 100000 in
set_option maxHeartbeats 4000000 in
theorem takeIn_any (l : Bs) (e H G : Nat) {K : Nat → Prop} (w : World) (hG : Blk w G [.pointer (some ⟨H, 0, none⟩)] 53) (hR : RdAt w H K l e) (hK : ∀ g, K g → g < w.heap.size) (hl : l.length ≤ 100000) (hT : RTab w) (hg : 0 ≠ H) :
    Calls Tryd.prog 24 #[.pointer (some ⟨G, 0, none⟩)] w (TiPost l e H K w) := by
  have HB := Lib.hid (hG.alloc (.cells (pcells zeroP).toArray 28))
  have cG := HB.out.cell (j := 0) rfl
  have HC := Lib.hid (ptrTake_len l e H (w.alloc (.cells (pcells zeroP).toArray 28)) (hR.below ((Below.refl _ _).alloc (Nat.le_refl _) _) (Nat.le_refl _)) (fun g h => Nat.lt_of_lt_of_le (hK g h) (by simp)) hl (hT.alloc _) hg)
  have HN := Lib.hid (Blk.new w (pcells zeroP) 28)
  have HH := Lib.hid hR.lt
  have HTO := Lib.hid (takenP_ok l e)
  have HSZ := Lib.hid (size_pc HTO.out)
  have HZ1 : Hid ((pcells zeroP).toArray.size = (pcells (takenP l e)).toArray.size) := Lib.hid (by rw [List.size_toArray, List.size_toArray, pcells_length HTO.out, pcells_length zeroP_ok])
  have HQ : Hid (∀ W : World, RdAt W H K l e ∨ True → True) := Lib.hid fun _ _ => trivial
  have HEZ : Hid (∀ x w' rest, x = Ending.returned (.agg (pcells (takenP l e)).toArray) → RdAt w' H K rest (takeE l e) → (takeE l e = 0 → rest = l.drop 64) → rest.length ≤ l.length → ButFor H w w' → TiPost l e H K w x w') := Lib.hid fun x w' rest h1 h2 h3 h4 h5 => ⟨h1, ⟨rest, h2, h3, h4⟩, h5⟩
  generalize hPost : TiPost l e H K w = Post at HEZ ⊢
  obtain ⟨tp, htp⟩ : ∃ tp, takenP l e = tp := ⟨_, rfl⟩
  rw [htp] at HC HTO HSZ HZ1 HEZ
  have HKK := Lib.hid hK
  clear hG hR hK hl hT hg hPost htp HQ
  go_enter Tryd.func24, Tryd.ntmps24
  go_upto_region 1 with fail
  refine (fun (k : ∀ W, W = w.alloc (.cells (pcells zeroP).toArray 28) → Code.wp _ _ _ _ W) => k _ rfl) ?_
  intro W eW
  rw [← eW] at HC HN cG
  have HBW : Hid (∀ W', ButFor H W W' → ButFor H w W') := Lib.hid fun W' h => (show ButFor H w W by rw [eW]; exact (ButFor.refl _ _).alloc _).trans h
  clear HB eW
  go_wp2_with fail
  refine HC.out.mono ?_
  rintro e2 W2 ⟨rfl, ⟨rest, hrd, hrr, hrl⟩, hbf⟩
  have HN2 := Lib.hid (hbf.blk HN.out (by have := HH.out; omega))
  have HRD := Lib.hid hrd; have HRR := Lib.hid hrr; have HRL := Lib.hid hrl; have HBF := Lib.hid hbf
  clear hrd hrr hrl hbf HN HC
  go_wp2_with (first | (refine wpList_store_row rfl 28 (.tmp 1) (.tmp 3) rfl w.heap.size (pcells tp).toArray rfl rfl 28 _ HN2.out HSZ.out HZ1.out (one_pc tp) ?_) | fail)
  have HRES := Lib.hid (TkR.result (w := w) (H := H) (K := K) ⟨HN2.out, HRD.out, HBW.out _ HBF.out, HH.out, HKK.out⟩ (pcells tp).toArray)
  exact bodyPost_ret (results_cell_row Tryd.results24 _ _ w.heap.size 28 _ _ _ rfl (HN2.out.row _) Tryd.underlying28 rfl HSZ.out) rfl (HEZ.out _ _ rest rfl HRES.out.1 HRR.out HRL.out HRES.out.2)

/-- What filled holds, so many pointers being read. -/
structure FiW (l : Bs) (w : World) (H : Nat) (K : Nat → Prop) (G : Nat) (k : Nat) (W : World) : Prop where
  ok : ∃ ns rest ee, NOK ns ∧ Blk W (w.heap.size + 1) (ncells ns) 35 ∧ RdAt W H K rest ee ∧ ee = stE l k ∧ (ee = 0 → rest = l.drop (64 * k) ∧ ∀ j, j < k → ns[j]? = some (pt (l.drop (64 * j)))) ∧ rest.length ≤ l.length
  res : Blk W w.heap.size (ncells holes) 35
  box : Blk W G [.pointer (some ⟨H, 0, none⟩)] 53
  bf : ButFor H w W
  hH : H < w.heap.size
  hG : G < w.heap.size ∧ G ≠ H
  hK : ∀ g, K g → g < w.heap.size
structure FiPost (l : Bs) (H : Nat) (K : Nat → Prop) (w : World) (x : Ending) (w' : World) : Prop where
  ok : ∃ ns rest ee, x = .returned (.agg (ncells ns).toArray) ∧ NOK ns ∧ RdAt w' H K rest ee ∧ ee = stE l 8 ∧ (ee = 0 → rest = l.drop 512 ∧ ns = nodeP l)
  bf : ButFor H w w'
theorem fiW_start {l : Bs} {w : World} {H G : Nat} {K : Nat → Prop} (hR : RdAt w H K l 0) (hB : Blk w G [.pointer (some ⟨H, 0, none⟩)] 53) (hGH : G ≠ H) (hK : ∀ g, K g → g < w.heap.size) (z : Array Value) (hz : z = (ncells holes).toArray) : FiW l w H K G 0 ((w.alloc (.cells z 35)).alloc (.cells z 35)) := by
  subst hz
  have hb : Below w.heap.size w ((w.alloc (.cells (ncells holes).toArray 35)).alloc (.cells (ncells holes).toArray 35)) := ((Below.refl _ _).alloc (Nat.le_refl _) _).alloc (by simp) _
  exact ⟨⟨holes, l, 0, holes_ok, Blk.new' _ _ _ _ _ (by simp) rfl, hR.below hb (Nat.le_refl _), rfl, fun _ => ⟨rfl, fun j hj => by omega⟩, Nat.le_refl _⟩, (Blk.new _ _ _).alloc _, hB.below hb hB.lt, ButFor.of_below hb, hR.lt, ⟨hB.lt, hGH⟩, hK⟩
theorem get_set_lt {α : Type} {l : List α} {k : Nat} {f : Nat → α} (hk : k < l.length) (h : ∀ i, i < k → l[i]? = some (f i)) : ∀ j, j < k + 1 → (l.set k (f k))[j]? = some (f j) := fun j hj => by
  by_cases e : k = j
  · subst e; rw [List.getElem?_set_self hk]
  · rw [List.getElem?_set_ne e]; exact h j (by omega)
theorem takenP_zero {l : Bs} (h : takeE l 0 = 0) : takenP l 0 = pt l := by unfold takenP; rw [if_pos h]
/-- One more is read, and stored. -/
theorem FiW.next {l : Bs} {w W W' : World} {H G k : Nat} {K : Nat → Prop} {ns : List Pt} {rest rest' : Bs} {ee : Nat} (h : FiW l w H K G k W) (hk : k < 8) (hn : NOK ns) (hb : Blk W' (w.heap.size + 1) (ncells ns) 35) (hee : ee = stE l k) (hr : ee = 0 → rest = l.drop (64 * k) ∧ ∀ j, j < k → ns[j]? = some (pt (l.drop (64 * j)))) (hrl : rest.length ≤ l.length)
    (hrd : RdAt W' H K rest' (takeE rest ee)) (hr' : takeE rest ee = 0 → rest' = rest.drop 64) (hrl' : rest'.length ≤ rest.length) (hbf : ButFor H W W') : FiW l w H K G (k + 1) (W'.setCells (w.heap.size + 1) (k * 41) (pcells (takenP rest ee))) := by
  have hto := takenP_ok rest ee
  have hbs : Below (w.heap.size + 1) W' (W'.setCells (w.heap.size + 1) (k * 41) (pcells (takenP rest ee))) := below_sets _ _ _ (Below.refl _ _) (Nat.le_refl _)
  have hsz := h.bf.size
  have hH := h.hH
  have hG := h.hG
  refine ⟨⟨ns.set k (takenP rest ee), rest', takeE rest ee, hn.set k hto, blk_setE hn hb hk (Nat.mul_comm k 41) hto, ?_, stE_step hee (fun h0 => (hr h0).1), fun h0 => ?_, Nat.le_trans hrl' hrl⟩, (hbf.blk h.res (by omega)).below hbs (by omega), (hbf.blk h.box hG.2).below hbs (by omega), ⟨hbs.os.trans (h.bf.trans hbf).os, hbs.tape.trans (h.bf.trans hbf).tape, hbs.output.trans (h.bf.trans hbf).output, ?_, ?_⟩, hH, hG, h.hK⟩
  · exact hrd.other (J := w.heap.size + 1) (ButFor.sets _ _ _ (ButFor.refl _ _)) (by omega) (fun hk => by have := h.hK _ hk; omega)
  · have e0 := takeE_zero h0
    obtain ⟨r1, r2⟩ := hr e0
    subst e0
    refine ⟨by rw [hr' h0, r1, List.drop_drop]; congr 1, ?_⟩
    rw [takenP_zero h0, r1]
    exact get_set_lt (f := fun j => pt (l.drop (64 * j))) (by rw [hn.len]; exact hk) r2
  · exact Nat.le_trans (h.bf.trans hbf).size hbs.size
  · intro i hi hn
    rw [hbs.block i (by omega)]
    exact (h.bf.trans hbf).block i hi hn
theorem FiW.done {l : Bs} {w W : World} {H G : Nat} {K : Nat → Prop} {ns : List Pt} {ee : Nat} {rest : Bs} (hn : NOK ns) (hr : ee = 0 → rest = l.drop (64 * 8) ∧ ∀ j, j < 8 → ns[j]? = some (pt (l.drop (64 * j)))) : ee = 0 → rest = l.drop 512 ∧ ns = nodeP l := fun h0 => by
  obtain ⟨r1, r2⟩ := hr h0
  refine ⟨r1, List.ext_getElem? fun j => ?_⟩
  by_cases hj : j < 8
  · rw [r2 j hj]; simp [nodeP, hj]
  · rw [List.getElem?_eq_none (by rw [hn.len]; omega), List.getElem?_eq_none (by simp [nodeP]; omega)]
theorem FiW.result {l : Bs} {w W : World} {H G k : Nat} {K : Nat → Prop} (h : FiW l w H K G k W) {rest : Bs} {ee : Nat} (hrd : RdAt W H K rest ee) (cs : Array Value) : RdAt (W.setRow w.heap.size cs) H K rest ee ∧ ButFor H w (W.setRow w.heap.size cs) := by
  have h1 := h.hH
  refine ⟨hrd.other (J := w.heap.size) (butFor_row cs) (by omega) (fun hk => by have := h.hK _ hk; omega), ?_⟩
  exact ⟨h.bf.os, h.bf.tape, h.bf.output, by simpa using h.bf.size, fun k hk hn => (setRow_other W w.heap.size k cs (by omega)).trans (h.bf.block k hk hn)⟩
def FiRel (l : Bs) (w : World) (H : Nat) (K : Nat → Prop) (G : Nat) (i : Value) (wr : World) : Prop := ∃ k : Nat, k ≤ 8 ∧ i = .int .i64 (k : Int) ∧ FiW l w H K G k wr
set_option maxRecDepth 100000 in
set_option maxHeartbeats 8000000 in
theorem filled_any (l : Bs) (H G : Nat) {K : Nat → Prop} (w : World) (hG : Blk w G [.pointer (some ⟨H, 0, none⟩)] 53) (hGH : G ≠ H) (hR : RdAt w H K l 0) (hK : ∀ g, K g → g < w.heap.size) (hl : l.length ≤ 100000) (hT : RTab w) (hg : 0 ≠ H) :
    Calls Tryd.prog 23 #[.func (.func 24) #[] #[.pointer (some ⟨G, 0, none⟩)]] w (FiPost l H K w) := by
  have HL := Lib.hid hl
  have HT := Lib.hid hT
  have HGR := Lib.hid hg
  have HW := Lib.hid (fiW_start hR hG hGH hK)
  have HEZ : Hid (∀ x w', FiPost l H K w x w' → FiPost l H K w x w') := Lib.hid fun _ _ h => h
  generalize hPost : FiPost l H K w = Post
  have HQ : Hid (∀ x w', FiPost l H K w x w' → Post x w') := Lib.hid fun x w' h => by rw [← hPost]; exact h
  clear hG hGH hR hK hl hT hg hPost HEZ
  go_enter Tryd.func23, Tryd.ntmps23
  go_upto_region 2 with fail
  refine (fun (k : ∀ W, FiW l w H K G 0 W → Code.wp _ _ _ _ W) => k _ (HW.out _ rfl)) ?_
  intro W0 hW0
  have HR : Hid (FiRel l w H K G (.int .i64 0) W0) := Lib.hid ⟨0, by omega, rfl, hW0⟩
  clear hW0 HW
  go_wp2_with fail
  go_loopw [5] (fun i wr => FiRel l w H K G i wr) (fun i _ => 8 - (intOf i).toNat)
  case atStart => exact HR.out
  case round =>
    clear HR
    obtain ⟨k, hk, rfl, hW⟩ := hrel
    have HW := Lib.hid hW
    obtain ⟨ns, rest, ee, hn, hb, hrd, hee, hr, hrl⟩ := hW.ok
    have HN := Lib.hid hn; have HBN := Lib.hid hb; have HRD := Lib.hid hrd; have HE := Lib.hid hee; have HR := Lib.hid hr; have HRL := Lib.hid hrl
    clear hW hn hb hrd hee hr hrl
    have wk1 := IntWalk.i64_in ((k : Int) + 1) (by omega)
    by_cases hlt : k < 8
    · have HTK := Lib.hid (takeIn_any rest ee H G wr HW.out.box HRD.out (fun g h => Nat.lt_of_lt_of_le (HW.out.hK g h) HW.out.bf.size) (Nat.le_trans HRL.out HL.out) (HT.out.of_heap (HW.out.bf.block _ HT.out.lt HGR.out)) HGR.out)
      obtain ⟨tp, htp⟩ : ∃ tp, takenP rest ee = tp := ⟨_, rfl⟩
      have HTP := Lib.hid htp
      have HTO : Hid tp.OK := Lib.hid (by rw [← htp]; exact takenP_ok _ _)
      have HSP := Lib.hid (size_pc HTO.out)
      have HLP := Lib.hid (pcells_length HTO.out)
      clear htp
      go_wp2_with fail
      refine HTK.out.mono ?_
      intro e W2 hti
      obtain ⟨rfl, ⟨rest', r1, r2, r3⟩, r4⟩ := hti
      have hbn := r4.blk HBN.out (by have := HW.out.hH; omega)
      have HTH : Hid (W2.there (w.heap.size + 1) (k * 41) (pcells tp).toArray.size) := Lib.hid (hbn.there _ _ (by rw [List.size_toArray, HLP.out, HN.out.cells]; omega))
      have hnx := HW.out.next hlt HN.out hbn HE.out HR.out HRL.out r1 r2 r3 r4
      rw [HTP.out] at hnx ⊢
      have HNX := Lib.hid hnx
      clear hbn hnx r1 r2 r3 r4 HTK
      go_wp2_with (first | (refine wpList_store_mid rfl 28 (.tmp 11) (.tmp 10) rfl (w.heap.size + 1) (k * 41) (pcells tp).toArray rfl rfl HTH.out HSP.out (one_pc tp) ?_) | fail)
      go_roundw
      case rel => exact ⟨k + 1, by omega, by go_num, HNX.out⟩
      case measure => simp [intOf]; omega
    · obtain rfl : k = 8 := by omega
      have HD := Lib.hid (FiW.done (l := l) (w := w) (W := wr) (H := H) (G := G) (K := K) HN.out HR.out)
      have HST := Lib.hid (size_nc HN.out)
      have HSZ : Hid ((ncells holes).toArray.size = (ncells ns).toArray.size) := Lib.hid (by rw [holes_ok.size, HN.out.size])
      have HON := Lib.hid (ncells_one HN.out.ok)
      have HRES := Lib.hid (HW.out.result HRD.out (ncells ns).toArray)
      rw [show ((8 : Nat) : Int) = (8 : Int) from rfl]
      have HRB := Lib.hid HW.out.res
      clear hlt hk
      go_wp2_with (first | (refine wpL_val rfl (ex_ldN HN.out HBN.out rfl rfl) ?_) | (refine wpList_store_row rfl 35 (.tmp 2) (.tmp 13) rfl w.heap.size (ncells ns).toArray rfl rfl 35 _ HRB.out HST.out HSZ.out HON.out ?_) | fail)
      exact bodyPost_ret (results_cell_row Tryd.results23 _ _ w.heap.size 35 _ _ _ rfl (HRB.out.row _) Tryd.underlying35 rfl HST.out) rfl (HQ.out _ _ ⟨⟨ns, rest, ee, rfl, HN.out, HRES.out.1, HE.out, HD.out⟩, HRES.out.2⟩)
end Go.Proofs.YtincpdnmaiimnaaDoor
