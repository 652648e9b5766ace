/- Nodes: Put. -/
import Derived.Test.YtjgjohdeeeoeoaaGreatDoorM10
import Derived.Test.YtjgjohdeeeoeoaaGreatDoorM01
namespace Go.Proofs.YtjgjohdeeeoeoaaGreatDoor
open Go.RowKit
def nodeB (ns : List Pt) : Bs := ns.flatMap padB
def fineP (p : Pt) : Bool := eqP p zeroP || mayP p
def putOk (ns : List Pt) : Bool := ns.all fineP
theorem nodeB_length : ∀ {ns : List Pt}, (∀ p ∈ ns, p.OK) → (nodeB ns).length = 64 * ns.length
  | [], _ => rfl
  | p :: ns, h => by
    have ih := nodeB_length (ns := ns) (fun q hq => h q (by simp [hq]))
    have h1 := padB_length (h p (by simp))
    simp only [nodeB, List.flatMap_cons, List.length_append, List.length_cons] at *
    omega
theorem take_snoc {α : Type} {l : List α} {k : Nat} {x : α} (h : l[k]? = some x) : l.take (k + 1) = l.take k ++ [x] := by
  obtain ⟨hk, e⟩ := List.getElem?_eq_some_iff.1 h
  rw [List.take_succ_eq_append_getElem hk, e]
theorem nodeB_take {ns : List Pt} {k : Nat} {p : Pt} (h : ns[k]? = some p) : nodeB (ns.take (k + 1)) = nodeB (ns.take k) ++ padB p := by
  rw [take_snoc h]; simp [nodeB]
theorem putOk_take {ns : List Pt} {k : Nat} {p : Pt} (h : ns[k]? = some p) : putOk (ns.take (k + 1)) = (putOk (ns.take k) && fineP p) := by
  rw [take_snoc h]; simp [putOk]
theorem putOk_no {ns : List Pt} {k : Nat} {p : Pt} (h : ns[k]? = some p) (hf : fineP p = false) : putOk ns = false := by
  unfold putOk
  rw [List.all_eq_false]
  exact ⟨p, List.mem_of_getElem? h, by simp [hf]⟩
theorem len_takeB {ns : List Pt} (h : NOK ns) {k : Nat} (hk : k ≤ 8) : (nodeB (ns.take k)).length = 64 * k := by
  rw [nodeB_length (fun p hp => h.ok p (List.mem_of_mem_take hp)), List.length_take, h.len, Nat.min_eq_left hk]
def NPutPost (ns : List Pt) (w : World) (x : Ending) (w' : World) : Prop :=
  ((putOk ns = true ∧ ∃ v, x = .returned (.tuple #[v, .int .i64 0]) ∧ OwnB w' w.heap.size v (nodeB ns)) ∨ (putOk ns = false ∧ x = .returned (.tuple #[.slice none 0 0, .int .i64 5]))) ∧ Below w.heap.size w w'
def NPutRel (ns : List Pt) (w : World) (v i : Value) (wr : World) : Prop := ∃ k : Nat, k ≤ 8 ∧ i = .int .i64 (k : Int) ∧ putOk (ns.take k) = true ∧ OwnB wr w.heap.size v (nodeB (ns.take k)) ∧ Below w.heap.size w wr
theorem ownB_none (w : World) (B : Nat) : OwnB w B (.slice none 0 0) [] := ⟨by simp, .inl ⟨rfl, rfl⟩⟩
set_option maxRecDepth 100000 in
set_option maxHeartbeats 8000000 in
theorem nodePut_any (ns : List Pt) (h : NOK ns) (w : World) (hT : RTab w) : Calls Tryz.prog 120 #[.agg (ncells ns).toArray] w (NPutPost ns w) := by
  have HP := Lib.hid h
  have HT := Lib.hid hT
  have HB := Lib.hid (Blk.new w (ncells ns) 170)
  have HW : Hid (Below w.heap.size w (w.alloc (.cells (ncells ns).toArray 170))) := Lib.hid ((Below.refl _ _).alloc (Nat.le_refl _) _)
  have HPOST : Hid (∀ x w', NPutPost ns w x w' → NPutPost ns w x w') := Lib.hid fun _ _ h => h
  generalize hPost : NPutPost ns w = Post
  have HQ : Hid (∀ x w', NPutPost ns w x w' → Post x w') := Lib.hid fun x w' h => by rw [← hPost]; exact h
  clear h hT hPost HPOST
  go_enter Tryz.func120, Tryz.ntmps120
  go_wp2_with (first | (refine wpL_val rfl (ex_ldN HP.out HB.out rfl rfl) ?_) | fail)
  have HR : Hid (NPutRel ns w (.slice none 0 0) (.int .i64 0) (w.alloc (.cells (ncells ns).toArray 170))) := Lib.hid ⟨0, by omega, rfl, rfl, ownB_none _ _, HW.out⟩
  clear HB HW
  go_loopw [4, 8] (fun v i wr => NPutRel ns w v i wr) (fun _ i _ => 8 - (intOf i).toNat)
  case atStart => exact HR.out
  case round =>
    clear HR
    obtain ⟨k, hk, rfl, hok, hO, hB⟩ := hrel
    obtain ⟨sp4, cap4, e, q1, q2, q3, q4, q5⟩ := OwnB.form hO
    rw [len_takeB HP.out hk] at e
    subst e
    have HB := Lib.hid hB
    have HO := Lib.hid hO
    have HOK := Lib.hid hok
    have HS4 := Lib.hid q3
    have HZ4 := Lib.hid q4
    clear hB hO hok q1 q2 q3 q4 q5
    have wk1 := IntWalk.i64_in ((k : Int) + 1) (by omega)
    by_cases hlt : k < 8
    · obtain ⟨p, hp⟩ := HP.out.get hlt
      have hix : ∀ W : World, (Instr.index 170 (.agg (ncells ns).toArray) (.int .i64 (k : Int))).run Tryz.prog W = .ok (.agg (pcells p).toArray) W := fun W => run_ixT Tryz.underlying170 HP.out hp W
      have HPO := Lib.hid (HP.out.at hp)
      have HST := Lib.hid (size_pc HPO.out)
      have HLP : Hid ((pcells p).toArray.size = 41) := Lib.hid (by rw [List.size_toArray, pcells_length HPO.out])
      have HAT := Lib.hid hp
      clear hp
      go_upto_region 5 with (first | (refine wpList_store_row rfl 28 (.tmp 6) (.tmp 10) rfl wr.heap.size (pcells p).toArray rfl rfl 28 _ (heap_alloc_new wr _) HST.out (by rw [HLP.out]; rfl) (one_pc p) ?_) | fail)
      refine (fun (k : ∀ W, Blk W wr.heap.size (pcells p) 28 → Below wr.heap.size wr W → Code.wp _ _ _ _ W) => k _ (blk_row1 wr _ (pcells p) 28).1 (blk_row1 wr _ (pcells p) 28).2) ?_
      intro W5 hx5 hb5
      have HX5 := Lib.hid hx5
      have HB5 := Lib.hid hb5
      have HSN := Lib.hid (len_takeB HP.out hk)
      have HPT : Hid (∀ W, Below wr.heap.size wr W → Calls Tryz.prog 24 #[.slice sp4 (64 * k : Nat) cap4, .agg (pcells p).toArray] W fun e w' => ∃ v, e = .returned v ∧ OwnB w' w.heap.size v (nodeB (ns.take (k + 1))) ∧ Below w.heap.size w w') := Lib.hid fun W hb => by
        have h1 := ptrPut_any p HPO.out (nodeB (ns.take k)) sp4 cap4 W (by rw [HSN.out]; omega) (HS4.out.below hb (Nat.le_refl _)) HZ4.out
        rw [HSN.out, ← nodeB_take HAT.out] at h1
        have hb2 := HB.out.trans (hb.mono HB.out.size)
        exact h1.mono fun e w' ⟨v, e1, e2, e3⟩ => ⟨v, e1, e2.mono hb2.size, hb2.trans (e3.mono hb2.size)⟩
      clear hx5 hb5
      go_wp2_with (first | (refine wpL_valG (by rfl) (ex_ldP HPO.out HX5.out rfl rfl) ?_) | fail)
      refine (hole_any p HPO.out W5).mono ?_
      rintro e w6 ⟨rfl, hb6⟩
      have HX6 := Lib.hid (HX5.out.below hb6 HX5.out.lt)
      have HB6 := Lib.hid (HB5.out.trans (hb6.mono HB5.out.size))
      clear hb6 HX5 HB5
      cases hz : eqP p zeroP
      · have HF : Hid (fineP p = mayP p) := Lib.hid (by unfold fineP; rw [hz]; rfl)
        clear hz
        go_wp2_with (first | (refine wpL_valG (by rfl) (ex_ldP HPO.out HX6.out rfl rfl) ?_) | fail)
        refine (may_any p HPO.out w6 (HT.out.grown (HB.out.trans (HB6.out.mono HB.out.size)))).mono ?_
        rintro e w7 ⟨rfl, hb7⟩
        have HX7 := Lib.hid (HX6.out.below hb7 HX6.out.lt)
        have HB7 := Lib.hid (HB6.out.trans (hb7.mono HB6.out.size))
        clear hb7 HX6 HB6
        cases hm : mayP p
        · rw [hm] at HF
          clear hm
          have HPN := Lib.hid (putOk_no HAT.out HF.out)
          have HBE := Lib.hid (HB.out.trans (HB7.out.mono HB.out.size))
          go_wp2_with fail
          exact HQ.out _ _ ⟨.inr ⟨HPN.out, rfl⟩, HBE.out⟩
        · rw [hm] at HF
          clear hm
          go_wp2_with (first | (refine wpL_val rfl (ex_ldP HPO.out HX7.out rfl rfl) ?_) | fail)
          refine (HPT.out w7 HB7.out).mono ?_
          rintro e w8 ⟨v8, rfl, ho8, hb8⟩
          have HO8 := Lib.hid ho8
          have HB8 := Lib.hid hb8
          clear ho8 hb8
          go_wp2_with fail
          go_roundw
          case rel => exact ⟨k + 1, by omega, by go_num, by rw [putOk_take HAT.out, HOK.out, HF.out]; rfl, HO8.out, HB8.out⟩
          case measure => simp [intOf]; omega
      · have HF : Hid (fineP p = true) := Lib.hid (by unfold fineP; rw [hz]; rfl)
        clear hz
        go_wp2_with (first | (refine wpL_val rfl (ex_ldP HPO.out HX6.out rfl rfl) ?_) | fail)
        refine (HPT.out w6 HB6.out).mono ?_
        rintro e w8 ⟨v8, rfl, ho8, hb8⟩
        have HO8 := Lib.hid ho8
        have HB8 := Lib.hid hb8
        clear ho8 hb8
        go_wp2_with fail
        go_roundw
        case rel => exact ⟨k + 1, by omega, by go_num, by rw [putOk_take HAT.out, HOK.out, HF.out]; rfl, HO8.out, HB8.out⟩
        case measure => simp [intOf]; omega
    · obtain rfl : k = 8 := by omega
      rw [List.take_of_length_le (by rw [HP.out.len]; omega)] at HO HOK
      rw [show ((8 : Nat) : Int) = (8 : Int) from rfl]
      clear HS4 HZ4 hlt hk
      go_wp2_with fail
      exact HQ.out _ _ ⟨.inl ⟨HOK.out, _, rfl, HO.out⟩, HB.out⟩
def stE (l : Bs) : Nat → Nat
  | 0 => 0
  | k + 1 => takeE (l.drop (64 * k)) (stE l k)
theorem takeE_bad' {l : Bs} {e : Nat} (h : e ≠ 0) : takeE l e = e := by unfold takeE; rw [if_pos h]
theorem stE_step {l rest : Bs} {ee k : Nat} (he : ee = stE l k) (hr : ee = 0 → rest = l.drop (64 * k)) : takeE rest ee = stE l (k + 1) := by
  show _ = takeE _ _
  rw [← he]
  by_cases h : ee = 0
  · rw [hr h]
  · rw [takeE_bad' h, takeE_bad' h]
theorem takeE_zero {l : Bs} {e : Nat} (h : takeE l e = 0) : e = 0 := (takeE_long h).1
def nodeP (l : Bs) : List Pt := (List.range 8).map fun j => pt (l.drop (64 * j))
structure TiPost (l : Bs) (e H : Nat) (K : Nat → Prop) (w : World) (x : Ending) (w' : World) : Prop where
  val : x = .returned (.agg (pcells (takenP l e)).toArray)
  rd : ∃ rest, RdAt w' H K rest (takeE l e) ∧ (takeE l e = 0 → rest = l.drop 64) ∧ rest.length ≤ l.length
  bf : ButFor H w w'
set_option maxRecDepth 100000 in
set_option maxHeartbeats 4000000 in
theorem takeIn_any (l : Bs) (e H G : Nat) {K : Nat → Prop} (w : World) (hG : Blk w G [.pointer (some ⟨H, 0, none⟩)] 79) (hR : RdAt w H K l e) (hK : ∀ g, K g → g < w.heap.size) (hl : l.length ≤ 100000) (hT : RTab w) (hg : 0 ≠ H) :
    Calls Tryz.prog 129 #[.pointer (some ⟨G, 0, none⟩)] w (TiPost l e H K w) := by
  have HB := Lib.hid (hG.alloc (.cells (pcells zeroP).toArray 28))
  have cG := HB.out.cell (j := 0) rfl
  have HC := Lib.hid (ptrTake_len l e H (w.alloc (.cells (pcells zeroP).toArray 28)) (hR.below ((Below.refl _ _).alloc (Nat.le_refl _) _) (Nat.le_refl _)) (fun g h => Nat.lt_of_lt_of_le (hK g h) (by simp)) hl (hT.alloc _) hg)
  have HN := Lib.hid (Blk.new w (pcells zeroP) 28)
  have HH := Lib.hid hR.lt
  have HTO := Lib.hid (takenP_ok l e)
  have HSZ := Lib.hid (size_pc HTO.out)
  have HZ1 : Hid ((pcells zeroP).toArray.size = (pcells (takenP l e)).toArray.size) := Lib.hid (by rw [List.size_toArray, List.size_toArray, pcells_length HTO.out, pcells_length zeroP_ok])
  have HQ : Hid (∀ W : World, RdAt W H K l e ∨ True → True) := Lib.hid fun _ _ => trivial
  have HEZ : Hid (∀ x w' rest, x = Ending.returned (.agg (pcells (takenP l e)).toArray) → RdAt w' H K rest (takeE l e) → (takeE l e = 0 → rest = l.drop 64) → rest.length ≤ l.length → ButFor H w w' → TiPost l e H K w x w') := Lib.hid fun x w' rest h1 h2 h3 h4 h5 => ⟨h1, ⟨rest, h2, h3, h4⟩, h5⟩
  generalize hPost : TiPost l e H K w = Post at HEZ ⊢
  obtain ⟨tp, htp⟩ : ∃ tp, takenP l e = tp := ⟨_, rfl⟩
  rw [htp] at HC HTO HSZ HZ1 HEZ
  have HKK := Lib.hid hK
  clear hG hR hK hl hT hg hPost htp HQ
  go_enter Tryz.func129, Tryz.ntmps129
  go_upto_region 1 with fail
  refine (fun (k : ∀ W, W = w.alloc (.cells (pcells zeroP).toArray 28) → Code.wp _ _ _ _ W) => k _ rfl) ?_
  intro W eW
  rw [← eW] at HC HN cG
  have HBW : Hid (∀ W', ButFor H W W' → ButFor H w W') := Lib.hid fun W' h => (show ButFor H w W by rw [eW]; exact (ButFor.refl _ _).alloc _).trans h
  clear HB eW
  go_wp2_with fail
  refine HC.out.mono ?_
  rintro e2 W2 ⟨rfl, ⟨rest, hrd, hrr, hrl⟩, hbf⟩
  have HN2 := Lib.hid (hbf.blk HN.out (by have := HH.out; omega))
  have HRD := Lib.hid hrd; have HRR := Lib.hid hrr; have HRL := Lib.hid hrl; have HBF := Lib.hid hbf
  clear hrd hrr hrl hbf HN HC
  go_wp2_with (first | (refine wpList_store_row rfl 28 (.tmp 1) (.tmp 3) rfl w.heap.size (pcells tp).toArray rfl rfl 28 _ HN2.out HSZ.out HZ1.out (one_pc tp) ?_) | fail)
  have HRES := Lib.hid (TkR.result (w := w) (H := H) (K := K) ⟨HN2.out, HRD.out, HBW.out _ HBF.out, HH.out, HKK.out⟩ (pcells tp).toArray)
  exact bodyPost_ret (results_cell_row Tryz.results129 _ _ w.heap.size 28 _ _ _ rfl (HN2.out.row _) Tryz.underlying28 rfl HSZ.out) rfl (HEZ.out _ _ rest rfl HRES.out.1 HRR.out HRL.out HRES.out.2)
structure FiW (l : Bs) (w : World) (H : Nat) (K : Nat → Prop) (G : Nat) (k : Nat) (W : World) : Prop where
  ok : ∃ ns rest ee, NOK ns ∧ Blk W (w.heap.size + 1) (ncells ns) 170 ∧ RdAt W H K rest ee ∧ ee = stE l k ∧ (ee = 0 → rest = l.drop (64 * k) ∧ ∀ j, j < k → ns[j]? = some (pt (l.drop (64 * j)))) ∧ rest.length ≤ l.length
  res : Blk W w.heap.size (ncells holes) 170
  box : Blk W G [.pointer (some ⟨H, 0, none⟩)] 79
  bf : ButFor H w W
  hH : H < w.heap.size
  hG : G < w.heap.size ∧ G ≠ H
  hK : ∀ g, K g → g < w.heap.size
structure FiPost (l : Bs) (H : Nat) (K : Nat → Prop) (w : World) (x : Ending) (w' : World) : Prop where
  ok : ∃ ns rest ee, x = .returned (.agg (ncells ns).toArray) ∧ NOK ns ∧ RdAt w' H K rest ee ∧ ee = stE l 8 ∧ (ee = 0 → rest = l.drop 512 ∧ ns = nodeP l)
  bf : ButFor H w w'
theorem fiW_start {l : Bs} {w : World} {H G : Nat} {K : Nat → Prop} (hR : RdAt w H K l 0) (hB : Blk w G [.pointer (some ⟨H, 0, none⟩)] 79) (hGH : G ≠ H) (hK : ∀ g, K g → g < w.heap.size) (z : Array Value) (hz : z = (ncells holes).toArray) : FiW l w H K G 0 ((w.alloc (.cells z 170)).alloc (.cells z 170)) := by
  subst hz
  have hb : Below w.heap.size w ((w.alloc (.cells (ncells holes).toArray 170)).alloc (.cells (ncells holes).toArray 170)) := ((Below.refl _ _).alloc (Nat.le_refl _) _).alloc (by simp) _
  exact ⟨⟨holes, l, 0, holes_ok, Blk.new' _ _ _ _ _ (by simp) rfl, hR.below hb (Nat.le_refl _), rfl, fun _ => ⟨rfl, fun j hj => by omega⟩, Nat.le_refl _⟩, (Blk.new _ _ _).alloc _, hB.below hb hB.lt, ButFor.of_below hb, hR.lt, ⟨hB.lt, hGH⟩, hK⟩
theorem get_set_lt {α : Type} {l : List α} {k : Nat} {f : Nat → α} (hk : k < l.length) (h : ∀ i, i < k → l[i]? = some (f i)) : ∀ j, j < k + 1 → (l.set k (f k))[j]? = some (f j) := fun j hj => by
  by_cases e : k = j
  · subst e; rw [List.getElem?_set_self hk]
  · rw [List.getElem?_set_ne e]; exact h j (by omega)
theorem takenP_zero {l : Bs} (h : takeE l 0 = 0) : takenP l 0 = pt l := by unfold takenP; rw [if_pos h]
theorem FiW.next {l : Bs} {w W W' : World} {H G k : Nat} {K : Nat → Prop} {ns : List Pt} {rest rest' : Bs} {ee : Nat} (h : FiW l w H K G k W) (hk : k < 8) (hn : NOK ns) (hb : Blk W' (w.heap.size + 1) (ncells ns) 170) (hee : ee = stE l k) (hr : ee = 0 → rest = l.drop (64 * k) ∧ ∀ j, j < k → ns[j]? = some (pt (l.drop (64 * j)))) (hrl : rest.length ≤ l.length)
    (hrd : RdAt W' H K rest' (takeE rest ee)) (hr' : takeE rest ee = 0 → rest' = rest.drop 64) (hrl' : rest'.length ≤ rest.length) (hbf : ButFor H W W') : FiW l w H K G (k + 1) (W'.setCells (w.heap.size + 1) (k * 41) (pcells (takenP rest ee))) := by
  have hto := takenP_ok rest ee
  have hbs : Below (w.heap.size + 1) W' (W'.setCells (w.heap.size + 1) (k * 41) (pcells (takenP rest ee))) := below_sets _ _ _ (Below.refl _ _) (Nat.le_refl _)
  have hsz := h.bf.size
  have hH := h.hH
  have hG := h.hG
  refine ⟨⟨ns.set k (takenP rest ee), rest', takeE rest ee, hn.set k hto, blk_setE hn hb hk (Nat.mul_comm k 41) hto, ?_, stE_step hee (fun h0 => (hr h0).1), fun h0 => ?_, Nat.le_trans hrl' hrl⟩, (hbf.blk h.res (by omega)).below hbs (by omega), (hbf.blk h.box hG.2).below hbs (by omega), ⟨hbs.os.trans (h.bf.trans hbf).os, hbs.tape.trans (h.bf.trans hbf).tape, hbs.output.trans (h.bf.trans hbf).output, ?_, ?_⟩, hH, hG, h.hK⟩
  · exact hrd.other (J := w.heap.size + 1) (ButFor.sets _ _ _ (ButFor.refl _ _)) (by omega) (fun hk => by have := h.hK _ hk; omega)
  · have e0 := takeE_zero h0
    obtain ⟨r1, r2⟩ := hr e0
    subst e0
    refine ⟨by rw [hr' h0, r1, List.drop_drop]; congr 1, ?_⟩
    rw [takenP_zero h0, r1]
    exact get_set_lt (f := fun j => pt (l.drop (64 * j))) (by rw [hn.len]; exact hk) r2
  · exact Nat.le_trans (h.bf.trans hbf).size hbs.size
  · intro i hi hn
    rw [hbs.block i (by omega)]
    exact (h.bf.trans hbf).block i hi hn
theorem FiW.done {l : Bs} {w W : World} {H G : Nat} {K : Nat → Prop} {ns : List Pt} {ee : Nat} {rest : Bs} (hn : NOK ns) (hr : ee = 0 → rest = l.drop (64 * 8) ∧ ∀ j, j < 8 → ns[j]? = some (pt (l.drop (64 * j)))) : ee = 0 → rest = l.drop 512 ∧ ns = nodeP l := fun h0 => by
  obtain ⟨r1, r2⟩ := hr h0
  refine ⟨r1, List.ext_getElem? fun j => ?_⟩
  by_cases hj : j < 8
  · rw [r2 j hj]; simp [nodeP, hj]
  · rw [List.getElem?_eq_none (by rw [hn.len]; omega), List.getElem?_eq_none (by simp [nodeP]; omega)]
theorem FiW.result {l : Bs} {w W : World} {H G k : Nat} {K : Nat → Prop} (h : FiW l w H K G k W) {rest : Bs} {ee : Nat} (hrd : RdAt W H K rest ee) (cs : Array Value) : RdAt (W.setRow w.heap.size cs) H K rest ee ∧ ButFor H w (W.setRow w.heap.size cs) := by
  have h1 := h.hH
  refine ⟨hrd.other (J := w.heap.size) (butFor_row cs) (by omega) (fun hk => by have := h.hK _ hk; omega), ?_⟩
  exact ⟨h.bf.os, h.bf.tape, h.bf.output, by simpa using h.bf.size, fun k hk hn => (setRow_other W w.heap.size k cs (by omega)).trans (h.bf.block k hk hn)⟩
def FiRel (l : Bs) (w : World) (H : Nat) (K : Nat → Prop) (G : Nat) (i : Value) (wr : World) : Prop := ∃ k : Nat, k ≤ 8 ∧ i = .int .i64 (k : Int) ∧ FiW l w H K G k wr
set_option maxRecDepth 100000 in
set_option maxHeartbeats 8000000 in
theorem nfilled_any (l : Bs) (H G : Nat) {K : Nat → Prop} (w : World) (hG : Blk w G [.pointer (some ⟨H, 0, none⟩)] 79) (hGH : G ≠ H) (hR : RdAt w H K l 0) (hK : ∀ g, K g → g < w.heap.size) (hl : l.length ≤ 100000) (hT : RTab w) (hg : 0 ≠ H) :
    Calls Tryz.prog 128 #[.func (.func 129) #[] #[.pointer (some ⟨G, 0, none⟩)]] w (FiPost l H K w) := by
  have HL := Lib.hid hl
  have HT := Lib.hid hT
  have HGR := Lib.hid hg
  have HW := Lib.hid (fiW_start hR hG hGH hK)
  have HEZ : Hid (∀ x w', FiPost l H K w x w' → FiPost l H K w x w') := Lib.hid fun _ _ h => h
  generalize hPost : FiPost l H K w = Post
  have HQ : Hid (∀ x w', FiPost l H K w x w' → Post x w') := Lib.hid fun x w' h => by rw [← hPost]; exact h
  clear hG hGH hR hK hl hT hg hPost HEZ
  go_enter Tryz.func128, Tryz.ntmps128
  go_upto_region 2 with fail
  refine (fun (k : ∀ W, FiW l w H K G 0 W → Code.wp _ _ _ _ W) => k _ (HW.out _ rfl)) ?_
  intro W0 hW0
  have HR : Hid (FiRel l w H K G (.int .i64 0) W0) := Lib.hid ⟨0, by omega, rfl, hW0⟩
  clear hW0 HW
  go_wp2_with fail
  go_loopw [5] (fun i wr => FiRel l w H K G i wr) (fun i _ => 8 - (intOf i).toNat)
  case atStart => exact HR.out
  case round =>
    clear HR
    obtain ⟨k, hk, rfl, hW⟩ := hrel
    have HW := Lib.hid hW
    obtain ⟨ns, rest, ee, hn, hb, hrd, hee, hr, hrl⟩ := hW.ok
    have HN := Lib.hid hn; have HBN := Lib.hid hb; have HRD := Lib.hid hrd; have HE := Lib.hid hee; have HR := Lib.hid hr; have HRL := Lib.hid hrl
    clear hW hn hb hrd hee hr hrl
    have wk1 := IntWalk.i64_in ((k : Int) + 1) (by omega)
    by_cases hlt : k < 8
    · have HTK := Lib.hid (takeIn_any rest ee H G wr HW.out.box HRD.out (fun g h => Nat.lt_of_lt_of_le (HW.out.hK g h) HW.out.bf.size) (Nat.le_trans HRL.out HL.out) (HT.out.of_heap (HW.out.bf.block _ HT.out.lt HGR.out)) HGR.out)
      obtain ⟨tp, htp⟩ : ∃ tp, takenP rest ee = tp := ⟨_, rfl⟩
      have HTP := Lib.hid htp
      have HTO : Hid tp.OK := Lib.hid (by rw [← htp]; exact takenP_ok _ _)
      have HSP := Lib.hid (size_pc HTO.out)
      have HLP := Lib.hid (pcells_length HTO.out)
      clear htp
      go_wp2_with fail
      refine HTK.out.mono ?_
      intro e W2 hti
      obtain ⟨rfl, ⟨rest', r1, r2, r3⟩, r4⟩ := hti
      have hbn := r4.blk HBN.out (by have := HW.out.hH; omega)
      have HTH : Hid (W2.there (w.heap.size + 1) (k * 41) (pcells tp).toArray.size) := Lib.hid (hbn.there _ _ (by rw [List.size_toArray, HLP.out, HN.out.cells]; omega))
      have hnx := HW.out.next hlt HN.out hbn HE.out HR.out HRL.out r1 r2 r3 r4
      rw [HTP.out] at hnx ⊢
      have HNX := Lib.hid hnx
      clear hbn hnx r1 r2 r3 r4 HTK
      go_wp2_with (first | (refine wpList_store_mid rfl 28 (.tmp 11) (.tmp 10) rfl (w.heap.size + 1) (k * 41) (pcells tp).toArray rfl rfl HTH.out HSP.out (one_pc tp) ?_) | fail)
      go_roundw
      case rel => exact ⟨k + 1, by omega, by go_num, HNX.out⟩
      case measure => simp [intOf]; omega
    · obtain rfl : k = 8 := by omega
      have HD := Lib.hid (FiW.done (l := l) (w := w) (W := wr) (H := H) (G := G) (K := K) HN.out HR.out)
      have HST := Lib.hid (size_nc HN.out)
      have HSZ : Hid ((ncells holes).toArray.size = (ncells ns).toArray.size) := Lib.hid (by rw [holes_ok.size, HN.out.size])
      have HON := Lib.hid (ncells_one HN.out.ok)
      have HRES := Lib.hid (HW.out.result HRD.out (ncells ns).toArray)
      rw [show ((8 : Nat) : Int) = (8 : Int) from rfl]
      have HRB := Lib.hid HW.out.res
      clear hlt hk
      go_wp2_with (first | (refine wpL_val rfl (ex_ldN HN.out HBN.out rfl rfl) ?_) | (refine wpList_store_row rfl 170 (.tmp 2) (.tmp 13) rfl w.heap.size (ncells ns).toArray rfl rfl 170 _ HRB.out HST.out HSZ.out HON.out ?_) | fail)
      exact bodyPost_ret (results_cell_row Tryz.results128 _ _ w.heap.size 170 _ _ _ rfl (HRB.out.row _) Tryz.underlying170 rfl HST.out) rfl (HQ.out _ _ ⟨⟨ns, rest, ee, rfl, HN.out, HRES.out.1, HE.out, HD.out⟩, HRES.out.2⟩)
theorem results_ct {fn : Func} {p u : Tmp} {ty e n : Nat} (h : fn.results = #[.cell p ty, .tmp u]) (tmps : Array Value) (w : World) (g t : Nat) (cs : List Value)
    (hp : tmps.getD p undef = .pointer (some ⟨g, 0, none⟩)) (hg : Blk w g cs t) (hu : Tryz.prog.underlying ty = some (.array n e)) (hi : (Tryz.prog.info? ty).map (·.size) = some cs.length) :
    (results fn tmps).run Tryz.prog w = .ok (.tuple #[.agg cs.toArray, tmps.getD u undef]) w := by
  rw [results_cell_tmp h, hp]
  simp only [asAddr, Sem.run_pure, Result.andThen_ok, run_loadVar_row w g t ty cs.toArray (0, 0) _ hg hu rfl (by simpa using hi)]
def nodeE (l : Bs) : Nat := if l.length = 512 then stE l 8 else 5
def nodeT (l : Bs) : List Pt := if nodeE l = 0 then nodeP l else holes
theorem nodeE_long {l : Bs} (h : nodeE l = 0) : l.length = 512 := by
  unfold nodeE at h
  split at h
  · assumption
  · cases h
theorem nodeP_ok {l : Bs} (h : l.length = 512) : NOK (nodeP l) := ⟨by simp [nodeP], fun p hp => by
  simp only [nodeP, List.mem_map, List.mem_range] at hp
  obtain ⟨j, hj, rfl⟩ := hp
  exact pt_ok (by rw [List.length_drop, h]; omega)⟩
theorem nodeT_ok (l : Bs) : NOK (nodeT l) := by
  unfold nodeT
  split
  · rename_i h; exact nodeP_ok (nodeE_long h)
  · exact holes_ok
def NTakePost (l : Bs) (w : World) (x : Ending) (w' : World) : Prop := x = .returned (.tuple #[.agg (ncells (nodeT l)).toArray, .int .i64 (nodeE l : Int)]) ∧ Below w.heap.size w w'
theorem size_ncl {ns : List Pt} (h : NOK ns) : (Tryz.prog.info? 170).map (·.size) = some (ncells ns).length := by rw [h.cells]; exact size_nd
set_option maxRecDepth 100000 in
set_option maxHeartbeats 8000000 in
theorem nodeTake_bad (l : Bs) (sp : Option Addr) (cap : Nat) (w : World) (hl : l.length ≠ 512) : Calls Tryz.prog 117 #[.slice sp l.length cap] w (NTakePost l w) := by
  have he : nodeE l = 5 := by unfold nodeE; rw [if_neg hl]
  have ht : nodeT l = holes := by unfold nodeT; rw [he]; rfl
  unfold NTakePost
  rw [he, ht]
  obtain ⟨L, hL⟩ : ∃ L, l.length = L := ⟨_, rfl⟩
  rw [hL] at hl ⊢
  have hl' : ¬ (L : Int) = 512 := by omega
  have HST := Lib.hid (size_nc holes_ok)
  have HON := Lib.hid (ncells_one holes_ok.ok)
  have HB := Lib.hid (Blk.new w (ncells holes) 170)
  have HW : Hid (Below w.heap.size w (w.alloc (.cells (ncells holes).toArray 170))) := Lib.hid ((Below.refl _ _).alloc (Nat.le_refl _) _)
  clear hL hl he ht
  go_enter Tryz.func117, Tryz.ntmps117
  go_upto_region 1 with fail
  refine (fun (k : ∀ W, Blk W w.heap.size (ncells holes) 170 → Below w.heap.size w W → Code.wp _ _ _ _ W) => k _ HB.out HW.out) ?_
  intro W hb hw
  have HB1 := Lib.hid hb; have HW1 := Lib.hid hw
  clear hb hw HB HW
  go_wp2_with (first | (refine wpL_val rfl (ex_bldN rfl) ?_) | (refine wpList_store_row rfl 170 (.tmp 2) (.tmp 10) rfl w.heap.size (ncells holes).toArray rfl rfl 170 _ HB1.out HST.out rfl HON.out ?_) | fail)
  exact bodyPost_ret (results_ct Tryz.results117 _ _ w.heap.size 170 _ rfl (HB1.out.row _) Tryz.underlying170 (size_ncl holes_ok)) rfl ⟨rfl, below_row HW1.out (Nat.le_refl _) _⟩
theorem endOf_512 {l rest : Bs} {ee : Nat} (hl : l.length = 512) (he : ee = stE l 8) (hr : ee = 0 → rest = l.drop 512) : endOf rest ee = nodeE l := by
  unfold endOf leftOf nodeE
  rw [if_pos hl, ← he]
  by_cases h : ee = 0
  · rw [if_pos h, hr h]
    simp [hl, h]
  · rw [if_neg h]; rfl
structure TkN (l : Bs) (w : World) (H G : Nat) (W : World) : Prop where
  res : Blk W w.heap.size (ncells holes) 170
  box : Blk W G [.pointer (some ⟨H, 0, none⟩)] 79
  bel : Below w.heap.size w W
  hH : w.heap.size + 1 ≤ H ∧ H < W.heap.size ∧ H < G
set_option maxRecDepth 100000 in
set_option maxHeartbeats 8000000 in
theorem nodeTake_512 (l : Bs) (sp : Option Addr) (cap : Nat) (w : World) (hl : l.length = 512) (hz : sp = none → cap = 0) (hc : l.length ≤ cap) (hS : SrcA w sp l) (hT : RTab w) : Calls Tryz.prog 117 #[.slice sp 512 cap] w (NTakePost l w) := by
  have HL := Lib.hid hl
  have HT := Lib.hid hT
  have HB : Hid (Blk (w.alloc (.cells (ncells holes).toArray 170)) w.heap.size (ncells holes) 170) := Lib.hid (Blk.new _ _ _)
  have HW : Hid (Below w.heap.size w (w.alloc (.cells (ncells holes).toArray 170))) := Lib.hid ((Below.refl _ _).alloc (Nat.le_refl _) _)
  have HNW : Hid (∀ W, Below w.heap.size w W → Calls Tryz.prog 26 #[.slice sp 512 cap] W (RetRd l W)) := Lib.hid fun W hb => by
    have h1 := new_any l sp cap W (by omega) hz hc (hS.grown hb)
    rw [hl] at h1
    exact h1
  have HSZ1 : Hid ((w.alloc (.cells (ncells holes).toArray 170)).heap.size = w.heap.size + 1) := Lib.hid (by simp)
  generalize hPost : NTakePost l w = Post
  have HQ : Hid (∀ x w', NTakePost l w x w' → Post x w') := Lib.hid fun x w' h => by rw [← hPost]; exact h
  clear hl hz hc hS hT hPost
  go_enter Tryz.func117, Tryz.ntmps117
  go_upto_region 1 with fail
  refine (fun (k : ∀ W, Blk W w.heap.size (ncells holes) 170 → Below w.heap.size w W → W.heap.size = w.heap.size + 1 → Code.wp _ _ _ _ W) => k _ HB.out HW.out HSZ1.out) ?_
  intro W0 hb hw hs
  have HB0 := Lib.hid hb; have HW0 := Lib.hid hw; have HS0 := Lib.hid hs
  clear hb hw hs HB HW HSZ1
  go_wp2_with fail
  refine (HNW.out W0 HW0.out).mono ?_
  rintro e1 W1 ⟨H, rfl, hrd, hH, hb1⟩
  have HRD := Lib.hid hrd; have HH := Lib.hid hH; have HB1 := Lib.hid hb1
  clear hrd hH hb1 HNW
  go_upto_region 4 with fail
  refine (fun (k : ∀ W, TkN l w H W1.heap.size W → RdAt W H (fun g => W0.heap.size ≤ g ∧ g < H) l 0 → Code.wp _ _ _ _ W) => k _ ⟨(HB0.out.below HB1.out (by rw [HS0.out]; omega)).alloc _, Blk.new _ _ _, (HW0.out.trans (HB1.out.mono (by rw [HS0.out]; omega))).alloc (HW0.out.trans (HB1.out.mono (by rw [HS0.out]; omega))).size _, by have := HH.out; have := HS0.out; have := HRD.out.lt; simp; omega⟩ (HRD.out.below ((Below.refl _ _).alloc (Nat.le_refl _) _) (Nat.le_refl _))) ?_
  intro W2 hx hrd2
  have HX := Lib.hid hx; have HRD2 := Lib.hid hrd2
  have HF := Lib.hid (nfilled_any l H W1.heap.size (K := fun g => W0.heap.size ≤ g ∧ g < H) W2 hx.box (by have := hx.hH; omega) hrd2 (fun g h => Nat.lt_trans h.2 hrd2.lt) (by rw [HL.out]; omega) (HT.out.grown hx.bel) (by have := HT.out.lt; have := hx.hH; omega))
  obtain ⟨G, hG⟩ : ∃ G, W1.heap.size = G := ⟨_, rfl⟩
  rw [hG] at HX HF ⊢
  clear hx hrd2 hG HRD HB1 HB0 HW0
  go_wp2_with fail
  refine HF.out.mono ?_
  rintro e3 W3 ⟨⟨ns, rest, ee, rfl, hn, hrd3, hee, hr⟩, hbf⟩
  have HN := Lib.hid hn; have HRD3 := Lib.hid hrd3; have HE := Lib.hid hee; have HR := Lib.hid hr
  have HX3 : Hid (TkN l w H G W3) := Lib.hid ⟨hbf.blk HX.out.res (by have := HX.out.hH; omega), hbf.blk HX.out.box (by have := HX.out.hH; omega), HX.out.bel.trans (hbf.below (by have := HX.out.hH; omega) HX.out.bel.size), by have := HX.out.hH; have := hbf.size; omega⟩
  clear hn hrd3 hee hr hbf HX HF
  have HST := Lib.hid (size_nc HN.out)
  have HSA : Hid ((ncells ns).toArray.size = 328) := Lib.hid HN.out.size
  have HON := Lib.hid (ncells_one HN.out.ok)
  go_upto_region 5 with (first | (refine wpList_store_row rfl 170 (.tmp 5) (.tmp 14) rfl W3.heap.size (ncells ns).toArray rfl rfl 170 _ (heap_alloc_new W3 _) HST.out (by rw [HSA.out]; rfl) HON.out ?_) | fail)
  refine (fun (k : ∀ W, Blk W W3.heap.size (ncells ns) 170 → Below W3.heap.size W3 W → Code.wp _ _ _ _ W) => k _ (blk_row1 W3 _ (ncells ns) 170).1 (blk_row1 W3 _ (ncells ns) 170).2) ?_
  intro W4 hb4 hw4
  obtain ⟨G5, hG5⟩ : ∃ G, W3.heap.size = G := ⟨_, rfl⟩
  have HX4 : Hid (TkN l w H G W4) := Lib.hid ⟨HX3.out.res.below hw4 HX3.out.res.lt, HX3.out.box.below hw4 HX3.out.box.lt, HX3.out.bel.trans (hw4.mono HX3.out.bel.size), by have := HX3.out.hH; have := hw4.size; omega⟩
  have HRD4 := Lib.hid (HRD3.out.below hw4 (Nat.le_refl _))
  have HG5 : Hid (H < G5) := Lib.hid (by have := HX3.out.hH; omega)
  rw [hG5] at hb4 ⊢
  have HB4 := Lib.hid hb4
  clear hb4 hw4 hG5 HX3 HRD3
  have cG := HX4.out.box.cell (j := 0) rfl
  have HEN := Lib.hid (end_any H rest ee W4 HRD4.out)
  obtain ⟨ne, hne⟩ : ∃ ne, nodeE l = ne := ⟨_, rfl⟩
  have HNE := Lib.hid hne
  rw [endOf_512 HL.out HE.out (fun h => (HR.out h).1), hne] at HEN
  clear hne
  go_wp2_with fail
  refine HEN.out.mono ?_
  rintro e5 W5 ⟨rfl, -, hbf⟩
  have HRS := Lib.hid (hbf.blk HX4.out.res (by have := HX4.out.hH; omega))
  have HNB := Lib.hid (hbf.blk HB4.out (by have := HG5.out; omega))
  have HBE := Lib.hid (HX4.out.bel.trans (hbf.below (by have := HX4.out.hH; omega) HX4.out.bel.size))
  have HSH := Lib.hid (size_nc holes_ok)
  have HOH := Lib.hid (ncells_one holes_ok.ok)
  have HSZ : Hid ((ncells holes).toArray.size = (ncells ns).toArray.size) := Lib.hid (by rw [holes_ok.size, HN.out.size])
  clear hbf cG HX4 HRD4 HB4 HEN
  by_cases h0 : ne = 0
  · have hns : ns = nodeT l := by unfold nodeT; rw [HNE.out, if_pos h0]; have h1 := HNE.out; unfold nodeE at h1; rw [if_pos HL.out, ← HE.out] at h1; exact (HR.out (h1.trans h0)).2
    have HNS := Lib.hid hns
    have h0' : (ne : Int) = 0 := by omega
    subst h0
    clear hns
    go_wp2_with (first | (refine wpL_val rfl (ex_ldN HN.out HNB.out rfl rfl) ?_) | (refine wpList_store_row rfl 170 (.tmp 2) (.tmp 21) rfl w.heap.size (ncells ns).toArray rfl rfl 170 _ HRS.out HST.out HSZ.out HON.out ?_) | fail)
    refine bodyPost_ret (results_ct Tryz.results117 _ _ w.heap.size 170 _ rfl (HRS.out.row _) Tryz.underlying170 (size_ncl HN.out)) rfl (HQ.out _ _ ⟨?_, below_row HBE.out (Nat.le_refl _) _⟩)
    rw [HNE.out, HNS.out]
    rfl
  · have hns : nodeT l = holes := by unfold nodeT; rw [HNE.out, if_neg h0]
    have HNS := Lib.hid hns
    have h0' : ¬ (ne : Int) = 0 := by omega
    clear hns h0
    go_wp2_with (first | (refine wpL_val rfl (ex_bldN rfl) ?_) | (refine wpList_store_row rfl 170 (.tmp 2) (.tmp 19) rfl w.heap.size (ncells holes).toArray rfl rfl 170 _ HRS.out HSH.out rfl HOH.out ?_) | fail)
    refine bodyPost_ret (results_ct Tryz.results117 _ _ w.heap.size 170 _ rfl (HRS.out.row _) Tryz.underlying170 (size_ncl holes_ok)) rfl (HQ.out _ _ ⟨?_, below_row HBE.out (Nat.le_refl _) _⟩)
    rw [HNE.out, HNS.out]
    rfl
theorem nodeTake_any (l : Bs) (sp : Option Addr) (cap : Nat) (w : World) (hz : sp = none → cap = 0) (hc : l.length ≤ cap) (hS : SrcA w sp l) (hT : RTab w) : Calls Tryz.prog 117 #[.slice sp l.length cap] w (NTakePost l w) := by
  by_cases h : l.length = 512
  · have h1 := nodeTake_512 l sp cap w h hz hc hS hT
    rw [h]
    exact h1
  · exact nodeTake_bad l sp cap w h
structure Chg (F : Nat → Prop) (w w' : World) : Prop where
  os : w'.os = w.os
  tape : w'.tape = w.tape
  output : w'.output = w.output
  size : w.heap.size ≤ w'.heap.size
  block : ∀ k, k < w.heap.size → ¬ F k → w'.heap[k]? = w.heap[k]?
theorem Chg.refl (F : Nat → Prop) (w : World) : Chg F w w := ⟨rfl, rfl, rfl, Nat.le_refl _, fun _ _ _ => rfl⟩
theorem Chg.trans {F G : Nat → Prop} {a b c : World} (h : Chg F a b) (k : Chg G b c) (hG : ∀ i, G i → F i ∨ a.heap.size ≤ i) : Chg F a c :=
  ⟨k.os.trans h.os, k.tape.trans h.tape, k.output.trans h.output, Nat.le_trans h.size k.size, fun i hi hn => (k.block i (Nat.lt_of_lt_of_le hi h.size) (fun hg => by rcases hG i hg with h1 | h1; exact hn h1; omega)).trans (h.block i hi hn)⟩
theorem Chg.trans' {F : Nat → Prop} {a b c : World} (h : Chg F a b) (k : Chg F b c) : Chg F a c := h.trans k (fun _ h => .inl h)
theorem Chg.mono {F G : Nat → Prop} {a b : World} (h : Chg F a b) (hG : ∀ i, F i → G i) : Chg G a b := (Chg.refl G a).trans h (fun i hi => .inl (hG i hi))
theorem Chg.of_below {F : Nat → Prop} {a b : World} (h : Below a.heap.size a b) : Chg F a b := ⟨h.os, h.tape, h.output, h.size, fun k hk _ => h.block k hk⟩
theorem Chg.drew {F : Nat → Prop} {a b : World} (h : Chg F a b) : Chg F a b.drew := ⟨h.os, h.tape, h.output, h.size, h.block⟩
theorem Chg.alloc {F : Nat → Prop} {a b : World} (h : Chg F a b) (o : Obj) : Chg F a (b.alloc o) := h.trans' (Chg.of_below ((Below.refl _ _).alloc (Nat.le_refl _) o))
theorem Chg.setRow {F : Nat → Prop} {a b : World} (h : Chg F a b) {g : Nat} (hg : F g ∨ a.heap.size ≤ g) (c : Array Value) : Chg F a (b.setRow g c) :=
  h.trans (G := fun k => k = g) ⟨rfl, rfl, rfl, by simp, fun k _ hn => setRow_other b g k c hn⟩ (fun i hi => by subst hi; exact hg)
theorem Chg.setCell {F : Nat → Prop} {a b : World} (h : Chg F a b) {g : Nat} (hg : F g ∨ a.heap.size ≤ g) (j : Nat) (v : Value) : Chg F a (b.setCell ⟨g, j, none⟩ v) :=
  h.trans (G := fun k => k = g) ⟨rfl, rfl, rfl, by simp [World.setCell], fun k _ hn => Below.heap_setCell _ _ _ _ hn⟩ (fun i hi => by subst hi; exact hg)
theorem Chg.grown {F : Nat → Prop} {a b c : World} (h : Chg F a b) {r : Option Nat} (hg : b.grownBy c r) (hr : ∀ k, r = some k → F k ∨ a.heap.size ≤ k) : Chg F a c :=
  h.trans (G := fun k => some k = r) ⟨hg.os, hg.tape, hg.output, hg.size, fun k hk hn => hg.block k hk hn⟩ (fun i hi => hr i hi.symm)
theorem Blk.chg {F : Nat → Prop} {w w' : World} {g : Nat} {cs : List Value} {t : TypeId} (h : Blk w g cs t) (hc : Chg F w w') (hn : ¬ F g) : Blk w' g cs t := by
  unfold Blk; rw [hc.block g h.lt hn]; exact h
theorem Blk.same {w : World} {g : Nat} {cs cs' : List Value} {t t' : TypeId} (h : Blk w g cs t) (h' : Blk w g cs' t') : t = t' := by
  unfold Blk at h h'; rw [h] at h'; cases h'; rfl
theorem chg1 (w : World) (g j : Nat) (v : Value) : Chg (fun k => k = g) w (w.setCell ⟨g, j, none⟩ v) := (Chg.refl (fun k => k = g) w).setCell (.inl rfl) j v
def fval (f : Nat) (caps : Array Value) : Value := .func (.func f) #[] caps
end Go.Proofs.YtjgjohdeeeoeoaaGreatDoor
