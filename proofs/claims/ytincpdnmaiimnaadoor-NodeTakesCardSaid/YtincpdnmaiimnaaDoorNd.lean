/- Nodes: Put. -/
import Derived.Test.YtincpdnmaiimnaaDoorNc
namespace Go.Proofs.YtincpdnmaiimnaaDoor
open Go.RowKit

def nodeB (ns : List Pt) : Bs := ns.flatMap padB
def fineP (p : Pt) : Bool := eqP p zeroP || mayP p
def putOk (ns : List Pt) : Bool := ns.all fineP
theorem nodeB_length : ∀ {ns : List Pt}, (∀ p ∈ ns, p.OK) → (nodeB ns).length = 64 * ns.length
  | [], _ => rfl
  | p :: ns, h => by
    have ih := nodeB_length (ns := ns) (fun q hq => h q (by simp [hq]))
    have h1 := padB_length (h p (by simp))
    simp only [nodeB, List.flatMap_cons, List.length_append, List.length_cons] at *
    omega
theorem take_snoc {α : Type} {l : List α} {k : Nat} {x : α} (h : l[k]? = some x) : l.take (k + 1) = l.take k ++ [x] := by
  obtain ⟨hk, e⟩ := List.getElem?_eq_some_iff.1 h
  rw [List.take_succ_eq_append_getElem hk, e]
theorem nodeB_take {ns : List Pt} {k : Nat} {p : Pt} (h : ns[k]? = some p) : nodeB (ns.take (k + 1)) = nodeB (ns.take k) ++ padB p := by
  rw [take_snoc h]; simp [nodeB]
theorem putOk_take {ns : List Pt} {k : Nat} {p : Pt} (h : ns[k]? = some p) : putOk (ns.take (k + 1)) = (putOk (ns.take k) && fineP p) := by
  rw [take_snoc h]; simp [putOk]
theorem putOk_no {ns : List Pt} {k : Nat} {p : Pt} (h : ns[k]? = some p) (hf : fineP p = false) : putOk ns = false := by
  unfold putOk
  rw [List.all_eq_false]
  exact ⟨p, List.mem_of_getElem? h, by simp [hf]⟩
theorem len_takeB {ns : List Pt} (h : NOK ns) {k : Nat} (hk : k ≤ 8) : (nodeB (ns.take k)).length = 64 * k := by
  rw [nodeB_length (fun p hp => h.ok p (List.mem_of_mem_take hp)), List.length_take, h.len, Nat.min_eq_left hk]
def NPutPost (ns : List Pt) (w : World) (x : Ending) (w' : World) : Prop :=
  ((putOk ns = true ∧ ∃ v, x = .returned (.tuple #[v, .int .i64 0]) ∧ OwnB w' w.heap.size v (nodeB ns)) ∨ (putOk ns = false ∧ x = .returned (.tuple #[.slice none 0 0, .int .i64 5]))) ∧ Below w.heap.size w w'
def NPutRel (ns : List Pt) (w : World) (v i : Value) (wr : World) : Prop := ∃ k : Nat, k ≤ 8 ∧ i = .int .i64 (k : Int) ∧ putOk (ns.take k) = true ∧ OwnB wr w.heap.size v (nodeB (ns.take k)) ∧ Below w.heap.size w wr
theorem ownB_none (w : World) (B : Nat) : OwnB w B (.slice none 0 0) [] := ⟨by simp, .inl ⟨rfl, rfl⟩⟩
set_option maxRecDepth 100000 in
set_option maxHeartbeats 8000000 in
theorem nodePut_any (ns : List Pt) (h : NOK ns) (w : World) (hT : RTab w) : Calls Tryd.prog 8 #[.agg (ncells ns).toArray] w (NPutPost ns w) := by
  have HP := Lib.hid h
  have HT := Lib.hid hT
  have HB := Lib.hid (Blk.new w (ncells ns) 35)
  have HW : Hid (Below w.heap.size w (w.alloc (.cells (ncells ns).toArray 35))) := Lib.hid ((Below.refl _ _).alloc (Nat.le_refl _) _)
  have HPOST : Hid (∀ x w', NPutPost ns w x w' → NPutPost ns w x w') := Lib.hid fun _ _ h => h
  generalize hPost : NPutPost ns w = Post
  have HQ : Hid (∀ x w', NPutPost ns w x w' → Post x w') := Lib.hid fun x w' h => by rw [← hPost]; exact h
  clear h hT hPost HPOST
  go_enter Tryd.func8, Tryd.ntmps8
  go_wp2_with (first | (refine wpL_val rfl (ex_ldN HP.out HB.out rfl rfl) ?_) | fail)
  have HR : Hid (NPutRel ns w (.slice none 0 0) (.int .i64 0) (w.alloc (.cells (ncells ns).toArray 35))) := Lib.hid ⟨0, by omega, rfl, rfl, ownB_none _ _, HW.out⟩
  clear HB HW
  go_loopw [4, 8] (fun v i wr => NPutRel ns w v i wr) (fun _ i _ => 8 - (intOf i).toNat)
  case atStart => exact HR.out
  case round =>
    clear HR
    obtain ⟨k, hk, rfl, hok, hO, hB⟩ := hrel
    obtain ⟨sp4, cap4, e, q1, q2, q3, q4, q5⟩ := OwnB.form hO
    rw [len_takeB HP.out hk] at e
    subst e
    have HB := Lib.hid hB
    have HO := Lib.hid hO
    have HOK := Lib.hid hok
    have HS4 := Lib.hid q3
    have HZ4 := Lib.hid q4
    clear hB hO hok q1 q2 q3 q4 q5
    have wk1 := IntWalk.i64_in ((k : Int) + 1) (by omega)
    by_cases hlt : k < 8
    · obtain ⟨p, hp⟩ := HP.out.get hlt
      have hix : ∀ W : World, (Instr.index 35 (.agg (ncells ns).toArray) (.int .i64 (k : Int))).run Tryd.prog W = .ok (.agg (pcells p).toArray) W := fun W => run_ixT Tryd.underlying35 HP.out hp W
      have HPO := Lib.hid (HP.out.at hp)
      have HST := Lib.hid (size_pc HPO.out)
      have HLP : Hid ((pcells p).toArray.size = 41) := Lib.hid (by rw [List.size_toArray, pcells_length HPO.out])
      have HAT := Lib.hid hp
      clear hp
      go_upto_region 5 with (first | (refine wpList_store_row rfl 28 (.tmp 6) (.tmp 10) rfl wr.heap.size (pcells p).toArray rfl rfl 28 _ (heap_alloc_new wr _) HST.out (by rw [HLP.out]; rfl) (one_pc p) ?_) | fail)
      refine (fun (k : ∀ W, Blk W wr.heap.size (pcells p) 28 → Below wr.heap.size wr W → Code.wp _ _ _ _ W) => k _ (blk_row1 wr _ (pcells p) 28).1 (blk_row1 wr _ (pcells p) 28).2) ?_
      intro W5 hx5 hb5
      have HX5 := Lib.hid hx5
      have HB5 := Lib.hid hb5
      have HSN := Lib.hid (len_takeB HP.out hk)
      have HPT : Hid (∀ W, Below wr.heap.size wr W → Calls Tryd.prog 21 #[.slice sp4 (64 * k : Nat) cap4, .agg (pcells p).toArray] W fun e w' => ∃ v, e = .returned v ∧ OwnB w' w.heap.size v (nodeB (ns.take (k + 1))) ∧ Below w.heap.size w w') := Lib.hid fun W hb => by
        have h1 := ptrPut_any p HPO.out (nodeB (ns.take k)) sp4 cap4 W (by rw [HSN.out]; omega) (HS4.out.below hb (Nat.le_refl _)) HZ4.out
        rw [HSN.out, ← nodeB_take HAT.out] at h1
        have hb2 := HB.out.trans (hb.mono HB.out.size)
        exact h1.mono fun e w' ⟨v, e1, e2, e3⟩ => ⟨v, e1, e2.mono hb2.size, hb2.trans (e3.mono hb2.size)⟩
      clear hx5 hb5
      go_wp2_with (first | (refine wpL_valG (by rfl) (ex_ldP HPO.out HX5.out rfl rfl) ?_) | fail)
      refine (hole_any p HPO.out W5).mono ?_
      rintro e w6 ⟨rfl, hb6⟩
      have HX6 := Lib.hid (HX5.out.below hb6 HX5.out.lt)
      have HB6 := Lib.hid (HB5.out.trans (hb6.mono HB5.out.size))
      clear hb6 HX5 HB5
      cases hz : eqP p zeroP
      · have HF : Hid (fineP p = mayP p) := Lib.hid (by unfold fineP; rw [hz]; rfl)
        clear hz
        go_wp2_with (first | (refine wpL_valG (by rfl) (ex_ldP HPO.out HX6.out rfl rfl) ?_) | fail)
        refine (may_any p HPO.out w6 (HT.out.grown (HB.out.trans (HB6.out.mono HB.out.size)))).mono ?_
        rintro e w7 ⟨rfl, hb7⟩
        have HX7 := Lib.hid (HX6.out.below hb7 HX6.out.lt)
        have HB7 := Lib.hid (HB6.out.trans (hb7.mono HB6.out.size))
        clear hb7 HX6 HB6
        cases hm : mayP p
        · rw [hm] at HF
          clear hm
          have HPN := Lib.hid (putOk_no HAT.out HF.out)
          have HBE := Lib.hid (HB.out.trans (HB7.out.mono HB.out.size))
          go_wp2_with fail
          exact HQ.out _ _ ⟨.inr ⟨HPN.out, rfl⟩, HBE.out⟩
        · rw [hm] at HF
          clear hm
          go_wp2_with (first | (refine wpL_val rfl (ex_ldP HPO.out HX7.out rfl rfl) ?_) | fail)
          refine (HPT.out w7 HB7.out).mono ?_
          rintro e w8 ⟨v8, rfl, ho8, hb8⟩
          have HO8 := Lib.hid ho8
          have HB8 := Lib.hid hb8
          clear ho8 hb8
          go_wp2_with fail
          go_roundw
          case rel => exact ⟨k + 1, by omega, by go_num, by rw [putOk_take HAT.out, HOK.out, HF.out]; rfl, HO8.out, HB8.out⟩
          case measure => simp [intOf]; omega
      · have HF : Hid (fineP p = true) := Lib.hid (by unfold fineP; rw [hz]; rfl)
        clear hz
        go_wp2_with (first | (refine wpL_val rfl (ex_ldP HPO.out HX6.out rfl rfl) ?_) | fail)
        refine (HPT.out w6 HB6.out).mono ?_
        rintro e w8 ⟨v8, rfl, ho8, hb8⟩
        have HO8 := Lib.hid ho8
        have HB8 := Lib.hid hb8
        clear ho8 hb8
        go_wp2_with fail
        go_roundw
        case rel => exact ⟨k + 1, by omega, by go_num, by rw [putOk_take HAT.out, HOK.out, HF.out]; rfl, HO8.out, HB8.out⟩
        case measure => simp [intOf]; omega
    · obtain rfl : k = 8 := by omega
      rw [List.take_of_length_le (by rw [HP.out.len]; omega)] at HO HOK
      rw [show ((8 : Nat) : Int) = (8 : Int) from rfl]
      clear HS4 HZ4 hlt hk
      go_wp2_with fail
      exact HQ.out _ _ ⟨.inl ⟨HOK.out, _, rfl, HO.out⟩, HB.out⟩
end Go.Proofs.YtincpdnmaiimnaaDoor
