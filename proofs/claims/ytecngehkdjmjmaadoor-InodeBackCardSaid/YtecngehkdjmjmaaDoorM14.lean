/- InodeBack, walked. -/
import Derived.Test.YtecngehkdjmjmaaDoorM13
import Derived.Test.YtecngehkdjmjmaaDoorM10
import Derived.Test.YtecngehkdjmjmaaDoorM08
import Derived.Test.YtecngehkdjmjmaaDoorM01
import Derived.ProofKit
import Derived.OpenShut
import Derived.Test.YtecngehkdjmjmaaDoorM05
import Derived.Deep.QuietTactic
import Derived.BigQuiet
import Derived.StillTailTactics
import Derived.WalkKit
import Derived.Lib.Hide
import Derived.Test.YtecngehkdjmjmaaDoorM02
import Derived.LaidMore
import Derived.Stop.Joined
namespace Go.Proofs.YtecngehkdjmjmaaDoor
open Go.RowKit

theorem ex_eqSt {ρ : Operand → Value} {o : Oper} {x y : Operand} {k : TypeId} {a : Bs} {w : World} (ho : o.op = .binOp .eql 9 x y k) (hx : ρ x = .string (bstr a)) (hy : ρ y = .string (bstr a)) : (execOp ρ o).run Tryd.prog w = .ok (.value (.bool true)) w := by
  have h := ex_eql (w := w) ho hx hy
  rw [decide_eq_true rfl] at h
  exact h
theorem ex_neBs {ρ : Operand → Value} {o : Oper} {x y : Operand} {w : World} {ns : List Ino} (h : BOK ns) (ho : o.op = .binOp .neq 34 x y 34) (hx : ρ x = .agg (bcells ns).toArray) (hy : ρ y = .agg (bcells ns).toArray) : (execOp ρ o).run Tryd.prog w = .ok (.value (.bool false)) w := by
  have h := ex_neBn (w := w) h h ho hx hy
  rw [decide_eq_true rfl] at h
  exact h
theorem ex_eqBz {ρ : Operand → Value} {o : Oper} {x y : Operand} {w : World} {ns : List Ino} (hz : ns = zeros4) (h : BOK ns) (ho : o.op = .binOp .eql 34 x y 34) (hx : ρ x = .agg (bcells ns).toArray) (hy : ρ y = .agg (bcells zeros4).toArray) : (execOp ρ o).run Tryd.prog w = .ok (.value (.bool true)) w := by
  have h := ex_eqBn (w := w) h zeros4_ok ho hx hy
  rw [decide_eq_true hz] at h
  exact h
/-- So many inodes copied. -/
def cpyI (k : Nat) (ns : List Ino) : List Ino := ns.take k ++ zeros4.drop k
theorem cpyI_ok {ns : List Ino} (h : BOK ns) {k : Nat} (hk : k ≤ 4) : BOK (cpyI k ns) := ⟨by simp [cpyI, zeros4, h.len]; omega, fun p hp => by
  simp only [cpyI, List.mem_append] at hp
  rcases hp with hp | hp
  · exact h.ok p (List.mem_of_mem_take hp)
  · exact zeros4_ok.ok p (List.mem_of_mem_drop hp)⟩
theorem cpyI_next {ns : List Ino} (h : BOK ns) {k : Nat} (hk : k < 4) {n : Ino} (hn : ns[k]? = some n) : cpyI (k + 1) ns = (cpyI k ns).set k n := by
  have e3 : (ns.take k).length = k := by rw [List.length_take, h.len]; omega
  have hz : k < zeros4.length := by simp [zeros4]; omega
  unfold cpyI
  have e4 : zeros4.drop k = zeros4[k] :: zeros4.drop (k + 1) := List.drop_eq_getElem_cons hz
  rw [itake_snoc hn, List.set_append_right _ _ (by omega), e3, Nat.sub_self, e4, List.set_cons_zero, List.append_assoc]
  rfl
theorem cpyI_four {ns : List Ino} (h : BOK ns) : cpyI 4 ns = ns := by
  unfold cpyI
  rw [List.take_of_length_le (by rw [h.len]; omega), List.drop_of_length_le (by simp [zeros4]), List.append_nil]
structure IbW (ns xs : List Ino) (l : Bs) (sp : Option Addr) (w W : World) : Prop where
  a : Blk W w.heap.size (bcells ns) 31
  x : Blk W (w.heap.size + 1) (bcells xs) 34
  src : SrcA W sp l
  tab : RTab W
  bel : Below w.heap.size w W
theorem IbW.grown {ns xs : List Ino} {l : Bs} {sp : Option Addr} {w W W' : World} (h : IbW ns xs l sp w W) (hb : Below W.heap.size W W') : IbW ns xs l sp w W' :=
  ⟨h.a.below hb h.a.lt, h.x.below hb h.x.lt, h.src.grown hb, h.tab.grown hb, h.bel.trans (hb.mono h.bel.size)⟩
theorem IbW.put {ns xs : List Ino} {l : Bs} {sp : Option Addr} {w W : World} (h : IbW ns xs l sp w W) (hS : SrcA w sp l) (hT : RTab w) (hn : BOK xs) {k : Nat} (hk : k < 4) {q : Ino} (hq : q.OK) : IbW ns (xs.set k q) l sp w (W.setCells (w.heap.size + 1) (k * 44) (icells q)) :=
  have hb : Below w.heap.size w (W.setCells (w.heap.size + 1) (k * 44) (icells q)) := below_setsI _ _ _ h.bel (by omega)
  ⟨blk_setCells_other (by omega) _ _ _ _ h.a, blk_setI hn h.x hk (Nat.mul_comm k 44) hq, hS.grown hb, hT.grown hb, hb⟩
set_option maxRecDepth 100000 in
set_option maxHeartbeats 16000000 in
theorem inodeBack_go (ns : List Ino) (h : BOK ns) (l : Bs) (sp : Option Addr) (cap : Nat) (w : World) (hl : l.length ≤ 600) (hc : l.length ≤ cap) (hz : sp = none → cap = 0) (hS : SrcA w sp l) (hT : RTab w) :
    Calls Tryd.prog 6 #[.agg (bcells ns).toArray, .slice sp l.length cap] w fun e w' => e = .returned (.bool true) ∧ Below w.heap.size w w' := by
  have HP := Lib.hid h; have HSS := Lib.hid hS; have HTT := Lib.hid hT
  have HX : Hid (∀ z, z = (bcells zeros4).toArray → IbW ns zeros4 l sp w ((w.alloc (.cells (bcells ns).toArray 31)).alloc (.cells z 34))) := Lib.hid (fun z hz => by
    subst hz
    have hb : Below w.heap.size w ((w.alloc (.cells (bcells ns).toArray 31)).alloc (.cells (bcells zeros4).toArray 34)) := ((Below.refl _ _).alloc (Nat.le_refl _) _).alloc (by simp) _
    exact ⟨(Blk.new _ _ _).alloc _, Blk.new' _ _ _ _ _ (by simp) rfl, hS.grown hb, hT.grown hb, hb⟩)
  have HTK : Hid (∀ W, SrcA W sp l → RTab W → Calls Tryd.prog 13 #[.slice sp l.length cap] W (ITakePost l W)) := Lib.hid fun W h1 h2 => itake_any l sp cap W (by omega) hz hc h1 h2
  obtain ⟨L, hL⟩ : ∃ L, l.length = L := ⟨_, rfl⟩
  have HL := Lib.hid hL
  rw [hL] at HTK ⊢
  have i1 : ¬ ((600 : Int) < (L : Int)) := by omega
  have HSN := Lib.hid (size_bcB h)
  have HSA : Hid ((bcells ns).toArray.size = 176) := Lib.hid h.size
  have HON := Lib.hid (bcells_one ns)
  have HTO := Lib.hid (inoT_ok l)
  have HST := Lib.hid (size_bcB HTO.out)
  have HSC : Hid ((bcells (inoT l)).toArray.size = 176) := Lib.hid HTO.out.size
  have HOT := Lib.hid (bcells_one (inoT l))
  have HZO := Lib.hid zeros4_ok
  have HE05 : Hid ((inoE l = 0 ∧ inoOk l = true) ∨ (inoE l = 5 ∧ inoT l = zeros4)) := Lib.hid (by
    unfold inoE inoT
    cases hh : inoOk l
    · exact .inr ⟨rfl, rfl⟩
    · exact .inl ⟨rfl, rfl⟩)
  have HWK : Hid (∀ W, Below w.heap.size w W → RTab W → Calls Tryd.prog 11 #[] W fun e w' => e = .returned (.bool true) ∧ Below w.heap.size w w') := Lib.hid fun W hb ht => (iwakes_any W ht).mono fun e w' ⟨h1, h2⟩ => ⟨h1, hb.trans (h2.mono hb.size)⟩
  generalize hPost : (fun e w' => e = Ending.returned (.bool true) ∧ Below w.heap.size w w') = Post
  have HPP : Hid (∀ w', Below w.heap.size w w' → Post (.returned (.bool true)) w') := Lib.hid fun w' h => by rw [← hPost]; exact ⟨rfl, h⟩
  clear h hl hc hz hS hT hL hPost
  go_enter Tryd.func6, Tryd.ntmps6
  go_upto_region 4 with fail
  refine (fun (k : ∀ W, IbW ns zeros4 l sp w W → Code.wp _ _ _ _ W) => k _ (HX.out _ rfl)) ?_
  intro W0 h0
  have HX0 := Lib.hid h0
  clear h0 HX
  go_wp2_with fail
  go_loopw [6] (fun i wr => ∃ k : Nat, k ≤ 4 ∧ i = .int .i64 (k : Int) ∧ IbW ns (cpyI k ns) l sp w wr) (fun i _ => 4 - (intOf i).toNat)
  case atStart => exact ⟨0, by omega, rfl, HX0.out⟩
  case round =>
    clear HX0
    obtain ⟨k, hk, rfl, hx⟩ := hrel
    have HXk := Lib.hid hx
    clear hx
    have wk1 := IntWalk.i64_in ((k : Int) + 1) (by omega)
    by_cases hlt : k < 4
    · obtain ⟨n, hn⟩ := HP.out.get hlt
      have HNO := Lib.hid (HP.out.at hn)
      have HAT := Lib.hid hn
      have HLT := Lib.hid hlt
      clear hn
      go_wp2_with (first | (refine wpL_valG (by rfl) (ex_iaA HLT.out rfl rfl rfl) ?_) | (refine wpL_valG (by rfl) (ex_ldER HP.out HXk.out.a HAT.out (Nat.mul_comm k 44) rfl rfl) ?_) | fail)
      refine (of_any n HNO.out wr).mono ?_
      rintro e w3 ⟨rfl, hb3⟩
      have hx3 := HXk.out.grown hb3
      have HX4 := Lib.hid (hx3.put HSS.out HTT.out (cpyI_ok HP.out hk) hlt HNO.out)
      rw [← cpyI_next HP.out hlt HAT.out] at HX4
      have HTH : Hid (w3.there (w.heap.size + 1) (k * 44) (icells n).toArray.size) := Lib.hid (hx3.x.there _ _ (by rw [List.size_toArray, icells_length HNO.out, (cpyI_ok HP.out hk).cells]; omega))
      have HSZ := Lib.hid (size_icI HNO.out)
      clear hx3 hb3 HXk HAT
      go_wp2_with (first | (refine wpL_valG (by rfl) (ex_iaB HLT.out rfl rfl rfl) ?_) | (refine wpList_store_mid rfl 32 (.tmp 28) (.tmp 27) rfl (w.heap.size + 1) (k * 44) (icells n).toArray rfl rfl HTH.out HSZ.out (one_ic n) ?_) | fail)
      go_roundw
      case rel => exact ⟨k + 1, by omega, by go_num, HX4.out⟩
      case measure => simp [intOf]; omega
    · obtain rfl : k = 4 := by omega
      rw [show ((4 : Nat) : Int) = (4 : Int) from rfl]
      rw [cpyI_four HP.out] at HXk
      clear hlt hk wk1
      have HPU := Lib.hid (iput_any ns HP.out wr HXk.out.tab)
      go_wp2_with (first | (refine wpL_valG (by rfl) (ex_ldBn HP.out HXk.out.x rfl rfl) ?_) | fail)
      refine HPU.out.mono ?_
      rintro e W2 ⟨h5 | h5, hb2⟩
      · obtain ⟨hok, v5, rfl, ho5⟩ := h5
        obtain ⟨hE, hT⟩ := iput_back HP.out hok
        have hE0 : inoE (blkB ns) = 0 := by unfold inoE; rw [if_pos hE]
        obtain ⟨sp5, cap5, rfl, r1, r2, r3, r4, r5⟩ := OwnB.form ho5
        have HX2 := Lib.hid (HXk.out.grown hb2)
        have hlen : (blkB ns).length = 512 := inoOk_long hE
        have htk := itake_any (blkB ns) sp5 cap5 W2 (by omega) r4 r1 r3 HX2.out.tab
        unfold ITakePost at htk
        rw [hE0, hT, hlen] at htk
        rw [hlen]
        have HT5 := Lib.hid htk
        clear hok hE hE0 hT ho5 r1 r2 r3 r4 r5 hb2 htk hlen HXk HPU
        go_wp2_with fail
        refine HT5.out.mono ?_
        rintro e W3 ⟨rfl, hb3⟩
        have HX3 := Lib.hid (HX2.out.grown hb3)
        rw [show ((0 : Nat) : Int) = (0 : Int) from rfl]
        clear hb3 HX2 HT5
        go_upto_region 11 with (first | (refine wpList_store_row rfl 34 (.tmp 9) (.tmp 39) rfl W3.heap.size (bcells ns).toArray rfl rfl 34 _ (heap_alloc_new W3 _) HSN.out (by rw [HSA.out]; rfl) HON.out ?_) | fail)
        refine (fun (k : ∀ W, Blk W W3.heap.size (bcells ns) 34 → Below W3.heap.size W3 W → Code.wp _ _ _ _ W) => k _ (blk_row1 W3 _ (bcells ns) 34).1 (blk_row1 W3 _ (bcells ns) 34).2) ?_
        intro W4 hn4 hb4
        obtain ⟨g4, hg4⟩ : ∃ g, W3.heap.size = g := ⟨_, rfl⟩
        have HXz := Lib.hid (HX3.out.grown hb4)
        rw [hg4] at hn4 ⊢
        have HM4 := Lib.hid hn4
        clear hn4 hb4 hg4 HX3
        go_wp2_with (first | (refine wpL_valG (by rfl) (ex_ldBn HP.out HM4.out rfl rfl) ?_) | (refine wpL_valG (by rfl) (ex_ldBn HP.out HXz.out.x rfl rfl) ?_) | (refine wpL_valG (by rfl) (ex_neBs HP.out rfl rfl rfl) ?_) | fail)
        clear HM4
        refine (HTK.out _ HXz.out.src HXz.out.tab).mono ?_
        rintro e W5 ⟨rfl, hb5⟩
        have HX5 := Lib.hid (HXz.out.grown hb5)
        clear hb5 HXz HTK
        go_upto_region 14 with (first | (refine wpList_store_row rfl 34 (.tmp 11) (.tmp 51) rfl W5.heap.size (bcells (inoT l)).toArray rfl rfl 34 _ (heap_alloc_new W5 _) HST.out (by rw [HSC.out]; rfl) HOT.out ?_) | fail)
        refine (fun (k : ∀ W, Blk W W5.heap.size (bcells (inoT l)) 34 → Below W5.heap.size W5 W → Code.wp _ _ _ _ W) => k _ (blk_row1 W5 _ (bcells (inoT l)) 34).1 (blk_row1 W5 _ (bcells (inoT l)) 34).2) ?_
        intro W6 hn6 hb6
        obtain ⟨g6, hg6⟩ : ∃ g, W5.heap.size = g := ⟨_, rfl⟩
        have HX6 := Lib.hid (HX5.out.grown hb6)
        rw [hg6] at hn6 ⊢
        have HM6 := Lib.hid hn6
        clear hn6 hb6 hg6 HX5
        rcases HE05.out with ⟨e0, hio⟩ | ⟨e5, hiz⟩
        · obtain ⟨hm, hbk⟩ := itake_back hio
          have HTB := Lib.hid hbk
          rw [e0, show ((0 : Nat) : Int) = (0 : Int) from rfl]
          have HP7 := Lib.hid (iput_any (inoT l) HTO.out W6 HX6.out.tab)
          have HMM := Lib.hid hm
          clear hm hbk hio e0 HE05
          go_wp2_with (first | (refine wpL_valG (by rfl) (ex_ldBn HTO.out HM6.out rfl rfl) ?_) | fail)
          refine HP7.out.mono ?_
          rintro e W7 ⟨h7 | h7, hb7⟩
          rotate_left
          · exact absurd (h7.1.symm.trans HMM.out) (by decide)
          obtain ⟨-, v7, rfl, ho7⟩ := h7
          rw [HTB.out] at ho7
          obtain ⟨sp7, cap7, rfl, -, -, r3, -, -⟩ := OwnB.form ho7
          have HS7 := Lib.hid r3
          have HX7 := Lib.hid (HX6.out.grown hb7)
          rw [HL.out]
          clear ho7 r3 hb7 HX6 HM6 HP7
          go_wp2_with (first | (refine wpL_valG (by rfl) (ex_cvs rfl HL.out rfl HS7.out) ?_) | (refine wpL_valG (by rfl) (ex_cvs rfl HL.out rfl HX7.out.src) ?_) | (refine wpL_valG (by rfl) (ex_eqSt rfl rfl rfl) ?_) | fail)
          refine (HWK.out _ HX7.out.bel HX7.out.tab).mono ?_
          rintro e W8 ⟨rfl, hb8⟩
          have HE := Lib.hid (HPP.out _ hb8)
          clear hb8
          go_wp2_with fail
          first | exact HE.out | (go_ret; exact HE.out)
        · rw [e5, show ((5 : Nat) : Int) = (5 : Int) from rfl]
          have HIZ := Lib.hid hiz
          clear hiz e5 HE05
          go_wp2_with (first | (refine wpL_valG (by rfl) (ex_ldBn HTO.out HM6.out rfl rfl) ?_) | (refine wpL_valG (by rfl) (ex_bldB0 rfl) ?_) | (refine wpL_valG (by rfl) (ex_eqBz HIZ.out HTO.out rfl rfl rfl) ?_) | fail)
          refine (HWK.out _ HX6.out.bel HX6.out.tab).mono ?_
          rintro e W8 ⟨rfl, hb8⟩
          have HE := Lib.hid (HPP.out _ hb8)
          clear hb8
          go_wp2_with fail
          first | exact HE.out | (go_ret; exact HE.out)
      · obtain ⟨hno, rfl⟩ := h5
        have HXz := Lib.hid (HXk.out.grown hb2)
        clear hno hb2 HXk HPU
        go_wp2_with fail
        refine (HTK.out _ HXz.out.src HXz.out.tab).mono ?_
        rintro e W5 ⟨rfl, hb5⟩
        have HX5 := Lib.hid (HXz.out.grown hb5)
        clear hb5 HXz HTK
        go_upto_region 14 with (first | (refine wpList_store_row rfl 34 (.tmp 11) (.tmp 51) rfl W5.heap.size (bcells (inoT l)).toArray rfl rfl 34 _ (heap_alloc_new W5 _) HST.out (by rw [HSC.out]; rfl) HOT.out ?_) | fail)
        refine (fun (k : ∀ W, Blk W W5.heap.size (bcells (inoT l)) 34 → Below W5.heap.size W5 W → Code.wp _ _ _ _ W) => k _ (blk_row1 W5 _ (bcells (inoT l)) 34).1 (blk_row1 W5 _ (bcells (inoT l)) 34).2) ?_
        intro W6 hn6 hb6
        obtain ⟨g6, hg6⟩ : ∃ g, W5.heap.size = g := ⟨_, rfl⟩
        have HX6 := Lib.hid (HX5.out.grown hb6)
        rw [hg6] at hn6 ⊢
        have HM6 := Lib.hid hn6
        clear hn6 hb6 hg6 HX5
        rcases HE05.out with ⟨e0, hio⟩ | ⟨e5, hiz⟩
        · obtain ⟨hm, hbk⟩ := itake_back hio
          have HTB := Lib.hid hbk
          rw [e0, show ((0 : Nat) : Int) = (0 : Int) from rfl]
          have HP7 := Lib.hid (iput_any (inoT l) HTO.out W6 HX6.out.tab)
          have HMM := Lib.hid hm
          clear hm hbk hio e0 HE05
          go_wp2_with (first | (refine wpL_valG (by rfl) (ex_ldBn HTO.out HM6.out rfl rfl) ?_) | fail)
          refine HP7.out.mono ?_
          rintro e W7 ⟨h7 | h7, hb7⟩
          rotate_left
          · exact absurd (h7.1.symm.trans HMM.out) (by decide)
          obtain ⟨-, v7, rfl, ho7⟩ := h7
          rw [HTB.out] at ho7
          obtain ⟨sp7, cap7, rfl, -, -, r3, -, -⟩ := OwnB.form ho7
          have HS7 := Lib.hid r3
          have HX7 := Lib.hid (HX6.out.grown hb7)
          rw [HL.out]
          clear ho7 r3 hb7 HX6 HM6 HP7
          go_wp2_with (first | (refine wpL_valG (by rfl) (ex_cvs rfl HL.out rfl HS7.out) ?_) | (refine wpL_valG (by rfl) (ex_cvs rfl HL.out rfl HX7.out.src) ?_) | (refine wpL_valG (by rfl) (ex_eqSt rfl rfl rfl) ?_) | fail)
          refine (HWK.out _ HX7.out.bel HX7.out.tab).mono ?_
          rintro e W8 ⟨rfl, hb8⟩
          have HE := Lib.hid (HPP.out _ hb8)
          clear hb8
          go_wp2_with fail
          first | exact HE.out | (go_ret; exact HE.out)
        · rw [e5, show ((5 : Nat) : Int) = (5 : Int) from rfl]
          have HIZ := Lib.hid hiz
          clear hiz e5 HE05
          go_wp2_with (first | (refine wpL_valG (by rfl) (ex_ldBn HTO.out HM6.out rfl rfl) ?_) | (refine wpL_valG (by rfl) (ex_bldB0 rfl) ?_) | (refine wpL_valG (by rfl) (ex_eqBz HIZ.out HTO.out rfl rfl rfl) ?_) | fail)
          refine (HWK.out _ HX6.out.bel HX6.out.tab).mono ?_
          rintro e W8 ⟨rfl, hb8⟩
          have HE := Lib.hid (HPP.out _ hb8)
          clear hb8
          go_wp2_with fail
          first | exact HE.out | (go_ret; exact HE.out)
theorem inodeBack_walk (ns : List Ino) (h : BOK ns) (l : Bs) (sp : Option Addr) (cap : Nat) (w : World) (hc : l.length ≤ cap) (_hm : cap ≤ maxLen) (hz : sp = none → cap = 0) (hS : SrcA w sp l) (hT : RTab w) : Calls Tryd.prog 6 #[.agg (bcells ns).toArray, .slice sp l.length cap] w fun e w' => e = .returned (.bool true) ∧ Below w.heap.size w w' := by
  by_cases hl : l.length ≤ 600
  · exact inodeBack_go ns h l sp cap w hl hc hz hS hT
  · have HT : Hid (RTab (w.alloc (.cells (bcells ns).toArray 31))) := Lib.hid (hT.alloc _)
    have HB : Hid (Below w.heap.size w (w.alloc (.cells (bcells ns).toArray 31))) := Lib.hid ((Below.refl _ _).alloc (Nat.le_refl _) _)
    obtain ⟨L, hL⟩ : ∃ L, l.length = L := ⟨_, rfl⟩
    rw [hL] at hl ⊢
    have i1 : (600 : Int) < (L : Int) := by omega
    clear h hL hl hc hz hS hT
    go_enter Tryd.func6, Tryd.ntmps6
    go_wp2_with fail
    generalize (w.alloc (.cells (bcells ns).toArray 31)) = W at HT HB ⊢
    refine (iwakes_any W HT.out).mono ?_
    rintro e w2 ⟨rfl, hb2⟩
    have HE := Lib.hid (HB.out.trans (hb2.mono HB.out.size))
    clear hb2
    go_wp2_with fail
    go_ret
    exact ⟨rfl, HE.out⟩
end Go.Proofs.YtecngehkdjmjmaaDoor
/- What the rows need: bytes that came in, opened. -/
namespace Go.Proofs.YtecngehkdjmjmaaDoor
open Go.ChangeShapes Go.WideShapes Go.ChangeAt Go.RowKit

theorem own : ownKnob Tryd.prog.godebug = none := by kernel_rfl
theorem laidOut : laidOutB Tryd.prog = true := by kernel_rfl
theorem cellsB : Tryd.prog.cellsOf 5 = 1 := by kernel_rfl
theorem lt_of_cell {w : World} {g o : Nat} {v : Value} (h : w.cell? ⟨g, o, none⟩ = some v) : g < w.heap.size := by
  rcases Nat.lt_or_ge g w.heap.size with h1 | h1
  · exact h1
  · simp [World.cell?, Array.getElem?_eq_none h1] at h
set_option maxRecDepth 100000 in
/-- A slice of bytes that came in. -/
theorem open_bytes {H : Type} {enc : TypeId × Value → H} {W : World} {spare : Nat → Bool} {held : Bool} {b b' : Nat} {v : Value} {d : DataW H} {p : List MemPlace}
    (ho : Value.okWide Tryd.prog W .any b 38 v) (h : DataW.Trod enc Tryd.prog W b' spare held 38 v d p) :
    ∃ (l : List (BitVec 8)) (sp : Option Addr) (cap : Nat), v = .slice sp l.length cap ∧ l.length ≤ cap ∧ cap ≤ maxLen ∧ (sp = none → cap = 0) ∧ SrcA W sp l := by
  obtain ⟨a0, len, cap, rfl⟩ := okWide_slice Tryd.underlying38 ho
  obtain ⟨fuel, hf⟩ := h
  rcases open_ints Tryd.underlying38 Tryd.underlying5 cellsB hf with ⟨hcs, hx⟩ | ⟨a, len', cap', zs, hcs, _, hl, hm, hz, hx, hcell, hwz⟩
  · simp [Value.cells] at hcs
    obtain ⟨rfl, rfl, rfl⟩ := hcs
    exact ⟨[], none, 0, rfl, by simp, by unfold maxLen; omega, fun _ => rfl, SrcA.nil _ _⟩
  · simp [Value.cells] at hcs
    obtain ⟨rfl, rfl, rfl⟩ := hcs
    have hlz : len ≤ zs.length := by rw [hz]; split <;> omega
    have hlen : ((zs.take len).map (fun m => BitVec.ofNat 8 m.toNat)).length = len := by simp; omega
    refine ⟨(zs.take len).map (fun m => BitVec.ofNat 8 m.toNat), some a, cap, by rw [hlen], by omega, hm, (fun h0 => by cases h0), fun h0 => ?_⟩
    rw [hlen] at h0
    obtain ⟨g, o, rfl, hc⟩ := ints_at hcell (by omega)
    have hcl : ∀ j, j < len → W.cell? ⟨g, o + j, none⟩ = some (V8 (((zs.take len).map (fun m => BitVec.ofNat 8 m.toNat)).getD j 0)) := fun j hj => by
      have hj' : j < zs.length := by omega
      have hb := bounds_u8 (hwz _ (List.getElem_mem hj'))
      rw [hc j hj']
      simp only [List.getD_eq_getElem?_getD, List.getElem?_map, List.getElem?_take, if_pos hj, List.getElem?_eq_getElem hj', Option.map_some, Option.getD_some, V8, N8, BitVec.toNat_ofNat]
      congr 2
      omega
    exact ⟨g, o, rfl, lt_of_cell (hc 0 (by omega)), fun j hj => hcl j (by rw [hlen] at hj; exact hj)⟩
end Go.Proofs.YtecngehkdjmjmaaDoor
/- Pointers that came in; the tables as they are laid. -/
namespace Go.Proofs.YtecngehkdjmjmaaDoor
open Go.ChangeShapes Go.WideShapes Go.ChangeAt Go.WideMaps Go.WideElems Go.RowKit

theorem tRu : (Tryd.prog.globals[0]?).map (·.type) = some 98 := by kernel_rfl
theorem cellsRu : Tryd.prog.cellsOf 89 = 3 := by kernel_rfl
theorem cellsRus : Tryd.prog.cellsOf 98 = 18 := by kernel_rfl
theorem cellsInt : Tryd.prog.cellsOf 3 = 1 := by kernel_rfl
theorem exists_list (P : Nat → Int → Prop) : ∀ n : Nat, (∀ i, i < n → ∃ m, P i m) → ∃ ns : List Int, ns.length = n ∧ ∀ i, i < n → P i (ns.getD i 0)
  | 0, _ => ⟨[], rfl, fun i hi => by omega⟩
  | n + 1, h => by
    obtain ⟨ns, hl, hp⟩ := exists_list P n (fun i hi => h i (by omega))
    obtain ⟨m, hm⟩ := h n (by omega)
    refine ⟨ns ++ [m], by simp [hl], fun i hi => ?_⟩
    by_cases hin : i < n
    · have := hp i hin
      rw [List.getD_eq_getElem?_getD, List.getElem?_append_left (by omega), ← List.getD_eq_getElem?_getD]
      exact this
    · obtain rfl : i = n := by omega
      rw [List.getD_eq_getElem?_getD, List.getElem?_append_right (by omega)]
      simpa [hl] using hm
theorem trod_int_array {H : Type} {enc : TypeId × Value → H} {P : Program} {w : World} {base fuel : Nat} {spare : Nat → Bool} {held : Bool} {t e n : Nat} {k : IntKind} {cs : List Value} {x : DataW H × List MemPlace}
    (ht : P.underlying t = some (.array n e)) (he : P.underlying e = some (.int k)) (hc : P.cellsOf e = 1) (hct : P.cellsOf t = n) (h : DataW.trod enc P w base spare held fuel t cs = some x) :
    ∃ ns : List Int, ns.length = n ∧ cs = ns.map (Value.int k) ∧ x.1 = .agg (ns.map fun m => .lit (.int k m)) ∧ ∀ i, i < n → (Lit.int k (ns.getD i 0)).wf = true := by
  obtain ⟨xs, m, rfl, rfl, hl, hn, hel⟩ := DataW.trod_array ht h
  obtain ⟨ns, hnl, hns⟩ := exists_list (fun i m => cs[i]? = some (.int k m) ∧ (xs[i]?).map (·.1) = some (.lit (.int k m)) ∧ (Lit.int k m).wf = true) n (fun i hi => by
    have h1 := hel i hi
    rw [hc, Nat.mul_one] at h1
    have hxi : xs[i]? = some xs[i] := List.getElem?_eq_getElem (by omega)
    rw [hxi] at h1
    obtain ⟨q, e1, e2, e3⟩ := DataW.trod_int he h1
    refine ⟨q, ?_, by rw [hxi]; simp [e2], e3⟩
    have hci : i < cs.length := by omega
    have e4 : (cs.drop i).take 1 = [cs[i]] := by
      rw [List.drop_eq_getElem_cons hci]; rfl
    rw [e4] at e1
    rw [List.getElem?_eq_getElem hci]
    simpa using e1)
  refine ⟨ns, hnl, ?_, ?_, fun i hi => (hns i hi).2.2⟩
  · apply List.ext_getElem?
    intro i
    by_cases hi : i < n
    · rw [(hns i hi).1, List.getElem?_map, List.getElem?_eq_getElem (by omega)]
      simp [List.getD_eq_getElem?_getD, List.getElem?_eq_getElem (show i < ns.length by omega)]
    · rw [List.getElem?_eq_none (by omega), List.getElem?_eq_none (by simp; omega)]
  · show DataW.agg _ = DataW.agg _
    refine congrArg DataW.agg ?_
    apply List.ext_getElem?
    intro i
    by_cases hi : i < n
    · rw [List.getElem?_map, (hns i hi).2.1, List.getElem?_map, List.getElem?_eq_getElem (by omega)]
      simp [List.getD_eq_getElem?_getD, List.getElem?_eq_getElem (show i < ns.length by omega)]
    · rw [List.getElem?_eq_none (by simp; omega), List.getElem?_eq_none (by simp; omega)]
section
variable {H : Type} {enc : TypeId × Value → H} {W : World} {spare : Nat → Bool} {held : Bool} {b' : Nat}
theorem bytes_of {n : Nat} {ns : List Int} (hl : ns.length = n) (hw : ∀ i, i < n → (Lit.int .u8 (ns.getD i 0)).wf = true) : ns.map (Value.int .u8) = (ns.map fun m => BitVec.ofNat 8 m.toNat).map V8 := by
  rw [List.map_map]
  apply List.map_congr_left
  intro m hm
  obtain ⟨i, hi, rfl⟩ := List.mem_iff_getElem.1 hm
  have hbd := bounds_u8 (hw i (by omega))
  rw [List.getD_eq_getElem?_getD, List.getElem?_eq_getElem hi] at hbd
  simp only [Option.getD_some] at hbd
  simp only [Function.comp_apply, V8, N8, BitVec.toNat_ofNat]
  congr 1
  omega
theorem u16_of {n : Nat} {ns : List Int} (hl : ns.length = n) (hw : ∀ i, i < n → (Lit.int .u16 (ns.getD i 0)).wf = true) : ns.map (Value.int .u16) = (ns.map Int.toNat).map U16 ∧ ∀ x ∈ ns.map Int.toNat, x < 65536 := by
  have hb : ∀ m ∈ ns, 0 ≤ m ∧ m < 65536 := fun m hm => by
    obtain ⟨i, hi, rfl⟩ := List.mem_iff_getElem.1 hm
    have hbd := bounds_u16 (hw i (by omega))
    rw [List.getD_eq_getElem?_getD, List.getElem?_eq_getElem hi] at hbd
    simp only [Option.getD_some] at hbd
    omega
  constructor
  · rw [List.map_map]
    apply List.map_congr_left
    intro m hm
    have := hb m hm
    simp only [Function.comp_apply, U16]
    congr 1
    omega
  · intro x hx
    obtain ⟨m, hm, rfl⟩ := List.mem_map.1 hx
    have := hb m hm
    omega
theorem cellsU16 : Tryd.prog.cellsOf 22 = 1 := by kernel_rfl
theorem cellsU32 : Tryd.prog.cellsOf 23 = 1 := by kernel_rfl
theorem cellsU64 : Tryd.prog.cellsOf 24 = 1 := by kernel_rfl
theorem cellsA32 : Tryd.prog.cellsOf 25 = 32 := by kernel_rfl
theorem cellsAts : Tryd.prog.cellsOf 26 = 4 := by kernel_rfl
theorem cellsP : Tryd.prog.cellsOf 28 = 41 := by kernel_rfl
theorem cut_parts (cs : List Value) (hl : cs.length = 41) : cs = cs.take 1 ++ ((cs.drop 1).take 1 ++ ((cs.drop 2).take 1 ++ ((cs.drop 3).take 1 ++ ((cs.drop 4).take 1 ++ ((cs.drop 5).take 32 ++ (cs.drop 37).take 4))))) := by
  have g : ∀ n m, (cs.drop n).take m ++ cs.drop (n + m) = cs.drop n := fun n m => by rw [← List.drop_drop, List.take_append_drop]
  have h1 : (cs.drop 37).take 4 = cs.drop 37 := List.take_of_length_le (by simp [hl])
  rw [h1, g 5 32, g 4 1, g 3 1, g 2 1, g 1 1, List.take_append_drop]
theorem cells_ptr {fuel : Nat} {cs : List Value} {x : DataW H × List MemPlace} (h : DataW.trod enc Tryd.prog W b' spare held fuel 28 cs = some x) : ∃ p : Pt, p.OK ∧ cs = pcells p := by
  obtain ⟨xs, k, _, _, hl, hxl, hfl⟩ := DataW.trod_struct Tryd.underlying28 h
  rw [cellsP] at hl
  match xs, hxl with
  | [y0, y1, y2, y3, y4, y5, y6], _ =>
    have g0 := hfl 0 _ rfl
    have g1 := hfl 1 _ rfl
    have g2 := hfl 2 _ rfl
    have g3 := hfl 3 _ rfl
    have g4 := hfl 4 _ rfl
    have g5 := hfl 5 _ rfl
    have g6 := hfl 6 _ rfl
    simp [cellsB, cellsU16, cellsU32, cellsU64, cellsA32, cellsAts] at g0 g1 g2 g3 g4 g5 g6
    obtain ⟨z0, e0, _, w0⟩ := DataW.trod_int Tryd.underlying5 g0
    obtain ⟨z1, e1, _, w1⟩ := DataW.trod_int Tryd.underlying5 g1
    obtain ⟨z2, e2, _, w2⟩ := DataW.trod_int Tryd.underlying22 g2
    obtain ⟨z3, e3, _, w3⟩ := DataW.trod_int Tryd.underlying23 g3
    obtain ⟨z4, e4, _, w4⟩ := DataW.trod_int Tryd.underlying24 g4
    obtain ⟨n5, l5, e5, _, w5⟩ := trod_int_array Tryd.underlying25 Tryd.underlying5 cellsB cellsA32 g5
    obtain ⟨n6, l6, e6, _, w6⟩ := trod_int_array Tryd.underlying26 Tryd.underlying22 cellsU16 cellsAts g6
    have b0 := bounds_u8 w0
    have b1 := bounds_u8 w1
    have b2 := bounds_u16 w2
    have b3 := bounds_u32 w3
    have b4 := bounds_u64 w4
    obtain ⟨u1, u2⟩ := u16_of l6 w6
    refine ⟨⟨z0.toNat, z1.toNat, z2.toNat, z3.toNat, z4.toNat, n5.map fun m => BitVec.ofNat 8 m.toNat, n6.map Int.toNat⟩, ⟨by simp only; omega, by simp only; omega, by simp only; omega, by simp only; omega, by simp only; omega, by simp [l5], by simp [l6], u2⟩, ?_⟩
    rw [bytes_of l5 w5] at e5
    rw [u1] at e6
    have hcp := cut_parts cs hl
    have tl : (cs.drop 1).take 1 = cs.tail.take 1 := by rw [List.drop_one]
    rw [tl] at hcp
    rw [hcp]
    first | rw [e0, e1, e2, e3, e4, e5, e6] | rw [List.drop_one, e0, e1, e2, e3, e4, e5, e6]
    simp only [pcells, pnums]
    rw [show ((z0.toNat : Nat) : Int) = z0 by omega, show ((z1.toNat : Nat) : Int) = z1 by omega, show ((z2.toNat : Nat) : Int) = z2 by omega, show ((z3.toNat : Nat) : Int) = z3 by omega, show ((z4.toNat : Nat) : Int) = z4 by omega]
    rfl
theorem three {α : Type} : ∀ cs : List α, cs.length = 3 → ∃ a b c, cs = [a, b, c]
  | [a, b, c], _ => ⟨a, b, c, rfl⟩
set_option maxRecDepth 100000 in
theorem trod_rule {fuel : Nat} {cs : List Value} {x : DataW H × List MemPlace} (h : DataW.trod enc Tryd.prog W b' spare held fuel 89 cs = some x) : ∃ a b c, cs = [.int .i64 a, .int .u8 b, .int .u8 c] ∧ x.1 = .agg [.lit (.int .i64 a), .lit (.int .u8 b), .lit (.int .u8 c)] := by
  obtain ⟨xs, k, _, rfl, hl, hxl, hfl⟩ := DataW.trod_struct Tryd.underlying89 h
  rw [cellsRu] at hl
  obtain ⟨c0, c1, c2, rfl⟩ := three cs hl
  match xs, hxl with
  | [y0, y1, y2], _ =>
    have g0 := hfl 0 _ rfl
    have g1 := hfl 1 _ rfl
    have g2 := hfl 2 _ rfl
    simp [cellsB, cellsInt] at g0 g1 g2
    obtain ⟨z0, e0, f0, _⟩ := DataW.trod_int Tryd.underlying3 g0
    obtain ⟨z1, e1, f1, _⟩ := DataW.trod_int Tryd.underlying5 g1
    obtain ⟨z2, e2, f2, _⟩ := DataW.trod_int Tryd.underlying5 g2
    refine ⟨z0, z1, z2, ?_, ?_⟩
    · simp at e0 e1 e2
      rw [e0, e1, e2]
    · rw [f0, f1, f2]; rfl
theorem cut18 (cs : List Value) (hl : cs.length = 18) : cs = cs.take 3 ++ ((cs.drop 3).take 3 ++ ((cs.drop 6).take 3 ++ ((cs.drop 9).take 3 ++ ((cs.drop 12).take 3 ++ (cs.drop 15).take 3)))) := by
  have g : ∀ n m, (cs.drop n).take m ++ cs.drop (n + m) = cs.drop n := fun n m => by rw [← List.drop_drop, List.take_append_drop]
  have h1 : (cs.drop 15).take 3 = cs.drop 15 := List.take_of_length_le (by simp [hl])
  rw [h1, g 12 3, g 9 3, g 6 3, g 3 3, List.take_append_drop]
set_option maxRecDepth 100000 in
theorem trod_rules {fuel : Nat} {cs : List Value} {x : DataW H × List MemPlace} (h : DataW.trod enc Tryd.prog W b' spare held fuel 98 cs = some x) (hx : x.1 = Rows.laid_kintsugi_ptr_rules) : cs = (List.range 6).flatMap rcell := by
  obtain ⟨xs, m, rfl, rfl, hl, hn, hel⟩ := DataW.trod_array Tryd.underlying98 h
  rw [cellsRus] at hl
  rw [cellsRu] at hel
  match xs, hn with
  | [y0, y1, y2, y3, y4, y5], _ =>
    obtain ⟨a0, b0, c0, e0, f0⟩ := trod_rule (x := y0) (hel 0 (by omega))
    obtain ⟨a1, b1, c1, e1, f1⟩ := trod_rule (x := y1) (hel 1 (by omega))
    obtain ⟨a2, b2, c2, e2, f2⟩ := trod_rule (x := y2) (hel 2 (by omega))
    obtain ⟨a3, b3, c3, e3, f3⟩ := trod_rule (x := y3) (hel 3 (by omega))
    obtain ⟨a4, b4, c4, e4, f4⟩ := trod_rule (x := y4) (hel 4 (by omega))
    obtain ⟨a5, b5, c5, e5, f5⟩ := trod_rule (x := y5) (hel 5 (by omega))
    simp only [List.map_cons, List.map_nil, f0, f1, f2, f3, f4, f5, Rows.laid_kintsugi_ptr_rules, DataW.agg.injEq, List.cons.injEq, DataW.lit.injEq, Lit.int.injEq, true_and, and_true] at hx
    rw [cut18 cs hl]
    simp only [Nat.zero_mul, List.drop_zero] at e0
    rw [e0, e1, e2, e3, e4, e5]
    obtain ⟨⟨rfl, rfl, rfl⟩, ⟨rfl, rfl, rfl⟩, ⟨rfl, rfl, rfl⟩, ⟨rfl, rfl, rfl⟩, ⟨rfl, rfl, rfl⟩, ⟨rfl, rfl, rfl⟩⟩ := hx
    rfl
end
theorem row_of {W : World} {n : String} {g : Nat} {cs : Array Value} (hg : Tryd.prog.globalNamed n = some g) (hv : W.var? Tryd.prog n = some cs) : ∃ t fr, W.heap[g]? = some (.cells cs t fr) := by
  unfold World.var? at hv
  rw [hg] at hv
  simp only [Option.bind_some] at hv
  split at hv
  · rename_i cs' t fr hh
    obtain rfl := Option.some.inj hv
    exact ⟨t, fr, hh⟩
  · cases hv
end Go.Proofs.YtecngehkdjmjmaaDoor
