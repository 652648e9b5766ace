/- What both ways of looking end in. -/
import Derived.Test.YtmgagalhpkieoaaGreatDoorM31
namespace Go.Proofs.YtmgagalhpkieoaaGreatDoor
open Go.RowKit

attribute [local go_sem] Oper.semAt_some

theorem OwnL.form {w : World} {B : Nat} {v : Value} {l : List Cpy} (h : OwnL w B v l) : ∃ sp cap, v = .slice sp l.length cap ∧ l.length ≤ cap ∧ (0 < l.length → ∃ r, sp = some ⟨r, 0, none⟩ ∧ v.ownBlock = some r ∧ r < w.heap.size) := by
  rcases h.2 with ⟨rfl, hn⟩ | ⟨g, cap, cur, rfl, hb, hg, hc, hm, hs, ht⟩
  · exact ⟨none, 0, by rw [hn], by omega, fun h0 => by omega⟩
  · exact ⟨_, cap, rfl, hc, fun _ => ⟨g, rfl, rfl, (Array.getElem?_eq_some_iff.1 hg).1⟩⟩
theorem plcells_at : ∀ (l : List Cpy) (i : Nat) (c : Cpy), l[i]? = some c → (plcells l)[i * 2]? = some (.int .i64 (c.1 : Int)) ∧ (plcells l)[i * 2 + 1]? = some (.int .u16 (c.2 : Int))
  | [], i, c, h => by simp at h
  | y :: l, 0, c, h => by
    simp only [List.getElem?_cons_zero, Option.some.injEq] at h
    subst h
    exact ⟨rfl, rfl⟩
  | y :: l, i + 1, c, h => by
    obtain ⟨h1, h2⟩ := plcells_at l i c (by simpa using h)
    have e : plcells (y :: l) = .int .i64 (y.1 : Int) :: .int .u16 (y.2 : Int) :: plcells l := rfl
    rw [e, show (i + 1) * 2 = i * 2 + 1 + 1 by omega, show i * 2 + 1 + 1 + 1 = (i * 2 + 1) + 1 + 1 by omega]
    exact ⟨h1, h2⟩
theorem OwnL.at' {w : World} {B r n cap : Nat} {l : List Cpy} (h : OwnL w B (.slice (some ⟨r, 0, none⟩) n cap) l) {i : Nat} {c : Cpy} (hc : l[i]? = some c) : w.rangeAt r (i * 2) (plc c) := by
  have hcl := h.cells (g := r) rfl
  obtain ⟨h1, h2⟩ := plcells_at l i c hc
  have e1 := hcl _ _ h1
  have e2 := hcl _ _ h2
  rw [Addr.add_mid, Nat.zero_add] at e1 e2
  intro j v hj
  have hj2 : j < 2 := by have := (List.getElem?_eq_some_iff.1 hj).1; simpa [plc] using this
  obtain rfl | rfl : j = 0 ∨ j = 1 := by omega
  · simp [plc] at hj; subst hj; exact e1
  · simp [plc] at hj; subst hj; exact e2
theorem one_plc (c : Cpy) : (plc c).toArray.all (·.oneCell') = true := by
  rw [Array.all_eq_true']
  intro u hu
  simp [plc] at hu
  rcases hu with rfl | rfl <;> rfl
theorem q_iaL {ρ : Operand → Value} {o : Oper} {x y : Operand} {g n cap k : Nat} {w : World} (ho : o.op = .indexAddr 166 x y) (hx : ρ x = .slice (some ⟨g, 0, none⟩) n cap) (hy : ρ y = .int .i64 (k : Int)) (hk : k < n ∧ n ≤ cap) :
    (execOp ρ o).run Tryz.prog w = .ok (.value (.pointer (some ⟨g, k * 2, none⟩))) w := by
  have h1 : ¬ n ≤ k := by omega
  unfold execOp
  simp only [ho]
  go_simp
def endE (t : Option Bs) : Int := if t.isSome then 0 else 21
def endX (x : Mi Dsk Sp) (p : Pt) (t : Option Bs) (bad : List Cpy) : Mi Dsk Sp := match t with | some b => mends kinD p b x bad | none => x
structure EnPost (g : Nat) (w : World) (lab : Nat → Nat) (P : Pl) (y : Mi Dsk Sp) (t : Option Bs) (e : Ending) (w' : World) : Prop where
  ok : ∃ v lab', e = .returned (.tuple #[v, .int .i64 (endE t)]) ∧ MiAt w' lab' P y ∧ Stp w lab w' lab' ∧ TolB w' lab' g v t
structure EnRel (g : Nat) (w : World) (lab : Nat → Nat) (P : Pl) (x : Mi Dsk Sp) (p : Pt) (b : Bs) (bad : List Cpy) (k : Nat) (wr : World) : Prop where
  ok : ∃ lab', MiAt wr lab' P (mends kinD p b x (bad.take k)) ∧ Stp w lab wr lab' ∧ SeAt g lab' P p (some b) bad wr
theorem mends_take {x : Mi Dsk Sp} {p : Pt} {b : Bs} {bad : List Cpy} {k : Nat} {c : Cpy} (h : bad[k]? = some c) : mends kinD p b x (bad.take (k + 1)) = mend1 kinD p b (mends kinD p b x (bad.take k)) c := by
  rw [take_one h]
  unfold mends
  rw [List.foldl_append]
  rfl
set_option maxRecDepth 100000 in
set_option maxHeartbeats 8000000 in
theorem end_any8 (p : Pt) (hp : p.OK) (g : Nat) (w : World) (lab : Nat → Nat) (P : Pl) (x : Mi Dsk Sp) (n : Nat) (t : Option Bs) (bad : List Cpy) (h : MiAt w lab P x) (hs : SeAt g lab P p t bad w) (hl : Lim x n) (hn : n < 700000) (hbl : bad.length < 1000) (hbd : ∀ c ∈ bad, c.1 < 2 ∧ c.2 < 65536) :
    Calls Tryz.prog 84 #[.pointer (some ⟨g + 1 + 1, 0, none⟩), .pointer (some ⟨g + 1 + 1 + 1, 0, none⟩), .pointer (some ⟨g, 0, none⟩), .pointer (some ⟨g + 1, 0, none⟩)] w (EnPost g w lab P (endX x p t bad) t) := by
  have HP := Lib.hid hp; have HL := Lib.hid hl; have HN := Lib.hid hn; have HBL := Lib.hid hbl; have HBD := Lib.hid hbd; have HM := Lib.hid h; have HS := Lib.hid hs
  have HZ : Hid ((Tryz.prog.info? 58).map (·.size) = some (pcells p).length) := Lib.hid (by rw [sizeP, pcells_length hp])
  obtain ⟨vb, hbb, htb⟩ := hs.bb
  cases t with
  | none =>
    have htb' : vb = .slice none 0 0 := htb
    subst htb'
    have c2 := hbb.cell (j := 0) rfl
    have hsn := q_runEqSn Tryz.underlying59 none 0 0
    have HE : Hid (EnPost g w lab P (endX x p none bad) none (.returned (.tuple #[.slice none 0 0, .int .i64 21])) w) := Lib.hid ⟨_, lab, rfl, h, Stp.refl _ _, rfl⟩
    clear htb hbb hp hl hn hbl hbd h hs
    go_enter Tryz.func84, Tryz.ntmps84
    go_wp2_with fail
    go_ret2
    exact HE.out
  | some b =>
    obtain ⟨gb, rfl, hb5, hbk, hb0⟩ := htb
    obtain ⟨vd, hbd3, hown, hrow⟩ := hs.bd
    obtain ⟨sp, cap, rfl, hcap, hsp⟩ := OwnL.form hown
    obtain ⟨N, hN⟩ : ∃ N, bad.length = N := ⟨_, rfl⟩
    rw [hN] at hbd3 hown hrow hcap hsp
    have c2 := hbb.cell (j := 0) rfl
    have c3 := hbd3.cell (j := 0) rfl
    have hsn := q_runEqSn Tryz.underlying59 (some ⟨gb, 0, none⟩) 512 512
    have HB5 := Lib.hid hb5; have HNN := Lib.hid hN; have HCAP := Lib.hid hcap; have HSP := Lib.hid hsp
    have HN2 : Hid (N < 1000) := Lib.hid (by omega)
    have H0 : Hid (EnRel g w lab P x p b bad 0 w) := Lib.hid ⟨lab, h, Stp.refl _ _, hs⟩
    have HV : Hid (∀ X lab', SeAt g lab' P p (some b) bad X → Stp w lab X lab' → Blk X (g + 1 + 1) [.slice (some ⟨gb, 0, none⟩) 512 512] 59 ∧ Blk X gb (b.map V8) 5 ∧ lab' gb = 0 ∧ OwnL X g (.slice sp N cap) bad) := Lib.hid (fun X lab' hX hst => by
      have z2 : ¬ Foot8 lab (g + 1 + 1) := fun hf => hf.1 (hs.l0 2 (by omega))
      have zb : ¬ Foot8 lab gb := fun hf => hf.1 hb0.1
      refine ⟨hbb.chg hst.chg z2, hbk.chg hst.chg zb, hst.lab0 hbk.lt hb0.1, owns_chg hown hst.chg (fun r hr hf => hf.1 (hrow r hr))⟩)
    have HGB : Hid (g ≤ gb) := Lib.hid hb0.2
    clear hbk hb0 hbb hbd3 hown hrow hcap hsp hN hp hl hn hbl hbd h hs hb5 HM HS
    go_enter Tryz.func84, Tryz.ntmps84
    go_wp2_with fail
    go_loopw [12] (fun i wr => ∃ k : Nat, k ≤ N ∧ i = .int .i64 (k : Int) ∧ EnRel g w lab P x p b bad k wr) (fun i _ => N - (intOf i).toNat)
    case atStart => exact ⟨0, by omega, rfl, H0.out⟩
    case round =>
      clear H0 c2 c3
      obtain ⟨k, hk, rfl, hrel⟩ := hrel
      have HR := Lib.hid hrel
      clear hrel
      have wk1 := IntWalk.i64_in ((k : Int) + 1) (by have := HN2.out; omega)
      by_cases hlt : k < N
      · obtain ⟨c, hc⟩ : ∃ c, bad[k]? = some c := ⟨_, List.getElem?_eq_getElem (by have := HNN.out; omega)⟩
        obtain ⟨r, rfl, -, -⟩ := HSP.out (by omega)
        obtain ⟨lab1, hm1, hst1, hse1⟩ := HR.out
        have hcb := HBD.out c (List.mem_of_getElem? hc)
        obtain ⟨hv1, hv2, hv3, hv4⟩ := HV.out wr lab1 hse1 hst1
        have HKN : Hid (k < N ∧ N ≤ cap) := Lib.hid ⟨hlt, HCAP.out⟩
        have HRG : Hid (wr.rangeAt r (k * 2) (plc c)) := Lib.hid (hv4.at' hc)
        obtain ⟨W1, hW1⟩ : ∃ W1, W1 = (wr.alloc (.cells #[.int .i64 0, .int .u16 0] 115)).setRow wr.heap.size (plc c).toArray := ⟨_, rfl⟩
        have hb1 : Below wr.heap.size wr W1 := by rw [hW1]; exact (blk_row1 _ _ _ _).2
        have HA : Hid (Blk W1 wr.heap.size (plc c) 115) := Lib.hid (by rw [hW1]; exact (blk_row1 _ _ _ _).1)
        have HW1 := Lib.hid hW1
        have HSE := Lib.hid (hse1.below hb1)
        have HM1 := Lib.hid (hm1.below hb1)
        have HB := Lib.hid (hv1.below hb1 hv1.lt)
        have HK2 := Lib.hid (hv2.below hb1 hv2.lt)
        have HLM : Hid (Lim (mends kinD p b x (bad.take k)) (n + k)) := Lib.hid ((Lim.mends p b (bad.take k) x n HL.out).mono (by simp; omega))
        have HST : Hid (Stp w lab W1 lab1) := Lib.hid (hst1.trans (Stp.below hb1))
        have HC := Lib.hid hc; have HCB := Lib.hid hcb
        have HMD := Lib.hid (mend_any p HP.out c hcb.1 hcb.2 b HB5.out gb W1 HK2.out lab1 P _ (n + k) HM1.out HLM.out (by have := HN.out; have := HN2.out; omega))
        have HNEW : Hid ((wr.alloc (.cells #[.int .i64 0, .int .u16 0] 115)).heap[wr.heap.size]? = some (.cells #[.int .i64 0, .int .u16 0] 115 (0, 0))) := Lib.hid (Blk.new wr [.int .i64 0, .int .u16 0] 115)
        have c0 := HSE.out.bm.cell (j := 0) rfl
        have c2 := HB.out.cell (j := 0) rfl
        clear hc hm1 hst1 hse1 hcb hv1 hv2 hv3 hv4 hb1 hW1 HR
        go_wp2_with (first | (refine q_valG (by rfl) (q_iaL rfl rfl rfl HKN.out) ?_) | (refine q_valG (by rfl) (ex_ld (ty := 115) (cs := plc c) rfl rfl HRG.out Tryz.underlying115 rfl q_szPl) ?_) | (refine wpList_store_row rfl 115 (.tmp 7) (.tmp 15) rfl wr.heap.size (plc c).toArray rfl rfl 115 _ HNEW.out q_szPl rfl (one_plc c) ?_; rw [← HW1.out]) | (refine q_valG (by rfl) (ex_ld (ty := 58) (cs := pcells p) rfl rfl (rng_all HSE.out.bp) Tryz.underlying58 rfl HZ.out) ?_) | (refine q_valG (by rfl) (ex_ld (ty := 115) (cs := plc c) rfl rfl (rng_all HA.out) Tryz.underlying115 rfl q_szPl) ?_) | fail)
        refine HMD.out.mono ?_
        rintro e W2 ⟨rfl, lab2, hm2, hst2⟩
        have HN2' : Hid (EnRel g w lab P x p b bad (k + 1) W2) := Lib.hid ⟨lab2, by rw [mends_take HC.out]; exact hm2, HST.out.trans hst2, HSE.out.stp hst2⟩
        clear hm2 hst2 c0 c2 HMD HSE HA HB HK2 HLM HST HM1
        go_wp2_with fail
        go_roundw
        case rel => exact ⟨k + 1, by omega, by go_num, HN2'.out⟩
        case measure => simp [intOf]; omega
      · obtain rfl : k = N := by omega
        obtain ⟨lab1, hm1, hst1, hse1⟩ := HR.out
        obtain ⟨hv1, hv2, hv3, hv4⟩ := HV.out wr lab1 hse1 hst1
        have c2 := hv1.cell (j := 0) rfl
        have HE : Hid (EnPost g w lab P (endX x p (some b) bad) (some b) (.returned (.tuple #[.slice (some ⟨gb, 0, none⟩) 512 512, .int .i64 0])) wr) := Lib.hid ⟨_, lab1, rfl, by have := hm1; rw [List.take_of_length_le (by have := HNN.out; omega)] at this; exact this, hst1, gb, rfl, HB5.out, hv2, hv3, HGB.out⟩
        clear hm1 hst1 hse1 hv1 hv2 hv3 hv4 HR
        go_wp2_with fail
        go_ret2
        exact HE.out
end Go.Proofs.YtmgagalhpkieoaaGreatDoor
