/- Acts on a mirror: Great. -/
import Derived.Test.YtmgagalhpkieoaaGreatDoorM36
import Derived.Test.YtmgagalhpkieoaaGreatDoorM25
import Derived.Test.YtmgagalhpkieoaaGreatDoorM24
import Derived.Test.YtmgagalhpkieoaaGreatDoorM30
import Derived.Test.YtmgagalhpkieoaaGreatDoorM34
import Derived.Test.YtmgagalhpkieoaaGreatDoorM20
import Derived.Laws.CopyOwn
import Derived.Test.YtmgagalhpkieoaaGreatDoorM35
namespace Go.Proofs.YtmgagalhpkieoaaGreatDoor
open Go.RowKit

theorem sizeDA : (Tryz.prog.info? 63).map (·.size) = some 7 := by kernel_rfl
theorem infoDA : (Tryz.prog.info? 63).map (fun i => (i.zero.map (·.cells.size), i.size, decide (i.bytes ≤ 1000))) = some (some 7, 7, true) := by kernel_rfl
theorem info_partsDA : ∃ i z, Tryz.prog.info? 63 = some i ∧ i.zero = some z ∧ z.cells.size = 7 ∧ i.size = 7 ∧ i.bytes ≤ 1000 := by
  obtain ⟨i, h1, h2⟩ := Option.map_eq_some_iff.1 infoDA
  simp only [Prod.mk.injEq] at h2
  obtain ⟨z, hz, hz2⟩ := Option.map_eq_some_iff.1 h2.1
  exact ⟨i, z, h1, hz, hz2, h2.2.1, of_decide_eq_true h2.2.2⟩
theorem q_oneA (a : Ac) {ρ : Operand → Value} {o : Oper} {x : Operand} {w : World} (ho : o.op = .buildSlice 90 1 #[(0, x)]) (hx : ρ x = .agg (acs a).toArray) :
    (execOp ρ o).run Tryz.prog w = .ok (.value (.slice (some ⟨w.heap.size, 0, none⟩) 1 1)) (w.alloc (.cells (acs a).toArray 63)) := by
  obtain ⟨i, z, hi, hz, hzs, his, hib⟩ := info_partsDA
  have hr := run_buildSlice (P := Tryz.prog) w 90 63 1 #[(0, .agg (acs a).toArray)] (acs a).toArray i z Tryz.underlying90 hi hz (by rw [his]; omega) (by rw [his]; omega)
    (fill_whole (size := 7) (by simp [his]) (by simp [Value.cells, acs_len]) (by simp [his]))
  unfold execOp
  simp only [ho]
  rw [show (Array.map (fun x : Nat × Operand => (x.1, ρ x.2)) #[(0, x)]) = #[(0, .agg (acs a).toArray)] by simp [hx]]
  simp only [Sem.run_bind, hr, Result.andThen_ok]
  rfl
theorem actC_44 {d : Int} {p : Pt} (hp : p.OK) {v : Value} {wr : Bool} {D : List Value} : actC d p v wr D = (actC d p v wr D).take 44 ++ (D ++ []) := by
  have h := pcells_length hp
  have e : actC d p v wr D = (.int .u8 d :: (pcells p ++ [v, .bool wr])) ++ D := by simp [actC]
  rw [List.append_nil]
  conv => lhs; rw [e]
  rw [e, List.take_left' (by simp [h])]
theorem Ma.row44 {w W : World} {m : Ma} (h : MaOK w m) {g o : Nat} (hr : W.rangeAt g o m.cells) : W.rangeAt g (o + 44) (acs m.a) := fun j v hv => by
  have hj : j < 7 := by have := (List.getElem?_eq_some_iff.1 hv).1; rw [acs_len] at this; exact this
  have e : m.cells[44 + j]? = some v := by
    have h1 := h.len
    unfold Ma.cells at h1 ⊢
    rw [actC_44 h.p, List.append_nil, List.getElem?_append_right (by rw [List.length_take, h1]; omega), List.length_take, h1]
    rw [show 44 + j - min 44 51 = j by omega]
    exact hv
  have := hr (44 + j) v e
  rw [← Nat.add_assoc] at this
  exact this
theorem acts_one {W : World} {a : Ac} (h : AcOK W a) {g : Nat} (hb : Blk W g (acs a) 63) : ActsAt W (some ⟨g, 0, none⟩) [a] :=
  ⟨fun x hx => by simp at hx; subst hx; exact h, fun _ => ⟨g, 0, rfl, hb.lt, fun i x hi j hj => by
    match i, hi with
    | 0, hi =>
      simp only [List.getElem?_cons_zero, Option.some.injEq] at hi
      subst hi
      have := hb.cell (acs_at a hj)
      simpa using this⟩⟩
theorem many_drop {l : List Ma} {k : Nat} {a : Ma} (h : l[k]? = some a) : (l.drop k).any mbig = (mbig a || (l.drop (k + 1)).any mbig) := by
  obtain ⟨h1, h2⟩ := List.getElem?_eq_some_iff.1 h
  rw [List.drop_eq_getElem_cons h1, List.any_cons, h2]
def GrRel8 (l : List Ma) (w : World) (i : Value) (wr : World) : Prop := ∃ k : Nat, k ≤ l.length ∧ i = .int .i64 (k : Int) ∧ (l.drop k).any mbig = l.any mbig ∧ Below w.heap.size w wr
set_option maxRecDepth 100000 in
set_option maxHeartbeats 4000000 in
theorem mgreat_any (l : List Ma) (sp : Option Addr) (n cap : Nat) (hn : l.length = n) (hc : n ≤ cap) (hm : cap ≤ maxLen) (w : World) (h : MActsAt w sp l) : Calls Tryz.prog 5 #[.slice sp n cap] w fun e w' => e = .returned (.bool (mgreat l)) ∧ Below w.heap.size w w' := by
  have HN := Lib.hid hn
  by_cases h1 : (60 : Int) < (n : Int)
  · have hg : mgreat l = true := by unfold mgreat; rw [decide_eq_true (by omega : 60 < l.length)]; rfl
    rw [hg]
    clear hn h hg
    go_enter Tryz.func5, Tryz.ntmps5
    go_wp2_with fail
    go_ret
    exact ⟨rfl, Below.refl _ _⟩
  · have hn60 : n ≤ 60 := by omega
    have HA := Lib.hid h
    obtain ⟨G, hG⟩ : ∃ G, mgreat l = G := ⟨_, rfl⟩
    have HG : Hid (l.any mbig = G) := Lib.hid (by rw [← hG]; unfold mgreat; rw [decide_eq_false (by omega : ¬ 60 < l.length)]; rfl)
    rw [hG]
    clear h hn hG
    go_enter Tryz.func5, Tryz.ntmps5
    go_wp2_with fail
    have HR := Lib.hid (show GrRel8 l w (.int .i64 0) w from ⟨0, Nat.zero_le _, rfl, by simp, Below.refl _ _⟩)
    go_loopw [3] (fun i wr => GrRel8 l w i wr) (fun i _ => n - (intOf i).toNat)
    case atStart => exact HR.out
    case round =>
      clear HR
      obtain ⟨k, hk, rfl, hany, hb⟩ := hrel
      have HANY := Lib.hid hany
      have HB := Lib.hid hb
      rw [HN.out] at hk
      clear hany hb
      have hwk := IntWalk.i64_in ((k : Int) + 1) (by omega)
      by_cases hlt : k < n
      · have hkL : k < l.length := by have := HN.out; omega
        obtain ⟨a, ha⟩ : ∃ a, l[k]? = some a := ⟨_, List.getElem?_eq_getElem hkL⟩
        obtain ⟨g, o, rfl, hg, hcl⟩ := HA.out.2 (by omega)
        have hok := HA.out.1 a (List.mem_of_getElem? ha)
        have hrg := range_below (hcl k a ha) HB.out hg
        have c42 := hrg 42 _ (actC_42 hok.p)
        have HRW := Lib.hid (Ma.row44 hok hrg)
        have HOK := Lib.hid (hok.a.below HB.out (Nat.le_refl _))
        have HX := Lib.hid ha
        clear hcl ha hkL hg hrg hok
        by_cases hbig : (600 : Int) < (a.b.length : Int)
        · obtain rfl : G = true := by
            rw [← HG.out, ← HANY.out, many_drop HX.out]
            unfold mbig
            rw [decide_eq_true (by omega : 600 < a.b.length)]
            rfl
          go_wp2_with fail
          go_ret
          exact ⟨rfl, HB.out⟩
        · have hz := great_any [a.a] (some ⟨wr.heap.size, 0, none⟩) 1 1 rfl (by omega) (by unfold maxLen; omega) (wr.alloc (.cells (acs a.a).toArray 63)) (acts_one (HOK.out.below ((Below.refl _ _).alloc (Nat.le_refl _) _) (Nat.le_refl _)) (Blk.new _ _ _))
          obtain ⟨z, hz2⟩ : ∃ z, great [a.a] = z := ⟨_, rfl⟩
          rw [hz2] at hz
          have HZ := Lib.hid hz
          have HE : Hid (mbig a = z) := Lib.hid (by unfold mbig; rw [decide_eq_false (by omega : ¬ 600 < a.b.length), hz2]; rfl)
          have HB2 : Hid (Below w.heap.size w (wr.alloc (.cells (acs a.a).toArray 63))) := Lib.hid (HB.out.alloc HB.out.size _)
          clear hz hz2 HOK
          go_wp2_with (first | (refine q_valG (by rfl) (ex_ld (ty := 63) (cs := acs a.a) rfl rfl HRW.out Tryz.underlying63 rfl (by rw [sizeDA, acs_len])) ?_) | (refine q_valG (by rfl) (q_oneA a.a rfl rfl) ?_) | fail)
          refine HZ.out.mono ?_
          rintro e w6 ⟨rfl, rfl⟩
          cases z
          · go_wp2_with fail
            go_roundw
            case rel => exact ⟨k + 1, by have := HN.out; omega, by go_num, by rw [← HANY.out, many_drop HX.out, HE.out]; rfl, HB2.out⟩
            case measure => simp [intOf]; omega
          · obtain rfl : G = true := by
              rw [← HG.out, ← HANY.out, many_drop HX.out, HE.out]
              rfl
            go_wp2_with fail
            go_ret
            exact ⟨rfl, HB2.out⟩
      · obtain rfl : k = n := by omega
        obtain rfl : G = false := by
          rw [← HG.out, ← HANY.out, List.drop_of_length_le (by rw [HN.out]; exact Nat.le_refl _)]
          rfl
        clear hk
        go_wp2_with fail
        go_ret
        exact ⟨rfl, HB.out⟩
end Go.Proofs.YtmgagalhpkieoaaGreatDoor
/- A pair of disks under a mirror; how many of a pointer's copies are good. -/
namespace Go.Proofs.YtmgagalhpkieoaaGreatDoor
open Go.RowKit

/-- The law's pair, a mirror's state being x. -/
structure PrS (w0 W : World) (lab : Nat → Nat) (X : Nat) (P : Pl) (x : Mi Dsk Sp) : Prop where
  mi : MiAt W lab P x
  pr : Blk W X [.pointer (some ⟨P.Q, 0, none⟩), .pointer (some ⟨P.D 0, 0, none⟩), .pointer (some ⟨P.D 1, 0, none⟩), .pointer (some ⟨P.K, 0, none⟩), .pointer (some ⟨P.M, 0, none⟩)] 33
  lx : lab X = 0
  xw : w0.heap.size ≤ X
  own : ∀ b, lab b ≠ 0 → lab b ≠ 8 → w0.heap.size ≤ b
  bel : Below w0.heap.size w0 W
section
variable {w0 W W' : World} {lab lab' : Nat → Nat} {X : Nat} {P : Pl} {x y : Mi Dsk Sp}
theorem PrS.stp (h : PrS w0 W lab X P x) (hm : MiAt W' lab' P y) (hs : Stp W lab W' lab') : PrS w0 W' lab' X P y := by
  refine ⟨hm, hs.blk h.pr h.lx, hs.lab0 h.pr.lt h.lx, h.xw, fun b h1 h2 => ?_, h.bel.trans (hs.chg.below (fun k hk => h.own k hk.1 hk.2) h.bel.size)⟩
  by_cases hb : b < W.heap.size
  · rcases hs.eq b hb with e | e
    · rw [e] at h1 h2; exact h.own b h1 h2
    · exact absurd e h1
  · have := h.bel.size; omega
theorem PrS.post (h : PrS w0 W lab X P x) (hp : MiPost W lab P y W') : ∃ lab', PrS w0 W' lab' X P y := by
  obtain ⟨l', h1, h2⟩ := hp
  exact ⟨l', h.stp h1 h2⟩
theorem PrS.below (h : PrS w0 W lab X P x) (hb : Below W.heap.size W W') : PrS w0 W' lab X P x := h.stp (h.mi.below hb) (Stp.below hb)
theorem PrS.new (h : PrS w0 W lab X P x) {g : Nat} (hg : W.heap.size ≤ g) : lab g = 0 := by
  by_cases e : lab g = 0
  · exact e
  · have := h.mi.lt g e; omega
theorem PrS.old (h : PrS w0 W lab X P x) {g : Nat} (hg : g < w0.heap.size) {k : Nat} (hk : k ≠ 0) (hk8 : k ≠ 8) : lab g ≠ k := fun e => by
  have := h.own g (by rw [e]; exact hk) (by rw [e]; exact hk8)
  omega
theorem PrS.cp (h : PrS w0 W lab X P x) : W.cell? ⟨X, 0, none⟩ = some (.pointer (some ⟨P.Q, 0, none⟩)) := h.pr.cell rfl
theorem PrS.cs (h : PrS w0 W lab X P x) : W.cell? ⟨X, 3, none⟩ = some (.pointer (some ⟨P.K, 0, none⟩)) := h.pr.cell rfl
theorem PrS.cm (h : PrS w0 W lab X P x) : W.cell? ⟨X, 4, none⟩ = some (.pointer (some ⟨P.M, 0, none⟩)) := h.pr.cell rfl
theorem PrS.cd (h : PrS w0 W lab X P x) {k : Nat} (hk : k < 2) : W.cell? ⟨X, 1 + k, none⟩ = some (.pointer (some ⟨P.D k, 0, none⟩)) := by
  match k, hk with
  | 0, _ => exact h.pr.cell rfl
  | 1, _ => exact h.pr.cell rfl
theorem PrS.drew (h : PrS w0 W lab X P x) : PrS w0 W.drew lab X P x := h.below (Below.refl _ _).drew
end
theorem beg_prs {w w' : World} {X : Nat} {P : Pl} {lab : Nat → Nat} {n : Nat} (h : Beg w w' X P lab n) : PrS w w' lab X P (start n) := ⟨h.mi, h.pr, h.lx, h.xw, h.own, h.bel⟩
/-- Is a copy good, power or none? -/
def gdL (x : Mi Dsk Sp) (p : Pt) (c : Cpy) : Bool := match look (x.d c.1) c.2 with | some b => fitsP p b | none => false
def goodN (x : Mi Dsk Sp) (p : Pt) (ats : List Nat) : Nat := (copiesFrom 0 ats).countP (gdL x p)
theorem goodN_skip {x : Mi Dsk Sp} {p : Pt} {l : List Nat} {k : Nat} (h : l[k]? = some 0) : goodN x p (l.take (k + 1)) = goodN x p (l.take k) := by
  obtain ⟨hk, e⟩ := List.getElem?_eq_some_iff.1 h
  unfold goodN
  rw [List.take_succ_eq_append_getElem hk, e, copiesFrom_append]
  simp [copiesFrom]
theorem goodN_step {x : Mi Dsk Sp} {p : Pt} {l : List Nat} {k a : Nat} (h : l[k]? = some a) (ha : a ≠ 0) : goodN x p (l.take (k + 1)) = goodN x p (l.take k) + (if gdL x p (k / 2, a) then 1 else 0) := by
  obtain ⟨hk, e⟩ := List.getElem?_eq_some_iff.1 h
  unfold goodN
  rw [List.take_succ_eq_append_getElem hk, e, copiesFrom_append]
  simp only [copiesFrom, if_neg ha, List.length_take, Nat.min_eq_left (Nat.le_of_lt hk), Nat.zero_add, List.countP_append, List.countP_cons, List.countP_nil]
theorem ex_quo2 {ρ : Operand → Value} {o : Oper} {x : Operand} {k j : Nat} {w : World} (hj : k / 2 = j) (hk : k < 4) (ho : o.op = .binOp .quo 3 x (.const (.int .i64 2)) 3) (hc : ρ (.const (.int .i64 2)) = .int .i64 2) (hx : ρ x = .int .i64 (k : Int)) : (execOp ρ o).run Tryz.prog w = .ok (.value (.int .i64 (j : Int))) w := by
  subst hj
  unfold execOp
  simp only [ho, hx, hc]
  rcases (show k = 0 ∨ k = 1 ∨ k = 2 ∨ k = 3 by omega) with rfl | rfl | rfl | rfl <;> (simp [go_sem]; rfl)
theorem ex_ldPq {ρ : Operand → Value} {o : Oper} {x : Operand} {w : World} {p : Pt} (hp : p.OK) {g : Nat} {t' : TypeId} (hB : Blk w g (pcells p) t') (ho : o.op = .load 58 x) (hx : ρ x = .pointer (some ⟨g, 0, none⟩)) : (execOp ρ o).run Tryz.prog w = .ok (.value (.agg (pcells p).toArray)) w :=
  ex_ld (ty := 58) (cs := pcells p) ho hx (rng_all hB) Tryz.underlying58 rfl (by rw [sizeP, pcells_length hp])
theorem q_told_src {w0 w : World} {v : Value} {b : Bs} (h : ToldB w0 w v (some b)) : ∃ g, v = .slice (some ⟨g, 0, none⟩) 512 512 ∧ b.length = 512 ∧ SrcA w (some ⟨g, 0, none⟩) b := by
  obtain ⟨g, e, hl, hb, _⟩ := h
  exact ⟨g, e, hl, fun _ => ⟨g, 0, rfl, hb.lt, fun j hj => by rw [Nat.zero_add]; exact hb.cell (get_map V8 b j hj 0)⟩⟩
def GoRel (w W : World) (lab : Nat → Nat) (Xp : Nat) (P : Pl) (x : Mi Dsk Sp) (p : Pt) (g : Nat) (n b i : Value) (wr : World) : Prop := ∃ k m c : Nat, k ≤ 4 ∧ m ≤ k ∧ c ≤ k ∧ i = .int .i64 (k : Int) ∧ n = .int .i64 (m : Int) ∧ b = .int .i64 (c : Int) ∧ m = goodN x p (p.ats.take k) ∧ Blk wr g (pcells p) 58 ∧ PrS w wr lab Xp P x ∧ Below W.heap.size W wr
/-- What the drawn region takes. -/
structure GoW (w : World) (lab : Nat → Nat) (Xp : Nat) (P : Pl) (x : Mi Dsk Sp) (p : Pt) (g : Nat) (Z : World) : Prop where
  b : Blk Z g (pcells p) 58
  s : PrS w Z lab Xp P x
set_option maxRecDepth 100000 in
set_option maxHeartbeats 8000000 in
theorem pgood_any (p : Pt) (hp : p.OK) (w W : World) (lab : Nat → Nat) (Xp : Nat) (P : Pl) (x : Mi Dsk Sp) (n : Nat) (h : PrS w W lab Xp P x) (hl : Lim x n) (hn : n < 600000) :
    Calls Tryz.prog 19 #[.pointer (some ⟨Xp, 0, none⟩), .agg (pcells p).toArray] W fun e w' => ∃ z : Int, e = .returned (.tuple #[.int .i64 (goodN x p p.ats : Int), .int .i64 z]) ∧ Below W.heap.size W w' := by
  have HP := Lib.hid hp; have HL := Lib.hid hl; have HN := Lib.hid hn
  have HR : Hid (GoRel w W lab Xp P x p W.heap.size (.int .i64 0) (.int .i64 0) (.int .i64 0) (W.alloc (.cells (pcells p).toArray 58))) := Lib.hid ⟨0, 0, 0, by omega, by omega, by omega, rfl, rfl, rfl, rfl, Blk.new _ _ _, h.below ((Below.refl _ _).alloc (Nat.le_refl _) _), (Below.refl _ _).alloc (Nat.le_refl _) _⟩
  obtain ⟨N, hN⟩ : ∃ N, goodN x p p.ats = N := ⟨_, rfl⟩
  have HNN := Lib.hid hN
  rw [hN]
  clear hp hl hn h hN
  go_enter Tryz.func19, Tryz.ntmps19
  go_wp2_with fail
  go_loopw [6, 7, 8] (fun n b i wr => GoRel w W lab Xp P x p W.heap.size n b i wr) (fun _ _ i _ => 4 - (intOf i).toNat)
  case atStart => exact HR.out
  case round =>
    clear HR
    obtain ⟨k, m, c, hk, hmk, hck, rfl, rfl, rfl, hm, hb, hs, hw⟩ := hrel
    have HM := Lib.hid hm; have HB := Lib.hid hb; have HS := Lib.hid hs; have HW := Lib.hid hw
    clear hm hb hs hw
    have wk1 := IntWalk.i64_in ((k : Int) + 1) (by omega)
    have wk2 := IntWalk.i64_in ((m : Int) + 1) (by omega)
    have wk3 := IntWalk.i64_in ((c : Int) + 1) (by omega)
    by_cases hlt : k < 4
    · obtain ⟨a, ha⟩ : ∃ a, p.ats[k]? = some a := ⟨_, List.getElem?_eq_getElem (by rw [HP.out.len]; exact hlt)⟩
      have hal : a < 65536 := HP.out.ats a (List.mem_of_getElem? ha)
      have HAT := Lib.hid ha
      have ca := cell_ats HB.out HP.out.hash ha
      have h0k : (0 : Int) ≤ (k : Int) := by omega
      have hk4 : (k : Int) < 4 := by omega
      clear ha
      by_cases h0 : a = 0
      · subst h0
        have HMX : Hid (m = goodN x p (p.ats.take (k + 1))) := Lib.hid (by rw [goodN_skip HAT.out]; exact HM.out)
        rw [show ((0 : Nat) : Int) = (0 : Int) from rfl] at ca
        clear HAT
        go_wp2_with fail
        go_roundw
        case rel => exact ⟨k + 1, m, c, by omega, by omega, by omega, by go_num, rfl, rfl, HMX.out, HB.out, HS.out, HW.out⟩
        case measure => simp [intOf]; omega
      · have ha0 : ¬ (a : Int) = 0 := by omega
        have HMX := Lib.hid (goodN_step (x := x) (p := p) HAT.out h0)
        obtain ⟨j, hj⟩ : ∃ j, k / 2 = j := ⟨_, rfl⟩
        have HJ := Lib.hid hj
        rw [hj] at HMX
        have hk2 : j < 2 := by omega
        have HK2 := Lib.hid hk2
        have h0q : (0 : Int) ≤ (j : Int) := by omega
        have hq2 : (j : Int) < 2 := by omega
        clear hj
        go_upto_region 6 with fail
        refine wp_region_sched (.take 0 (.take 1 (.take 2 (.take 3 (.take 4 (.take 5 (.take 6 (.take 7 (.take 8 (.take 9 (.take 10 (.step 11 (.take 12 (.take 13 (.take 14 (.take 15 (.take 16 (.nil)))))))))))))))))) (by kernel_rfl) (by kernel_rfl) (fun d _ _ _ _ h => by cases d <;> exact h) (GoW w lab Xp P x p W.heap.size) ⟨HB.out, HS.out.drew⟩ ?_
        refine wpG_take _ (.pointer (some ⟨Xp, 0, none⟩)) rfl (by rfl) (fun X hX => by first | rfl | go_simp) ?_
        (try simp only [Act.put, List.setIfInBounds_toArray, List.set_cons_zero, List.set_cons_succ])
        refine wpG_take _ (.int .i64 (k : Int)) rfl (by rfl) (fun X hX => by first | rfl | go_simp) ?_
        (try simp only [Act.put, List.setIfInBounds_toArray, List.set_cons_zero, List.set_cons_succ])
        refine wpG_take _ (.int .i64 (j : Int)) rfl (by rfl) (fun X hX => ex_quo2 HJ.out (by omega) rfl rfl rfl) ?_
        (try simp only [Act.put, List.setIfInBounds_toArray, List.set_cons_zero, List.set_cons_succ])
        refine wpG_take _ (.pointer (some ⟨Xp, 0, none⟩)) rfl (by rfl) (fun X hX => by first | rfl | go_simp) ?_
        (try simp only [Act.put, List.setIfInBounds_toArray, List.set_cons_zero, List.set_cons_succ])
        refine wpG_take _ (.pointer (some ⟨Xp, 1, none⟩)) rfl (by rfl) (fun X hX => by first | rfl | go_simp) ?_
        (try simp only [Act.put, List.setIfInBounds_toArray, List.set_cons_zero, List.set_cons_succ])
        refine wpG_take _ (.pointer (some ⟨Xp, 1 + j, none⟩)) rfl (by rfl) (fun X hX => by first | rfl | go_simp) ?_
        (try simp only [Act.put, List.setIfInBounds_toArray, List.set_cons_zero, List.set_cons_succ])
        refine wpG_take _ (.pointer (some ⟨P.D (j), 0, none⟩)) rfl (by rfl) (fun X hX => q_ldD rfl rfl (hX.s.cd HK2.out)) ?_
        (try simp only [Act.put, List.setIfInBounds_toArray, List.set_cons_zero, List.set_cons_succ])
        refine wpG_take _ (.int .i64 (k : Int)) rfl (by rfl) (fun X hX => by first | rfl | go_simp) ?_
        (try simp only [Act.put, List.setIfInBounds_toArray, List.set_cons_zero, List.set_cons_succ])
        refine wpG_take _ (.pointer (some ⟨W.heap.size, 37, none⟩)) rfl (by rfl) (fun X hX => ex_faP 6 37 (by omega) rfl rfl) ?_
        (try simp only [Act.put, List.setIfInBounds_toArray, List.set_cons_zero, List.set_cons_succ])
        refine wpG_take _ (.pointer (some ⟨W.heap.size, 37 + k, none⟩)) rfl (by rfl) (fun X hX => by first | rfl | go_simp) ?_
        (try simp only [Act.put, List.setIfInBounds_toArray, List.set_cons_zero, List.set_cons_succ])
        refine wpG_take _ (.int .u16 (a : Int)) rfl (by rfl) (fun X hX => ex_ld1 Tryz.underlying52 rfl rfl (cell_ats hX.b HP.out.hash HAT.out)) ?_
        (try simp only [Act.put, List.setIfInBounds_toArray, List.set_cons_zero, List.set_cons_succ])
        have hlk := look_any (P.D (j)) P.Q (fun b => lab b = j + 1) (x.d (j)) a (by omega) wr.drew (HS.out.drew.mi.dk _ HK2.out) (by have := HL.out.c _ HK2.out; have := HN.out; omega)
        refine wpG_call _ rfl (by rfl) 28 #[.pointer (some ⟨P.D (j), 0, none⟩), .int .u16 (a : Int)] (fun _ => by go_simp) (fun u w' => ∃ v, u = .tuple #[v, .bool (look (x.d (j)) a).isSome] ∧ ToldB wr.drew w' v (look (x.d (j)) a) ∧ Below wr.drew.heap.size wr.drew w') (hlk.mono fun e w' ⟨v, e1, e2, e3⟩ => ⟨_, e1, ⟨HB.out.drew.below e3 HB.out.drew.lt, HS.out.drew.below e3⟩, v, rfl, e2, e3⟩) ?_
        rintro u W6 hs6 ⟨v, rfl, ht6, hb6⟩
        refine ⟨_, fun _ h => h, hs6, ?_⟩
        (try simp only [Act.put, List.setIfInBounds_toArray, List.set_cons_zero, List.set_cons_succ])
        refine wpG_take _ (.tuple #[v, .bool (look (x.d (j)) a).isSome]) rfl (by rfl) (fun X hX => by first | rfl | go_simp) ?_
        (try simp only [Act.put, List.setIfInBounds_toArray, List.set_cons_zero, List.set_cons_succ])
        refine wpG_take _ (v) rfl (by rfl) (fun X hX => by first | rfl | go_simp) ?_
        (try simp only [Act.put, List.setIfInBounds_toArray, List.set_cons_zero, List.set_cons_succ])
        refine wpG_take _ (.bool (look (x.d (j)) a).isSome) rfl (by rfl) (fun X hX => by first | rfl | go_simp) ?_
        (try simp only [Act.put, List.setIfInBounds_toArray, List.set_cons_zero, List.set_cons_succ])
        refine wpG_take _ (v) rfl (by rfl) (fun X hX => by first | rfl | go_simp) ?_
        (try simp only [Act.put, List.setIfInBounds_toArray, List.set_cons_zero, List.set_cons_succ])
        refine wpG_take _ (.bool (look (x.d (j)) a).isSome) rfl (by rfl) (fun X hX => by first | rfl | go_simp) ?_
        (try simp only [Act.put, List.setIfInBounds_toArray, List.set_cons_zero, List.set_cons_succ])
        refine wpG_nil ?_
        have HB6 := Lib.hid hs6.b; have HS6 := Lib.hid hs6.s
        have HW6 := Lib.hid (HW.out.trans (((Below.refl wr.heap.size wr).drew.trans hb6).mono HW.out.size))
        obtain ⟨t, ht⟩ : ∃ t, look (x.d (j)) a = t := ⟨_, rfl⟩
        have HTT := Lib.hid ht
        rw [ht] at ht6 ⊢
        clear hs6 hb6 ht hlk ca HB HS HW
        cases t with
        | none =>
          obtain rfl := ht6
          have HMY : Hid (m = goodN x p (p.ats.take (k + 1))) := Lib.hid (by rw [HMX.out, ← HM.out]; unfold gdL; simp only; rw [HTT.out]; rfl)
          have HBx := Lib.hid HB6.out; have HSx := Lib.hid HS6.out; have HWx := Lib.hid HW6.out
          clear HB6 HS6 HW6 HMX HTT
          rw [show (Option.isSome (none : Option d_Bs)) = false from rfl]
          go_wp2_with (first | (refine wpL_val rfl (ex_quo2 HJ.out (by omega) rfl rfl rfl) ?_) | (refine wpL_val rfl (q_ldD rfl rfl (HSx.out.cd HK2.out)) ?_) | (refine q_valG (by rfl) (ex_ldPq HP.out HBx.out rfl rfl) ?_) | fail)
          refine (dead_any (P.D j) P.Q (fun b => lab b = j + 1) (x.d j) _ (HSx.out.mi.dk _ HK2.out)).mono ?_
          rintro e w8 ⟨rfl, rfl⟩
          cases (x.d j).dead
          · go_wp2_with fail
            go_roundw
            case rel => exact ⟨k + 1, m, c + 1, by omega, by omega, by omega, by go_num, rfl, by go_num, HMY.out, HBx.out, HSx.out, HWx.out⟩
            case measure => simp [intOf]; omega
          · go_wp2_with fail
            go_roundw
            case rel => exact ⟨k + 1, m, c, by omega, by omega, by omega, by go_num, rfl, rfl, HMY.out, HBx.out, HSx.out, HWx.out⟩
            case measure => simp [intOf]; omega
        | some b =>
          obtain ⟨g, rfl, hbl, hsrc⟩ := q_told_src ht6
          have hft := fits_any p HP.out b (some ⟨g, 0, none⟩) 512 W6 (by omega) (by omega) (by unfold maxLen; omega) hsrc HS6.out.mi.tab
          rw [hbl] at hft
          obtain ⟨f, hf⟩ : ∃ f, fitsP p b = f := ⟨_, rfl⟩
          rw [hf] at hft
          have HFT := Lib.hid hft
          have HGD : Hid (gdL x p (j, a) = f) := Lib.hid (by unfold gdL; simp only; rw [HTT.out]; exact hf)
          rw [HGD.out] at HMX
          rw [show (Option.isSome (some b : Option d_Bs)) = true from rfl]
          clear ht6 hsrc hft hf HTT HGD
          go_wp2_with (first | (refine q_valG (by rfl) (ex_ldPq HP.out HB6.out rfl rfl) ?_) | fail)
          refine HFT.out.mono ?_
          rintro e w7 ⟨rfl, hb7⟩
          have HBx := Lib.hid (HB6.out.below hb7 HB6.out.lt); have HSx := Lib.hid (HS6.out.below hb7); have HWx := Lib.hid (HW6.out.trans (hb7.mono HW6.out.size))
          clear hb7 HB6 HS6 HW6 HFT
          cases f
          · have HMY : Hid (m = goodN x p (p.ats.take (k + 1))) := Lib.hid (by rw [HMX.out, ← HM.out]; rfl)
            clear HMX
            go_wp2_with (first | (refine wpL_val rfl (ex_quo2 HJ.out (by omega) rfl rfl rfl) ?_) | (refine wpL_val rfl (q_ldD rfl rfl (HSx.out.cd HK2.out)) ?_) | (refine q_valG (by rfl) (ex_ldPq HP.out HBx.out rfl rfl) ?_) | fail)
            refine (dead_any (P.D j) P.Q (fun b => lab b = j + 1) (x.d j) _ (HSx.out.mi.dk _ HK2.out)).mono ?_
            rintro e w8 ⟨rfl, rfl⟩
            cases (x.d j).dead
            · go_wp2_with fail
              go_roundw
              case rel => exact ⟨k + 1, m, c + 1, by omega, by omega, by omega, by go_num, rfl, by go_num, HMY.out, HBx.out, HSx.out, HWx.out⟩
              case measure => simp [intOf]; omega
            · go_wp2_with fail
              go_roundw
              case rel => exact ⟨k + 1, m, c, by omega, by omega, by omega, by go_num, rfl, rfl, HMY.out, HBx.out, HSx.out, HWx.out⟩
              case measure => simp [intOf]; omega
          · have HMY : Hid (m + 1 = goodN x p (p.ats.take (k + 1))) := Lib.hid (by rw [HMX.out, ← HM.out]; rfl)
            clear HMX
            go_wp2_with fail
            go_roundw
            case rel => exact ⟨k + 1, m + 1, c, by omega, by omega, by omega, by go_num, by go_num, rfl, HMY.out, HBx.out, HSx.out, HWx.out⟩
            case measure => simp [intOf]; omega
    · obtain rfl : k = 4 := by omega
      rw [List.take_of_length_le (by rw [HP.out.len]; omega), HNN.out] at HM
      obtain rfl := HM.out
      rw [show ((4 : Nat) : Int) = (4 : Int) from rfl]
      clear hk hlt
      go_wp2_with fail
      go_ret2
      exact ⟨⟨_, rfl⟩, HW.out⟩
end Go.Proofs.YtmgagalhpkieoaaGreatDoor
/- Take: what a reader reads as a pointer. -/
namespace Go.Proofs.YtmgagalhpkieoaaGreatDoor
open Go.RowKit

/-- What is left and the error when k bytes of l were asked for: all is well, or an error stays. -/
def Rs (l : Bs) (e k : Nat) (rest : Bs) (ee : Nat) : Prop := (ee = 0 ∧ e = 0 ∧ k ≤ l.length ∧ rest = l.drop k) ∨ (ee ≠ 0 ∧ ee = (if e = 0 then 4 else e) ∧ (e ≠ 0 ∨ l.length < 64) ∧ rest.length ≤ l.length)
theorem Rs.start (l : Bs) (e : Nat) : Rs l e 0 l e := by
  by_cases h : e = 0
  · exact .inl ⟨h, h, Nat.zero_le _, rfl⟩
  · exact .inr ⟨h, by rw [if_neg h], .inl h, Nat.le_refl _⟩
theorem Rs.len {l : Bs} {e k : Nat} {rest : Bs} {ee : Nat} (h : Rs l e k rest ee) : rest.length ≤ l.length := by
  rcases h with ⟨_, _, _, rfl⟩ | ⟨_, _, _, h⟩
  · simp
  · exact h
theorem Rs.next {l : Bs} {e k : Nat} {rest : Bs} {ee : Nat} (h : Rs l e k rest ee) (n : Nat) (hn : 0 < n) (hk : k + n ≤ 64) : Rs l e (k + n) (nextRes rest ee n).2.1 (nextRes rest ee n).2.2 ∧ ((nextRes rest ee n).2.2 = 0 → (nextRes rest ee n).1 = (l.drop k).take n) ∧ ((nextRes rest ee n).1.length = n ∨ (nextRes rest ee n).1 = []) := by
  rcases h with ⟨rfl, rfl, h2, rfl⟩ | ⟨h1, h2, h3, h4⟩
  · by_cases hs : l.length - k < n
    · have e1 : nextRes (l.drop k) 0 n = ([], l.drop k, 4) := by
        unfold nextRes
        rw [if_neg (by omega), if_pos (by rw [List.length_drop]; omega)]
      rw [e1]
      exact ⟨.inr ⟨by simp, by simp, .inr (by omega), by simp⟩, fun h => by simp at h, .inr rfl⟩
    · have e1 : nextRes (l.drop k) 0 n = ((l.drop k).take n, (l.drop k).drop n, 0) := by
        unfold nextRes
        rw [if_neg (by omega), if_neg (by rw [List.length_drop]; omega), Int.toNat_natCast]
      rw [e1]
      exact ⟨.inl ⟨rfl, rfl, by omega, by rw [List.drop_drop]⟩, fun _ => rfl, .inl (by simp; omega)⟩
  · have e1 : nextRes rest ee n = ([], rest, ee) := by
      unfold nextRes
      rw [if_pos (.inl h1)]
    rw [e1]
    exact ⟨.inr ⟨h1, h2, h3, h4⟩, fun h => absurd h h1, .inr rfl⟩
theorem Rs.num {l : Bs} {e k : Nat} {rest : Bs} {ee : Nat} (h : Rs l e k rest ee) (n : Nat) (hn : 0 < n) (hk : k + n ≤ 64) : ∃ x rest' ee', val (nextRes rest ee n).1 = x ∧ (nextRes rest ee n).2.1 = rest' ∧ (nextRes rest ee n).2.2 = ee' ∧ Rs l e (k + n) rest' ee' ∧ x < 2 ^ (8 * n) ∧ (ee' = 0 → x = val ((l.drop k).take n)) ∧ (ee' = 0 → ee = 0) := by
  obtain ⟨h1, h2, h3⟩ := h.next n hn hk
  refine ⟨_, _, _, rfl, rfl, rfl, h1, ?_, fun h0 => by rw [h2 h0], fun h0 => ?_⟩
  · refine Nat.lt_of_lt_of_le (val_lt _) (Nat.pow_le_pow_right (by omega) ?_)
    rcases h3 with h3 | h3 <;> simp [h3]
  · rcases Nat.eq_zero_or_pos ee with h4 | h4
    · exact h4
    · have : nextRes rest ee n = ([], rest, ee) := by unfold nextRes; rw [if_pos (.inl (by omega))]
      rw [this] at h0
      exact h0
section
variable {ops : Array Oper} {Q : Exit → Act → World → Prop} {S : World → Prop}
end
end Go.Proofs.YtmgagalhpkieoaaGreatDoor
/- Pointers that are known. -/
namespace Go.Proofs.YtmgagalhpkieoaaGreatDoor
open Go.RowKit

def k1 : Pt := ⟨1, 0, 7, 3, 9, List.replicate 32 0#8, [5, 0, 6, 0]⟩
def zs : Bs := List.replicate 512 0#8
def k2 : Pt := sealP k1 zs
theorem may_seal (p : Pt) (bs : Bs) : mayP (sealP p bs) = mayP p := rfl
theorem ex_eqPs {ρ : Operand → Value} {o : Oper} {x y : Operand} {p : Pt} {w : World} (ho : o.op = .binOp .eql 58 x y 58) (hx : ρ x = .agg (pcells p).toArray) (hy : ρ y = .agg (pcells p).toArray) (hp : p.OK) : (execOp ρ o).run Tryz.prog w = .ok (.value (.bool true)) w := by
  have h := ex_eqP (w := w) ho hx hy hp hp
  rw [eqP_same] at h
  exact h
theorem fits_seal (p : Pt) (bs cs : Bs) : fitsP (sealP p bs) cs = (decide (cs.length = 512) && decide (digest (tagB p ++ cs) = digest (tagB p ++ bs))) := rfl
end Go.Proofs.YtmgagalhpkieoaaGreatDoor
/- The mirror that is known, plain. -/
namespace Go.Proofs.YtmgagalhpkieoaaGreatDoor
open Go.RowKit

def mw0 : Pt := ⟨2, 0, 3, 0, 0, List.replicate 32 0#8, [1, 2, 3, 4]⟩
theorem mw0_ok : mw0.OK := ⟨by simp [mw0], by simp [mw0], by simp [mw0], by simp [mw0], by simp [mw0], by simp [mw0], by simp [mw0], by simp [mw0]⟩
def mwb : Bs := d_full [7#8]
def mwz : Bs := d_full []
theorem mwb_len : mwb.length = 512 := full_length _
theorem mwz_len : mwz.length = 512 := full_length _
theorem mwdg : decide (digest (tagB mw0 ++ mwz) = digest (tagB mw0 ++ mwb)) = false := by kernel_rfl
def mwq : Pt := sealP mw0 mwb
theorem mwq_ok : mwq.OK := sealP_ok mw0_ok mwb
theorem mwmay : mayP mwq = true := (may_seal mw0 mwb).trans (by decide)
theorem mwfit : fitsP mwq mwb = true := by
  unfold mwq
  rw [fits_seal, decide_eq_true mwb_len, decide_eq_true rfl]
  rfl
theorem mwfitz : fitsP mwq mwz = false := by
  unfold mwq
  rw [fits_seal, mwdg, Bool.and_false]
theorem mwcps : copiesP mwq = [(0, 1), (0, 2), (1, 3), (1, 4)] := by rfl
theorem gd_yes {x : Mi Dsk Sp} {c : Cpy} (h : readB (x.d c.1) x.p c.2 = some mwb) : gd kinD x mwq c = some mwb := by
  unfold gd
  show (match readB (x.d c.1) x.p c.2 with | some b => if fitsP mwq b then some b else none | none => none) = _
  rw [h]
  show (if fitsP mwq mwb then some mwb else none) = some mwb
  rw [mwfit]
  rfl
theorem gd_no {x : Mi Dsk Sp} {c : Cpy} (h : readB (x.d c.1) x.p c.2 = some mwz) : gd kinD x mwq c = none := by
  unfold gd
  show (match readB (x.d c.1) x.p c.2 with | some b => if fitsP mwq b then some b else none | none => none) = _
  rw [h]
  show (if fitsP mwq mwz then some mwz else none) = none
  rw [mwfitz]
  rfl
theorem gd_none {x : Mi Dsk Sp} {c : Cpy} (h : readB (x.d c.1) x.p c.2 = none) : gd kinD x mwq c = none := by
  unfold gd
  show (match readB (x.d c.1) x.p c.2 with | some b => if fitsP mwq b then some b else none | none => none) = _
  rw [h]
end Go.Proofs.YtmgagalhpkieoaaGreatDoor
