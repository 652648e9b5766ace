/- Acts: whether they are great, an act's bytes; a crash whose picks came in. -/
import Derived.Test.YtneemllgimeacaaAc
namespace Go.Proofs.Ytneemllgimeacaa
open Go.RowKit

def big (a : Ac) : Bool := decide (600 < a.b.length) || decide (200 < a.z.length)
def great (l : List Ac) : Bool := decide (100 < l.length) || l.any big
theorem great_small {l : List Ac} (h : great l = false) : l.length ≤ 100 ∧ ∀ a ∈ l, a.b.length ≤ 600 ∧ a.z.length ≤ 200 := by
  unfold great big at h
  simp at h
  refine ⟨by omega, fun a ha => ?_⟩
  have := h.2 a ha
  omega
theorem any_drop {l : List Ac} {k : Nat} {a : Ac} (h : l[k]? = some a) : (l.drop k).any big = (big a || (l.drop (k + 1)).any big) := by
  obtain ⟨h1, h2⟩ := List.getElem?_eq_some_iff.1 h
  rw [List.drop_eq_getElem_cons h1, List.any_cons, h2]
def GrRel (l : List Ac) (w : World) (i : Value) (wr : World) : Prop := ∃ k : Nat, k ≤ l.length ∧ i = .int .i64 (k : Int) ∧ (l.drop k).any big = l.any big ∧ wr = w
set_option maxRecDepth 100000 in
set_option maxHeartbeats 1000000 in
theorem great_any (l : List Ac) (sp : Option Addr) (n cap : Nat) (hn : l.length = n) (hc : n ≤ cap) (hm : cap ≤ maxLen) (w : World) (h : ActsAt w sp l) : Calls Try.prog 8 #[.slice sp n cap] w fun e w' => e = .returned (.bool (great l)) ∧ w = w' := by
  have HN := Lib.hid hn
  by_cases h1 : (100 : Int) < (n : Int)
  · go_enter Try.func8, Try.ntmps8
    go_wp2_with fail
    go_ret
    refine ⟨?_, rfl⟩
    unfold great
    rw [decide_eq_true (by omega : 100 < l.length)]
    rfl
  · have hn100 : n ≤ 100 := by omega
    have HA := Lib.hid h
    clear h hn
    go_enter Try.func8, Try.ntmps8
    go_wp2_with fail
    have HR := Lib.hid (show GrRel l w (.int .i64 0) w from ⟨0, Nat.zero_le _, rfl, by simp, rfl⟩)
    go_loopw [3] (fun i wr => GrRel l w i wr) (fun i _ => n - (intOf i).toNat)
    case atStart => exact HR.out
    case round =>
      clear HR
      obtain ⟨k, hk, rfl, hany, rfl⟩ := hrel
      have HANY := Lib.hid hany
      rw [HN.out] at hk
      clear hany
      have hwk := IntWalk.i64_in ((k : Int) + 1) (by omega)
      by_cases hlt : k < n
      · have hkL : k < l.length := by have := HN.out; omega
        obtain ⟨a, ha⟩ : ∃ a, l[k]? = some a := ⟨_, List.getElem?_eq_getElem hkL⟩
        obtain ⟨g, o, rfl, hg, hcl⟩ := HA.out.2 (by omega)
        have c3 := hcl k a ha 3 (by omega)
        have c6 := hcl k a ha 6 (by omega)
        simp only [Ac.cell] at c3 c6
        have HX := Lib.hid ha
        clear hcl ha hkL hg
        by_cases hb : (600 : Int) < (a.b.length : Int)
        · go_wp2_with fail
          go_ret
          refine ⟨?_, rfl⟩
          have e : big a = true := by unfold big; rw [decide_eq_true (by omega : 600 < a.b.length)]; rfl
          unfold great
          rw [← HANY.out, any_drop HX.out, e]
          simp
        · by_cases hz : (200 : Int) < (a.z.length : Int)
          · go_wp2_with fail
            go_ret
            refine ⟨?_, rfl⟩
            have e : big a = true := by unfold big; rw [decide_eq_true (by omega : 200 < a.z.length)]; simp
            unfold great
            rw [← HANY.out, any_drop HX.out, e]
            simp
          · have e : big a = false := by unfold big; rw [decide_eq_false (by omega : ¬ 600 < a.b.length), decide_eq_false (by omega : ¬ 200 < a.z.length)]; rfl
            have HE := Lib.hid e
            clear e
            go_wp2_with fail
            go_roundw
            case rel => exact ⟨k + 1, by have := HN.out; omega, by go_num, by rw [← HANY.out, any_drop HX.out, HE.out]; rfl, rfl⟩
            case measure => simp [intOf]; omega
      · obtain rfl : k = n := by omega
        clear hk
        go_wp2_with fail
        go_ret
        refine ⟨?_, rfl⟩
        unfold great
        rw [← HANY.out, List.drop_of_length_le (by rw [HN.out]; exact Nat.le_refl _), decide_eq_false (by rw [HN.out]; omega)]
        rfl
/-- An act's bytes. -/
def abytes (a : Ac) : Bs := if a.short then a.b else full a.b
def aval (a : Ac) : Value := .agg #[.int .u8 (a.act : Int), .int .u8 (a.d : Int), .int .u16 (a.addr : Int), .slice a.spb a.b.length a.capb, .bool a.short, .int .i64 a.n, .slice a.spz a.z.length a.capz]
theorem abytes_length {a : Ac} (h : a.b.length ≤ 600) : (abytes a).length ≤ 600 := by
  unfold abytes
  split
  · exact h
  · rw [full_length]; omega
/-- What an act's bytes are handed back as. -/
def Abs (w : World) (b : Bs) (e : Ending) (w' : World) : Prop := ∃ sp cap, e = .returned (.slice sp b.length cap) ∧ b.length ≤ cap ∧ cap ≤ maxLen ∧ SrcA w' sp b ∧ Below w.heap.size w w'
set_option maxRecDepth 100000 in
theorem bytes_any (a : Ac) (w : World) (h : AcOK w a) (hb : a.b.length ≤ 600) : Calls Try.prog 33 #[aval a] w (Abs w (abytes a)) := by
  obtain ⟨act, d, addr, b, spb, capb, short, n, z, spz, capz⟩ := a
  have H := Lib.hid h
  unfold aval abytes
  simp only at hb ⊢
  clear h
  cases short
  · simp only [Bool.false_eq_true, if_false]
    go_enter Try.func33, Try.ntmps33
    go_wp2_with (first | (go_at_call 34; refine (full_any b spb b.length capb rfl (by omega) _ (H.out.b.grown ((Below.refl _ _).alloc (Nat.le_refl _) _))).mono ?_; rintro e w1 ⟨v, rfl, ho, hw⟩; have HO := Lib.hid ho; have HW := Lib.hid hw; clear ho hw) | fail)
    go_ret
    obtain ⟨sp, cap, rfl, h1, h2, h3, _⟩ := HO.out.form
    exact ⟨sp, cap, rfl, h1, h2, h3, ((Below.refl _ _).alloc (Nat.le_refl _) _).trans (HW.out.mono (by simp))⟩
  · simp only [if_true]
    go_enter Try.func33, Try.ntmps33
    go_wp2_with fail
    go_ret
    exact ⟨spb, capb, rfl, H.out.cb, H.out.mb, H.out.b.grown ((Below.refl _ _).alloc (Nat.le_refl _) _), (Below.refl _ _).alloc (Nat.le_refl _) _⟩
/-- Picks that came in: what they reach is out of S. -/
theorem SrcI.chg2 {F : Nat → Prop} {w w' : World} {sp : Option Addr} {zs : List Int} (h : SrcI w sp zs) (hc : Chg F w w') (hn : 0 < zs.length → ∀ a, sp = some a → ¬ F a.block) : SrcI w' sp zs :=
  ⟨h.1, fun h0 => by
    obtain ⟨g, o, rfl, hg, hcl⟩ := h.2 h0
    exact ⟨g, o, rfl, Nat.lt_of_lt_of_le hg hc.size, fun j hj => (World.cell?_of_block (w := w) (hc.block g hg (hn h0 _ rfl))).trans (hcl j hj)⟩⟩
set_option maxRecDepth 100000 in
set_option maxHeartbeats 1000000 in
theorem crash_any2 (D Q : Nat) (S : Nat → Prop) (s : Dsk) (zs : List Int) (sp : Option Addr) (n cap : Nat) (w : World) (h : DkAt w D Q S s) (hcn : s.cache.length < 1000000) (hz : SrcI w sp zs) (hzn : zs.length = n) (hc : n ≤ cap) (hm : cap ≤ maxLen) (hsp : 0 < zs.length → ∀ a, sp = some a → ¬ S a.block) :
    Calls Try.prog 21 #[.pointer (some ⟨D, 0, none⟩), .slice sp n cap] w fun e w' => e = .returned (.tuple #[]) ∧ DkAt w' D Q S (crashed s zs) ∧ Chg S w w' := by
  have H := Lib.hid h
  have HCN := Lib.hid hcn
  have HZ := Lib.hid hz
  have HSP := Lib.hid hsp
  have HZN := Lib.hid hzn
  have HM := Lib.hid hm
  clear h hcn hz hsp hzn hm
  unfold crashed
  by_cases hd : s.dead = true
  · rw [hd]
    simp only [if_true]
    go_enter Try.func21, Try.ntmps21
    go_wp2_with (first | (go_at_call 30; refine (dead_any D Q S s _ (H.out.chg (Chg.of_below ((Below.refl _ _).alloc (Nat.le_refl _) _)) (fun _ _ => id))).mono ?_; rw [hd]; rintro e w' ⟨rfl, rfl⟩) | fail)
    refine bodyPost_ret (results_none rfl _ _ _) rfl ?_
    have hc1 : Chg (fun _ => False) w (w.alloc (.cells #[.slice sp n cap] 43)) := Chg.of_below ((Below.refl _ _).alloc (Nat.le_refl _) _)
    exact ⟨rfl, H.out.chg hc1 (fun _ _ h => h), hc1.mono (fun _ h => h.elim)⟩
  · have hd' : s.dead = false := by simpa using hd
    rw [hd']
    simp only [Bool.false_eq_true, if_false]
    clear hd
    have hc1 : Chg (fun _ => False) w (w.alloc (.cells #[.slice sp n cap] 43)) := Chg.of_below ((Below.refl _ _).alloc (Nat.le_refl _) _)
    have H1 := Lib.hid (H.out.chg hc1 (fun _ _ h => h))
    have HX := Lib.hid (show (w.alloc (.cells #[.slice sp n cap] 43)).cell? ⟨w.heap.size, 0, none⟩ = some (.slice sp n cap) from (Blk.new w [.slice sp n cap] 43).cell rfl)
    have HZ1 := Lib.hid (HZ.out.chg hc1 (fun _ _ h => h))
    have HC1 := Lib.hid hc1
    clear hc1
    go_enter Try.func21, Try.ntmps21
    go_wp2_with (first | (go_at_call 30; refine (dead_any D Q S s _ H1.out).mono ?_; rw [hd']; rintro e w' ⟨rfl, rfl⟩) | fail)
    have hK0 : SrcI (w.alloc (.cells #[.slice sp n cap] 43)) sp zs ∧ (w.alloc (.cells #[.slice sp n cap] 43)).cell? ⟨w.heap.size, 0, none⟩ = some (.slice sp zs.length cap) ∧ w.heap.size < (w.alloc (.cells #[.slice sp n cap] 43)).heap.size := by
      rw [HZN.out]
      exact ⟨HZ1.out, HX.out, by simp⟩
    refine (settle_any D Q S s _ 45 #[.pointer (some ⟨w.heap.size, 0, none⟩)] (fun W => SrcI W sp zs ∧ W.cell? ⟨w.heap.size, 0, none⟩ = some (.slice sp zs.length cap) ∧ w.heap.size < W.heap.size) (pickOf zs) H1.out HCN.out hK0 (fun W W' hk hc => ⟨hk.1.chg2 hc HSP.out, (World.cell?_of_block (w := W) (hc.block _ hk.2.2 (fun hs => Nat.lt_irrefl _ (H.out.lt _ hs)))).trans hk.2.1, Nat.lt_of_lt_of_le hk.2.2 hc.size⟩) (pickOf_bounds zs) cf45 (fun i W hi hk => pick_any zs sp cap w.heap.size i (by rw [HZN.out]; exact hc) HM.out hi W hk.1 hk.2.1)).mono ?_
    rintro e w2 ⟨rfl, ⟨M, v, to, hd2⟩, hc2⟩
    have c5 := hd2.c.2.2.2.2.2.1
    have c6 := hd2.c.2.2.2.2.2.2.1
    have f5 := hd2.blk.free 5
    have f6 := hd2.blk.free 6
    have HD2 := Lib.hid hd2
    have HC2 := Lib.hid hc2
    clear hd2 hc2
    go_wp2_with fail
    go_end0
    have h1 := crash_off HD2.out
    rw [hd'] at h1
    exact ⟨rfl, h1, ((HC1.out.mono (fun _ h => h.elim)).trans' HC2.out).trans' ((chgD HD2.out.sd 5 _).trans' (chgD HD2.out.sd 6 _))⟩
end Go.Proofs.Ytneemllgimeacaa
