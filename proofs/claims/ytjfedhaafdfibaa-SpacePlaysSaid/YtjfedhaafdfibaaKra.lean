/- Slices of addresses that the call made: what they hold; Has, without. -/
import Derived.Test.YtjfedhaafdfibaaKi
import Derived.Laws.AppendOwnNone
import Derived.Maps.AppendAt
import Derived.Deep.RegionLaw
namespace Go.Proofs.Ytjfedhaafdfibaa
open Go.RowKit

def U (a : Nat) : Value := .int .u16 (a : Int)
theorem infoU : (Try.prog.info? 33).map (fun i => (i.zero, i.size, i.bytes)) = some (some (.int .u16 0), 1, 2) := by kernel_rfl
theorem sizeU : (Try.prog.info? 33).map (·.size) = some 1 := by kernel_rfl
abbrev OwnU (w : World) (B : Nat) (v : Value) (l : List Nat) : Prop := w.ownsRow B 33 1 v l.length (l.map U)
/-- The addresses l lie where the slice begins. -/
def SrcU (w : World) (sp : Option Addr) (l : List Nat) : Prop := 0 < l.length → ∃ g, sp = some ⟨g, 0, none⟩ ∧ ∀ j a, l[j]? = some a → w.cell? ⟨g, j, none⟩ = some (U a)
theorem OwnU.form {w : World} {B : Nat} {v : Value} {l : List Nat} (h : OwnU w B v l) : ∃ sp cap, v = .slice sp l.length cap ∧ l.length ≤ cap ∧ cap ≤ maxLen ∧ SrcU w sp l ∧ (sp = none → cap = 0) := by
  rcases h.2 with ⟨rfl, hn⟩ | ⟨g, cap, cur, rfl, hb, hg, hc, hm, _, _⟩
  · exact ⟨none, 0, by rw [hn], by omega, by unfold maxLen; omega, fun h0 => by omega, fun _ => rfl⟩
  · refine ⟨some ⟨g, 0, none⟩, cap, rfl, hc, hm, fun _ => ⟨g, rfl, fun j a hj => ?_⟩, fun hh => by cases hh⟩
    have hlt := (List.getElem?_eq_some_iff.1 hj).1
    rw [h.cellAt j (by omega), List.getElem?_map, hj]
    rfl
theorem OwnU.chg {F : Nat → Prop} {w W : World} {B : Nat} {v : Value} {l : List Nat} (h : OwnU w B v l) (hc : Chg F w W) (hn : ∀ g, v.ownBlock = some g → ¬ F g) : OwnU W B v l := by
  refine ⟨h.1, ?_⟩
  rcases h.2 with hn | ⟨g, cap, cur, rfl, hbg, hg, rest⟩
  · exact .inl hn
  · exact .inr ⟨g, cap, cur, rfl, hbg, by rw [hc.block g (Array.getElem?_eq_some_iff.1 hg).1 (hn g rfl)]; exact hg, rest⟩
theorem OwnU.below {w W : World} {B : Nat} {v : Value} {l : List Nat} (h : OwnU w B v l) (hb : Below w.heap.size w W) : OwnU W B v l := h.chg (Chg.of_below (F := fun _ => False) hb) (fun _ _ h => h)
theorem OwnU.blk {w : World} {B g : Nat} {v : Value} {l : List Nat} (h : OwnU w B v l) (hg : v.ownBlock = some g) : B ≤ g ∧ g < w.heap.size ∧ ∃ cs, Blk w g cs 33 := by
  rcases h.2 with ⟨rfl, _⟩ | ⟨g', cap, cur, rfl, hb, hgg, _⟩
  · simp [Value.ownBlock] at hg
  · simp [Value.ownBlock] at hg
    subst hg
    exact ⟨hb, (Array.getElem?_eq_some_iff.1 hgg).1, cur.toList, by unfold Blk; simpa using hgg⟩
theorem ownU_nil (w : World) (B : Nat) : OwnU w B (.slice none 0 0) [] := World.ownsRow_nil _ _ _ _
/-- 'append(v, x...)'. -/
theorem ownU_app {w : World} {B : Nat} {v : Value} {l m : List Nat} (h : OwnU w B v l) (hB : B ≤ w.heap.size) (hl : l.length ≤ 1000) (hm : m.length ≤ 1000) {sp : Option Addr} {c : Nat} (hsrc : SrcU w sp m) (hz : sp = none → m.length = 0 ∧ c = 0) (ty : TypeId) :
    ∃ v' w', (Builtin.append_ #[29, 29] ty #[v, .slice sp m.length c]).run Try.prog w = .ok v' w' ∧ OwnU w' B v' (l ++ m) ∧ w.grownBy w' v.ownBlock ∧ (v'.ownBlock = v.ownBlock ∨ v'.ownBlock = some w.heap.size) := by
  obtain ⟨i0, hi, hz0, hz1, hz2⟩ := info_parts infoU
  cases sp with
  | none =>
    obtain ⟨h1, h2⟩ := hz rfl
    obtain rfl := List.eq_nil_of_length_eq_zero h1
    subst h2
    refine ⟨v, w, run_append_owned_none (P := Try.prog) (w := w) B 29 ty 33 i0 1 Try.underlying29 hi v l.length (l.map U) h, by rw [List.append_nil]; exact h, ⟨rfl, rfl, rfl, Nat.le_refl _, fun _ _ _ => rfl⟩, .inl rfl⟩
  | some ad =>
    obtain ⟨v', w', hr, h2, h3, _, h5⟩ := run_append_own_at (P := Try.prog) w B 29 ty 33 i0 (.int .u16 0) 1 2 Try.underlying29 hi hz0 hz1 hz2 rfl (by decide) v l.length (l.map U) h ad m.length c (m.map U) (by simp) (fun j u hj => by
      have hjl := (List.getElem?_eq_some_iff.1 hj).1
      rw [List.length_map] at hjl
      obtain ⟨g, e, hc⟩ := hsrc (by omega)
      cases e
      rw [List.getElem?_map] at hj
      obtain ⟨a, ha, rfl⟩ := Option.map_eq_some_iff.1 hj
      rw [Addr.add_mid, Nat.zero_add]
      exact hc j a ha) (fun u hu => by obtain ⟨a, _, rfl⟩ := List.mem_map.1 hu; rfl) (by unfold maxLen; omega) (by omega) hB
    refine ⟨v', w', hr, ?_, h3, h5⟩
    unfold OwnU
    rw [List.map_append, List.length_append]
    exact h2
theorem ex_appU {ρ : Operand → Value} {o : Oper} {x y : Operand} {v u v' : Value} {w w' : World} (ho : o.op = .call { callee := .builtin .append, args := #[x, y], argTypes := #[29, 29] }) (hx : ρ x = v) (hy : ρ y = u)
    (hr : (Builtin.append_ #[29, 29] o.type #[v, u]).run Try.prog w = .ok v' w') : (execOp ρ o).run Try.prog w = .ok (.value v') w' := by
  unfold execOp
  simp only [ho, resolve, invoke, builtin, Sem.run_bind, Sem.run_pure, Result.andThen_ok, List.map_toArray, List.map_cons, List.map_nil, hx, hy, hr]
theorem wpL_val {ops : Array Oper} {rest : List Oper} {o : Oper} {a : Act} {Q : Exit → Act → World → Prop} {w w' : World} {v : Value} (hg : o.guard = none) (hrun : (execOp a.eval o).run Try.prog w = .ok (.value v) w')
    (hK : wpList Try.prog ops Q rest (a.put o.dst v) w') : wpList Try.prog ops Q (o :: rest) a w := by
  refine wpList_plain hg fun K' hK' => ?_
  unfold Oper.wp
  rw [hrun]
  exact hK' _ _ hK
/-- A block of one address, just made. -/
theorem src_one (w : World) (a : Nat) : SrcU (w.alloc (.cells #[.int .u16 (a : Int)] 33)) (some ⟨w.heap.size, 0, none⟩) [a] := fun _ => ⟨w.heap.size, rfl, fun j b hj => by
  cases j with
  | zero => simp at hj; subst hj; exact (Blk.new w [U a] 33).cell rfl
  | succ j => simp at hj⟩
def hasB (l : List Nat) (a : Nat) : Bool := l.contains a
theorem hasB_iff (l : List Nat) (a : Nat) : hasB l a = true ↔ a ∈ l := by simp [hasB]
set_option maxRecDepth 100000 in
set_option maxHeartbeats 4000000 in
theorem has_any (sp : Option Addr) (cap : Nat) (l : List Nat) (a : Nat) (w : World) (hl : l.length ≤ 1000) (h : SrcU w sp l) : Calls Try.prog 20 #[.slice sp l.length cap, .int .u16 (a : Int)] w fun e w' => e = .returned (.bool (hasB l a)) ∧ w = w' := by
  obtain ⟨n, hn⟩ : ∃ n, l.length = n := ⟨_, rfl⟩
  have HN := Lib.hid hn
  have H := Lib.hid h
  rw [hn] at hl ⊢
  clear hn h
  go_enter Try.func20, Try.ntmps20
  go_wp2_with fail
  go_loop [5] (fun i => ∃ k : Nat, k ≤ n ∧ i = .int .i64 (k : Int) ∧ Hid (∀ (j b : Nat), j < k → l[j]? = some b → b ≠ a)) (fun i => n - (intOf i).toNat)
  case atStart => exact ⟨0, by omega, rfl, Lib.hid fun j b hj => by omega⟩
  case round =>
    obtain ⟨k, hk, rfl, HK⟩ := hrel
    have wk := IntWalk.i64_in ((k : Int) + 1) (by omega)
    by_cases hlt : k < n
    · obtain ⟨b, hb⟩ : ∃ b, l[k]? = some b := ⟨_, List.getElem?_eq_getElem (by rw [HN.out]; exact hlt)⟩
      obtain ⟨g, rfl, hc⟩ := H.out (by rw [HN.out]; omega)
      have c0 : w.cell? ⟨g, k, none⟩ = some (.int .u16 (b : Int)) := hc k b hb
      have HB := Lib.hid hb
      clear hc hb
      by_cases hba : b = a
      · have ht : ((b : Int) == (a : Int)) = true := by simp; omega
        have HT : Hid (hasB l a = true) := Lib.hid (by rw [hasB_iff, ← hba]; exact List.mem_of_getElem? HB.out)
        clear hba
        go_wp2_with fail
        go_ret
        rw [HT.out]
        exact ⟨rfl, rfl⟩
      · have ht : ((b : Int) == (a : Int)) = false := by simp; omega
        have HK2 : Hid (∀ (j b : Nat), j < k + 1 → l[j]? = some b → b ≠ a) := Lib.hid fun j c hj hc => by
          by_cases e : j = k
          · subst e; rw [HB.out] at hc; cases hc; exact hba
          · exact HK.out j c (by omega) hc
        clear hba
        go_wp2_with fail
        go_round
        case rel => exact ⟨k + 1, by omega, by go_num, HK2⟩
        case measure => simp [intOf]; omega
    · obtain rfl : k = n := by omega
      have HT : Hid (hasB l a = false) := Lib.hid (by
        cases hh : hasB l a with
        | false => rfl
        | true =>
          obtain ⟨j, hj⟩ := List.getElem?_of_mem ((hasB_iff l a).1 hh)
          have hjl := (List.getElem?_eq_some_iff.1 hj).1
          exact absurd rfl (HK.out j a (by rw [HN.out] at hjl; exact hjl) hj))
      go_wp2_with fail
      go_ret
      rw [HT.out]
      exact ⟨rfl, rfl⟩
def wo (l : List Nat) (a : Nat) : List Nat := l.filter fun b => b != a
theorem wo_snoc {l : List Nat} {k b : Nat} (a : Nat) (h : l[k]? = some b) : wo (l.take (k + 1)) a = wo (l.take k) a ++ if b != a then [b] else [] := by
  obtain ⟨h1, h2⟩ := List.getElem?_eq_some_iff.1 h
  unfold wo
  rw [List.take_succ_eq_append_getElem h1, List.filter_append, h2]
  simp [List.filter_cons]
theorem wo_len (l : List Nat) (a k : Nat) : (wo (l.take k) a).length ≤ l.length := Nat.le_trans (List.length_filter_le _ _) (by simp; omega)
/-- What the loop of without keeps. -/
def WoAt (w0 w : World) (v : Value) (l : List Nat) (a k : Nat) : Prop := OwnU w w0.heap.size v (wo (l.take k) a) ∧ Below w0.heap.size w0 w
set_option maxRecDepth 100000 in
set_option maxHeartbeats 4000000 in
theorem without_any (sp : Option Addr) (cap : Nat) (l : List Nat) (a : Nat) (w : World) (hl : l.length ≤ 1000) (h : SrcU w sp l) (hlt : ∀ g o s, sp = some ⟨g, o, s⟩ → g < w.heap.size) : Calls Try.prog 23 #[.slice sp l.length cap, .int .u16 (a : Int)] w fun e w' => ∃ v, e = .returned v ∧ OwnU w' w.heap.size v (wo l a) ∧ Below w.heap.size w w' := by
  obtain ⟨n, hn⟩ : ∃ n, l.length = n := ⟨_, rfl⟩
  have HN := Lib.hid hn
  have H := Lib.hid h
  have HLT := Lib.hid hlt
  have H0 : Hid (WoAt w w (.slice none 0 0) l a 0) := Lib.hid ⟨ownU_nil _ _, Below.refl _ _⟩
  rw [hn] at hl ⊢
  clear hn h hlt
  go_enter Try.func23, Try.ntmps23
  go_wp2_with fail
  go_loopw [5, 6] (fun v i wr => ∃ k : Nat, k ≤ n ∧ i = .int .i64 (k : Int) ∧ WoAt w wr v l a k) (fun _ i _ => n - (intOf i).toNat)
  case atStart => exact ⟨0, by omega, rfl, H0.out⟩
  case round =>
    clear H0
    obtain ⟨k, hk, rfl, hW⟩ := hrel
    have wk := IntWalk.i64_in ((k : Int) + 1) (by omega)
    obtain ⟨spv, capv, rfl, _⟩ := hW.1.form
    have hll := wo_len l a k
    have hsz := hW.2.size
    rw [HN.out] at hll
    have HW := Lib.hid hW
    clear hW
    by_cases hlt : k < n
    · obtain ⟨b, hb⟩ : ∃ b, l[k]? = some b := ⟨_, List.getElem?_eq_getElem (by rw [HN.out]; exact hlt)⟩
      obtain ⟨g, rfl, hc⟩ := H.out (by rw [HN.out]; omega)
      have c0 : wr.cell? ⟨g, k, none⟩ = some (.int .u16 (b : Int)) := (HW.out.2.cell (p := ⟨g, k, none⟩) (HLT.out g 0 none rfl)).trans (hc k b hb)
      have HSN := Lib.hid (wo_snoc a hb)
      clear hc hb
      by_cases hba : b = a
      · have ht : ((b : Int) != (a : Int)) = false := by simp; omega
        have HE : Hid (wo (l.take (k + 1)) a = wo (l.take k) a) := Lib.hid (by rw [HSN.out]; simp [hba])
        clear hba
        go_wp2_with fail
        go_roundw
        case rel => exact ⟨k + 1, by omega, by go_num, by unfold WoAt; rw [HE.out]; exact HW.out⟩
        case measure => simp [intOf]; omega
      · have ht : ((b : Int) != (a : Int)) = true := by simp; omega
        have HE : Hid (wo (l.take (k + 1)) a = wo (l.take k) a ++ [b]) := Lib.hid (by rw [HSN.out]; simp [hba])
        clear hba
        have hb1 : Below wr.heap.size wr (wr.alloc (.cells #[.int .u16 (b : Int)] 33)) := (Below.refl _ _).alloc (Nat.le_refl _) _
        obtain ⟨v3, w3, hr3, ho3, hg3, hg4⟩ := ownU_app (HW.out.1.below hb1) (Nat.le_trans hsz hb1.size) (by omega) (m := [b]) (by simp) (c := 1) (src_one wr b) (by simp) 29
        have hb3 : Below w.heap.size w w3 := (HW.out.2.trans (hb1.mono hsz)).grown hg3 (Nat.le_trans hsz hb1.size) (fun q hq => (HW.out.1.blk hq).1)
        have HR3 := Lib.hid hr3
        have HN3 : Hid (WoAt w w3 v3 l a (k + 1)) := Lib.hid ⟨by rw [HE.out]; exact ho3, hb3⟩
        obtain ⟨sp3, cap3, e3, _⟩ := ho3.form
        rw [List.length_append, List.length_singleton] at e3
        clear hr3 ho3 hg3 hg4 hb3 hb1
        subst e3
        go_wp2_with (first | (at_builtin; refine wpL_val rfl (ex_appU rfl rfl rfl HR3.out) ?_) | fail)
        go_roundw
        case rel => exact ⟨k + 1, by omega, by go_num, HN3.out⟩
        case measure => simp [intOf]; omega
    · obtain rfl : k = n := by omega
      have hall : wo (l.take k) a = wo l a := by rw [List.take_of_length_le (by rw [HN.out]; exact Nat.le_refl _)]
      have HALL := Lib.hid hall
      clear hall hlt hll
      go_wp2_with fail
      go_ret
      exact ⟨_, rfl, by rw [← HALL.out]; exact HW.out.1, HW.out.2⟩
end Go.Proofs.Ytjfedhaafdfibaa
