/- DirBytes: Great, of, the document's Are and Put. -/
import Derived.Test.YtlkhnmhhcagghaaEk
import Derived.Test.YtlkhnmhhcagghaaEi
import Derived.Test.YtlkhnmhhcagghaaEl
import Derived.Test.YtlkhnmhhcagghaaEm
import Derived.Test.YtlkhnmhhcagghaaWr
namespace Go.Proofs.Ytlkhnmhhcagghaa
open Go.RowKit

attribute [local go_sem] Oper.semAt_some

section
variable {ρ : Operand → Value} {o : Oper} {x y : Operand} {w : World}
theorem ex_neEr {a b : Int} {k : TypeId} {r : Bool} (ho : o.op = .binOp .neq 26 x y k) (hx : ρ x = .int .i64 a) (hy : ρ y = .int .i64 b) (hr : (a != b) = r) : (execOp ρ o).run Try.prog w = .ok (.value (.bool r)) w := by
  subst hr
  unfold execOp
  simp only [ho]
  go_simp
end
def greatE (l : List Ent) : Bool := decide (100 < l.length) || l.any (fun e => decide (300 < e.n.length))
set_option maxRecDepth 100000 in
set_option maxHeartbeats 4000000 in
theorem enGreat_any (l : List Ent) (sp : Option Addr) (cap : Nat) (hc : l.length ≤ cap) (w : World) (hs : SrcE w sp l) : Calls Try.prog 6 #[.slice sp l.length cap] w fun e w' => e = .returned (.bool (greatE l)) ∧ Below w.heap.size w w' := by
  obtain ⟨N, hN⟩ : ∃ N, l.length = N := ⟨_, rfl⟩
  rw [hN] at hc ⊢
  have HN := Lib.hid hN; have HC := Lib.hid hc; have HS := Lib.hid hs
  generalize hPost : (fun (e : Ending) (w' : World) => e = Ending.returned (.bool (greatE l)) ∧ Below w.heap.size w w') = Post
  have HPO : Hid (∀ b w', greatE l = b → Below w.heap.size w w' → Post (.returned (.bool b)) w') := Lib.hid fun b w' e h => by rw [← hPost, ← e]; exact ⟨rfl, h⟩
  clear hN hc hs hPost
  go_enter Try.func6, Try.ntmps6
  by_cases hb : 100 < N
  · have j1 : (100 : Int) < (N : Int) := by omega
    have HE := Lib.hid (HPO.out true w (by unfold greatE; rw [HN.out, decide_eq_true hb]; rfl) (Below.refl _ _))
    clear hb
    go_wp2_with fail
    first | exact HE.out | (go_ret; exact HE.out)
  · have j1 : ¬ (100 : Int) < (N : Int) := by omega
    have HB : Hid (N ≤ 100) := Lib.hid (by omega)
    clear hb
    go_upto_region 5 with fail
    go_loopg [3] N (fun r i wr => ∃ k : Nat, i = .int .i64 (k : Int) ∧ r + k = N ∧ (l.take k).any (fun a => decide (300 < a.n.length)) = false ∧ wr = w)
    case atStart => exact ⟨0, rfl, by omega, by simp, rfl⟩
    case round =>
      clear j1
      obtain ⟨k, rfl, hgk, hno, rfl⟩ := hrel
      have HNO := Lib.hid hno
      clear hno
      have wk1 := IntWalk.i64_in ((k : Int) + 1) (by have := HB.out; omega)
      by_cases hlt : k < N
      · have hlt' : (k : Int) < (N : Int) := by omega
        obtain ⟨e, he⟩ : ∃ e, l[k]? = some e := ⟨_, List.getElem?_eq_getElem (by have := HN.out; omega)⟩
        obtain ⟨g, o, rfl, hg, hr⟩ := HS.out (by have := HN.out; omega)
        have f0 : wr.cell? ⟨g, o + k * 3, none⟩ = some (.string (str e.n)) := hr k e he 0 _ rfl
        have HKC : Hid (k < N ∧ N ≤ cap) := Lib.hid ⟨hlt, HC.out⟩
        have HTK := Lib.hid (take_snocE he)
        have HMEM := Lib.hid (List.mem_of_getElem? he)
        clear he hg hr
        by_cases h3 : 300 < e.n.length
        · have z1 : (300 : Int) < (e.n.length : Int) := by omega
          have HE := Lib.hid (HPO.out true wr (by unfold greatE; rw [Bool.or_eq_true]; right; rw [List.any_eq_true]; exact ⟨e, HMEM.out, decide_eq_true h3⟩) (Below.refl _ _))
          clear h3
          go_wp2_with (first | (refine e_val rfl (ex_iaR rfl rfl rfl HKC.out) ?_) | (refine e_val rfl (e_lenS rfl rfl) ?_) | fail)
          first | exact HE.out | (go_ret; exact HE.out)
        · have z1 : ¬ (300 : Int) < (e.n.length : Int) := by omega
          have HNO2 : Hid ((l.take (k + 1)).any (fun a => decide (300 < a.n.length)) = false) := Lib.hid (by rw [HTK.out, List.any_append, HNO.out]; simp; omega)
          clear h3
          go_wp2_with (first | (refine e_val rfl (ex_iaR rfl rfl rfl HKC.out) ?_) | (refine e_val rfl (e_lenS rfl rfl) ?_) | fail)
          go_roundg (N - (k + 1))
          case measure => omega
          case rel => exact ⟨k + 1, by go_num, by omega, HNO2.out, rfl⟩
      · obtain rfl : N = k := by omega
        have hlt' : ¬ (N : Int) < (N : Int) := by omega
        have HE := Lib.hid (HPO.out false wr (by unfold greatE; rw [HN.out, decide_eq_false (by have := HB.out; omega)]; have := HNO.out; rw [← HN.out, List.take_length] at this; exact this) (Below.refl _ _))
        go_wp2_with fail
        first | exact HE.out | (go_ret; exact HE.out)
theorem ownE_push {W0 W : World} {v : Value} {A : List Ent} (ho : OwnE W W0.heap.size v A) (hb : Below W0.heap.size W0 W) (hl : A.length + 1 < 1000000) (x : Ent) :
    ∃ sp n cap w', (Builtin.append_ #[29, 29] 29 #[v, .slice (some ⟨W.heap.size, 0, none⟩) 1 1]).run Try.prog (W.alloc (.cells (ecells x).toArray 46)) = .ok (.slice sp n cap) w' ∧ OwnE w' W0.heap.size (.slice sp n cap) (A ++ [x]) ∧ Below W0.heap.size W0 w' := by
  have hb7 : Below W.heap.size W (W.alloc (.cells (ecells x).toArray 46)) := (Below.refl _ _).alloc (Nat.le_refl _) _
  have hk7 : Blk (W.alloc (.cells (ecells x).toArray 46)) W.heap.size (ecells x) 46 := Blk.new' _ _ _ _ _ rfl rfl
  have hbw7 : Below W0.heap.size W0 (W.alloc (.cells (ecells x).toArray 46)) := hb.alloc hb.size _
  obtain ⟨v8, w8, hr8, ho8, hg8, hn8⟩ := ownE_app (ho.below hb7 (Nat.le_refl _)) hbw7.size hl hk7 29
  have hb8 := ownE_bel (ho.below hb7 (Nat.le_refl _)) hbw7 hg8
  obtain ⟨sp8, cap8, rfl, -⟩ := ho8.form
  exact ⟨sp8, _, cap8, w8, hr8, ho8, hb8⟩
set_option maxRecDepth 100000 in
set_option maxHeartbeats 8000000 in
theorem enOf_any (l : List Ent) (sp : Option Addr) (cap : Nat) (hc : l.length ≤ cap) (hl : l.length < 100000) (w : World) (hs : SrcE w sp l) : Calls Try.prog 9 #[.slice sp l.length cap] w fun e w' => ∃ v, e = .returned v ∧ OwnE w' w.heap.size v l ∧ Below w.heap.size w w' := by
  obtain ⟨N, hN⟩ : ∃ N, l.length = N := ⟨_, rfl⟩
  rw [hN] at hc hl ⊢
  have HN := Lib.hid hN; have HC := Lib.hid hc; have HS := Lib.hid hs; have HL := Lib.hid hl
  generalize hPost : (fun (e : Ending) (w' : World) => ∃ v, e = .returned v ∧ OwnE w' w.heap.size v l ∧ Below w.heap.size w w') = Post
  have HP : Hid (∀ v w', OwnE w' w.heap.size v l → Below w.heap.size w w' → Post (.returned v) w') := Lib.hid fun v w' h1 h2 => by rw [← hPost]; exact ⟨v, rfl, h1, h2⟩
  clear hN hc hs hl hPost
  go_enter Try.func9, Try.ntmps9
  go_upto_region 4 with fail
  go_loopg [3, 4] N (fun r s i wr => ∃ k : Nat, i = .int .i64 (k : Int) ∧ r + k = N ∧ OwnE wr w.heap.size s (l.take k) ∧ Below w.heap.size w wr)
  case atStart => exact ⟨0, rfl, by omega, OwnE.nil _ _, Below.refl _ _⟩
  case round =>
    obtain ⟨k, rfl, hgk, hown, hbw⟩ := hrel
    obtain ⟨spo, capo, e4, -⟩ := hown.form
    obtain ⟨no, hno⟩ : ∃ n, (l.take k).length = n := ⟨_, rfl⟩
    rw [hno] at e4
    subst e4
    have HOWN := Lib.hid hown; have HBW := Lib.hid hbw
    clear hbw hown hno
    have wk1 := IntWalk.i64_in ((k : Int) + 1) (by have := HL.out; omega)
    by_cases hlt : k < N
    · have hlt' : (k : Int) < (N : Int) := by omega
      obtain ⟨x, he⟩ : ∃ e, l[k]? = some e := ⟨_, List.getElem?_eq_getElem (by have := HN.out; omega)⟩
      obtain ⟨g, o, rfl, hg, hr⟩ := HS.out (by have := HN.out; omega)
      have hrx : ∀ X, Below w.heap.size w X → X.rangeAt g (o + k * 3) (ecells x) := fun X hX j v hv => by rw [hX.cell (p := ⟨g, o + k * 3 + j, none⟩) hg]; exact hr k x he j v hv
      have hbd : Below w.heap.size w wr.drew := HBW.out.drew
      have hob : OwnE wr.drew w.heap.size (.slice spo no capo) (l.take k) := HOWN.out.below (Below.refl _ _).drew (Nat.le_refl _)
      obtain ⟨sp6, n6, cap6, w6, hr6, ho6, hb6⟩ := ownE_push hob hbd (by rw [List.length_take]; have := HL.out; have := HN.out; omega) x
      rw [← take_snocE he] at ho6
      have HSX := Lib.hid (hrx _ hbd)
      have HS1 := Lib.hid (hrx _ (hbd.alloc hbd.size (.cells (ecells x).toArray 46)))
      have HS2 := Lib.hid (hrx _ hb6)
      have HR6 := Lib.hid hr6; have HO6 := Lib.hid ho6; have HB6 := Lib.hid hb6
      have HKC : Hid (k < N ∧ N ≤ cap) := Lib.hid ⟨hlt, HC.out⟩
      clear he hg hr hrx hbd hob hr6 ho6 hb6
      go_upto_region 5 with fail
      refine wp_region_sched ((.take 0 (.take 1 (.take 2 (.take 3 (.take 4 (.take 5 (.take 6 (.take 7 (.take 8 (.take 9 (.take 10 (.take 11 (.take 12 (.take 13 (.take 14 (.take 15 (.take 16 (.step 17 (.step 18 (.take 19 (.nil)))))))))))))))))))))) (by kernel_rfl) (by kernel_rfl) (fun d _ _ _ _ h => by cases d <;> exact h) (fun X => X.rangeAt g (o + k * 3) (ecells x)) (HSX.out) ?_
      refine wpG_take _ (.slice spo no capo) rfl (by rfl) (fun X hX => by first | rfl | go_simp) ?_
      (try simp only [Act.put, List.setIfInBounds_toArray, List.set_cons_zero, List.set_cons_succ])
      refine wpG_take _ (.slice (some ⟨g, o, none⟩) N cap) rfl (by rfl) (fun X hX => by first | rfl | go_simp) ?_
      (try simp only [Act.put, List.setIfInBounds_toArray, List.set_cons_zero, List.set_cons_succ])
      refine wpG_take _ (.int .i64 (k : Int)) rfl (by rfl) (fun X hX => by first | rfl | go_simp) ?_
      (try simp only [Act.put, List.setIfInBounds_toArray, List.set_cons_zero, List.set_cons_succ])
      refine wpG_take _ (.pointer (some ⟨g, o + k * 3, none⟩)) rfl (by rfl) (fun X hX => ex_iaR rfl rfl rfl HKC.out) ?_
      (try simp only [Act.put, List.setIfInBounds_toArray, List.set_cons_zero, List.set_cons_succ])
      refine wpG_take _ (.pointer (some ⟨g, o + k * 3 + 0, none⟩)) rfl (by rfl) (fun X hX => ex_faR (by decide) rfl rfl) ?_
      (try simp only [Act.put, List.setIfInBounds_toArray, List.set_cons_zero, List.set_cons_succ])
      refine wpG_take _ (.string (str x.n)) rfl (by rfl) (fun X hX => ex_ldS rfl rfl (hX 0 _ rfl)) ?_
      (try simp only [Act.put, List.setIfInBounds_toArray, List.set_cons_zero, List.set_cons_succ])
      refine wpG_take _ (.slice (some ⟨g, o, none⟩) N cap) rfl (by rfl) (fun X hX => by first | rfl | go_simp) ?_
      (try simp only [Act.put, List.setIfInBounds_toArray, List.set_cons_zero, List.set_cons_succ])
      refine wpG_take _ (.int .i64 (k : Int)) rfl (by rfl) (fun X hX => by first | rfl | go_simp) ?_
      (try simp only [Act.put, List.setIfInBounds_toArray, List.set_cons_zero, List.set_cons_succ])
      refine wpG_take _ (.pointer (some ⟨g, o + k * 3, none⟩)) rfl (by rfl) (fun X hX => ex_iaR rfl rfl rfl HKC.out) ?_
      (try simp only [Act.put, List.setIfInBounds_toArray, List.set_cons_zero, List.set_cons_succ])
      refine wpG_take _ (.pointer (some ⟨g, o + k * 3 + 1, none⟩)) rfl (by rfl) (fun X hX => ex_faR (by decide) rfl rfl) ?_
      (try simp only [Act.put, List.setIfInBounds_toArray, List.set_cons_zero, List.set_cons_succ])
      refine wpG_take _ (.int .u16 (x.u : Int)) rfl (by rfl) (fun X hX => ex_ldU16 rfl rfl (hX 1 _ rfl)) ?_
      (try simp only [Act.put, List.setIfInBounds_toArray, List.set_cons_zero, List.set_cons_succ])
      refine wpG_take _ (.slice (some ⟨g, o, none⟩) N cap) rfl (by rfl) (fun X hX => by first | rfl | go_simp) ?_
      (try simp only [Act.put, List.setIfInBounds_toArray, List.set_cons_zero, List.set_cons_succ])
      refine wpG_take _ (.int .i64 (k : Int)) rfl (by rfl) (fun X hX => by first | rfl | go_simp) ?_
      (try simp only [Act.put, List.setIfInBounds_toArray, List.set_cons_zero, List.set_cons_succ])
      refine wpG_take _ (.pointer (some ⟨g, o + k * 3, none⟩)) rfl (by rfl) (fun X hX => ex_iaR rfl rfl rfl HKC.out) ?_
      (try simp only [Act.put, List.setIfInBounds_toArray, List.set_cons_zero, List.set_cons_succ])
      refine wpG_take _ (.pointer (some ⟨g, o + k * 3 + 2, none⟩)) rfl (by rfl) (fun X hX => ex_faR (by decide) rfl rfl) ?_
      (try simp only [Act.put, List.setIfInBounds_toArray, List.set_cons_zero, List.set_cons_succ])
      refine wpG_take _ (.int .u8 (x.k : Int)) rfl (by rfl) (fun X hX => ex_ldB8 rfl rfl (hX 2 _ rfl)) ?_
      (try simp only [Act.put, List.setIfInBounds_toArray, List.set_cons_zero, List.set_cons_succ])
      refine wpG_take _ (.agg (ecells x).toArray) rfl (by rfl) (fun X hX => ex_bldE rfl rfl rfl rfl) ?_
      (try simp only [Act.put, List.setIfInBounds_toArray, List.set_cons_zero, List.set_cons_succ])
      refine wpG_mkE _ rfl (by rfl) (.slice (some ⟨wr.drew.heap.size, 0, none⟩) 1 1) (wr.drew.alloc (.cells (ecells x).toArray 46)) (ex_oneE rfl rfl) (fun X => X.rangeAt g (o + k * 3) (ecells x)) (HS1.out) (fun _ h => h) ?_
      (try simp only [Act.put, List.setIfInBounds_toArray, List.set_cons_zero, List.set_cons_succ])
      refine wpG_mkE _ rfl (by rfl) (.slice sp6 n6 cap6) (w6) (ex_appE rfl rfl rfl HR6.out) (fun X => X.rangeAt g (o + k * 3) (ecells x)) (HS2.out) (fun _ h => h) ?_
      (try simp only [Act.put, List.setIfInBounds_toArray, List.set_cons_zero, List.set_cons_succ])
      refine wpG_take _ (.slice sp6 n6 cap6) rfl (by rfl) (fun X hX => by first | rfl | go_simp) ?_
      (try simp only [Act.put, List.setIfInBounds_toArray, List.set_cons_zero, List.set_cons_succ])
      refine wpG_nil ?_
      go_wp2_with fail
      go_roundg (N - (k + 1))
      case measure => omega
      case rel => exact ⟨k + 1, by go_num, by omega, HO6.out, HB6.out⟩
    · obtain rfl : N = k := by omega
      have hlt' : ¬ (N : Int) < (N : Int) := by omega
      have htk : l.take N = l := by rw [← HN.out, List.take_length]
      have HQ := Lib.hid (HP.out (.slice spo no capo) wr (by have := HOWN.out; rw [htk] at this; exact this) HBW.out)
      clear htk
      go_wp2_with fail
      first | exact HQ.out | (go_ret; exact HQ.out)
/-- Is entry i one, and behind the last one? -/
def okR (l : List Ent) (i : Nat) : Bool := decide (mayE (l.getD i default) = 0) && (decide (i = 0) || ltN (l.getD (i - 1) default).n (l.getD i default).n)
theorem mayE_iff (e : Ent) : decide (mayE e = 0) = (decide (errC e.n = 0) && whoB e) := by
  unfold mayE
  by_cases h1 : errC e.n = 0
  · rw [if_neg (by simpa using h1), decide_eq_true h1]
    cases whoB e <;> simp
  · rw [if_pos h1]; simp [h1]
theorem okR_foll {l : List Ent} {i : Nat} (hi : i < l.length) (h64 : i < 64) : follB (l.take i) (l.getD i default) = okR l i := by
  unfold follB okR
  rw [mayE_iff, List.length_take, Nat.min_eq_left (by omega), decide_eq_true h64]
  cases i with
  | zero =>
    rw [show (l.take 0).getLast? = none from rfl]
    dsimp only
    cases decide (errC (l.getD 0 default).n = 0) <;> cases whoB (l.getD 0 default) <;> rfl
  | succ j =>
    have e1 : (l.take (j + 1)).getLast? = some (l.getD j default) := by
      rw [List.getLast?_eq_getElem?, List.length_take, Nat.min_eq_left (by omega), List.getElem?_take, if_pos (by omega), show j + 1 - 1 = j by omega, List.getD_eq_getElem?_getD, List.getElem?_eq_getElem (by omega)]; rfl
    rw [e1, decide_eq_false (by omega : ¬ j + 1 = 0), show j + 1 - 1 = j by omega]
    dsimp only
    cases ltN (l.getD j default).n (l.getD (j + 1) default).n <;> cases decide (errC (l.getD (j + 1) default).n = 0) <;> cases whoB (l.getD (j + 1) default) <;> rfl
theorem areB_R (l : List Ent) : areB l = ((List.range l.length).all (okR l) && decide (l.length ≤ 64)) := by
  unfold areB
  by_cases h : l.length ≤ 64
  · rw [decide_eq_true h, Bool.and_true]
    rw [Bool.eq_iff_iff, List.all_eq_true, List.all_eq_true]
    constructor
    · intro h2 i hi
      have h3 := List.mem_range.1 hi
      rw [← okR_foll h3 (by omega)]
      exact h2 i hi
    · intro h2 i hi
      have h3 := List.mem_range.1 hi
      rw [okR_foll h3 (by omega)]
      exact h2 i hi
  · rw [decide_eq_false h, Bool.and_false, List.all_eq_false]
    refine ⟨64, List.mem_range.2 (by omega), ?_⟩
    unfold follB
    rw [List.length_take, decide_eq_false (by omega)]
    simp
set_option maxRecDepth 100000 in
set_option maxHeartbeats 16000000 in
theorem renAre_any (l : List Ent) (sp : Option Addr) (cap : Nat) (hc : l.length ≤ cap) (hl : l.length < 100000) (hn : ∀ e ∈ l, e.n.length < 1000000) (w : World) (hs : SrcE w sp l) : Calls Try.prog 22 #[.slice sp l.length cap] w fun e w' => e = .returned (.bool (areB l)) ∧ Below w.heap.size w w' := by
  obtain ⟨N, hN⟩ : ∃ N, l.length = N := ⟨_, rfl⟩
  have har := areB_R l
  rw [hN] at hc hl har ⊢
  have HN := Lib.hid hN; have HC := Lib.hid hc; have HS := Lib.hid hs; have HL := Lib.hid hl; have HNM := Lib.hid hn
  generalize hPost : (fun (e : Ending) (w' : World) => e = .returned (.bool (areB l)) ∧ Below w.heap.size w w') = Post
  have HPN : Hid (∀ w' k, k < N → okR l k = false → Below w.heap.size w w' → Post (.returned (.bool false)) w') := Lib.hid fun w' k hk h0 h1 => by
    rw [← hPost, har, List.all_eq_false.2 ⟨k, List.mem_range.2 hk, by rw [h0]; simp⟩]; exact ⟨rfl, h1⟩
  have HPY : Hid (∀ w', (∀ k, k < N → okR l k = true) → Below w.heap.size w w' → Post (.returned (.bool (decide (N ≤ 64)))) w') := Lib.hid fun w' h0 h1 => by
    rw [← hPost, har, List.all_eq_true.2 (fun k hk => h0 k (List.mem_range.1 hk)), Bool.true_and]; exact ⟨rfl, h1⟩
  clear hN hc hs hl hn hPost har
  go_enter Try.func22, Try.ntmps22
  go_upto_region 3 with fail
  go_loopg [3] N (fun r i wr => ∃ k : Nat, i = .int .i64 (k : Int) ∧ r + k = N ∧ (∀ j, j < k → okR l j = true) ∧ Below w.heap.size w wr)
  case atStart => exact ⟨0, rfl, by omega, fun j hj => by omega, Below.refl _ _⟩
  case round =>
    obtain ⟨k, rfl, hgk, hall, hbw⟩ := hrel
    have HALL := Lib.hid hall; have HBW := Lib.hid hbw
    clear hbw hall
    have wk1 := IntWalk.i64_in ((k : Int) + 1) (by have := HL.out; omega)
    by_cases hlt : k < N
    · have hlt' : (k : Int) < (N : Int) := by omega
      obtain ⟨x, he⟩ : ∃ e, l[k]? = some e := ⟨_, List.getElem?_eq_getElem (by have := HN.out; omega)⟩
      have HNX := Lib.hid (HNM.out x (List.mem_of_getElem? he))
      obtain ⟨g, o, rfl, hg, hr⟩ := HS.out (by have := HN.out; omega)
      have hrx : ∀ j y, l[j]? = some y → ∀ X, Below wr.heap.size wr X → X.rangeAt g (o + j * 3) (ecells y) := fun j y hj X hX i v hv => by
        have hX' : Below w.heap.size w X := HBW.out.trans (hX.mono HBW.out.size)
        rw [hX'.cell (p := ⟨g, o + j * 3 + i, none⟩) hg]; exact hr j y hj i v hv
      have HRX := Lib.hid hrx
      have HGD : Hid (l.getD k default = x) := Lib.hid (by rw [List.getD_eq_getElem?_getD, he]; rfl)
      have HHE := Lib.hid he
      have HKC : Hid (k < N ∧ N ≤ cap) := Lib.hid ⟨hlt, HC.out⟩
      clear he hg hr hrx
      go_upto_region 4 with fail
      by_cases hm : mayE x = 0
      · have HME : Hid (((mayE x : Int) != 0) = false) := Lib.hid (by rw [hm]; rfl)
        by_cases h0 : k = 0
        · have HGT : Hid (decide ((0 : Int) < (k : Int)) = false) := Lib.hid (decide_eq_false (by omega))
          have HSX : Hid (∀ X, Below wr.heap.size wr X → X.rangeAt g (o + k * 3) (ecells x)) := Lib.hid (HRX.out k x HHE.out)
          have HOK : Hid (okR l k = true) := Lib.hid (by unfold okR; rw [HGD.out, decide_eq_true hm, decide_eq_true h0]; rfl)
          clear hm h0
          refine wp_region_sched ((.take 0 (.take 1 (.take 2 (.take 3 (.step 4 (.take 5 (.take 6 (.take 7 (.take 8 (.take 9 (.take 10 (.take 11 (.take 12 (.take 13 (.take 14 (.take 15 (.take 16 (.take 17 (.take 18 (.take 19 (.take 20 (.take 21 (.take 22 (.take 23 (.nil)))))))))))))))))))))))))) (by kernel_rfl) (by kernel_rfl) (fun d _ _ _ _ h => by cases d <;> exact h) (fun X => X.rangeAt g (o + k * 3) (ecells x)) (HSX.out _ (Below.refl _ _).drew) ?_
          refine wpG_take _ (.slice (some ⟨g, o, none⟩) N cap) rfl (by rfl) (fun X hX => by first | rfl | go_simp) ?_
          (try simp only [Act.put, List.setIfInBounds_toArray, List.set_cons_zero, List.set_cons_succ])
          refine wpG_take _ (.int .i64 (k : Int)) rfl (by rfl) (fun X hX => by first | rfl | go_simp) ?_
          (try simp only [Act.put, List.setIfInBounds_toArray, List.set_cons_zero, List.set_cons_succ])
          refine wpG_take _ (.pointer (some ⟨g, o + k * 3, none⟩)) rfl (by rfl) (fun X hX => ex_iaR rfl rfl rfl HKC.out) ?_
          (try simp only [Act.put, List.setIfInBounds_toArray, List.set_cons_zero, List.set_cons_succ])
          refine wpG_take _ (.agg (ecells x).toArray) rfl (by rfl) (fun X hX => ex_ldR hX rfl rfl) ?_
          (try simp only [Act.put, List.setIfInBounds_toArray, List.set_cons_zero, List.set_cons_succ])
          refine wpG_call _ rfl (by rfl) 35 (#[.agg (ecells x).toArray]) (fun X => by first | rfl | go_simp) (fun v W3 => v = .int .i64 (mayE x : Int) ∧ Below wr.drew.heap.size wr.drew W3) ((renMay_any x HNX.out wr.drew).mono fun y w' ⟨h1, h2⟩ => ⟨_, h1, HSX.out w' ((Below.refl _ _).drew.trans h2), rfl, h2⟩) ?_
          rintro v W3 hS3 ⟨rfl, hb3⟩
          refine ⟨fun X => X.rangeAt g (o + k * 3) (ecells x), fun _ h => h, hS3, ?_⟩
          (try simp only [Act.put, List.setIfInBounds_toArray, List.set_cons_zero, List.set_cons_succ])
          refine wpG_take _ (.bool false) rfl (by rfl) (fun X hX => ex_neEr rfl rfl rfl HME.out) ?_
          (try simp only [Act.put, List.setIfInBounds_toArray, List.set_cons_zero, List.set_cons_succ])
          refine wpG_take _ (.bool false) rfl (by rfl) (fun X hX => by first | rfl | go_simp) ?_
          (try simp only [Act.put, List.setIfInBounds_toArray, List.set_cons_zero, List.set_cons_succ])
          refine wpG_take _ (.int .i64 (k : Int)) rfl (by rfl) (fun X hX => by first | rfl | go_simp) ?_
          (try simp only [Act.put, List.setIfInBounds_toArray, List.set_cons_zero, List.set_cons_succ])
          refine wpG_take _ (.bool false) rfl (by rfl) (fun X hX => ex_gtI rfl rfl rfl HGT.out) ?_
          (try simp only [Act.put, List.setIfInBounds_toArray, List.set_cons_zero, List.set_cons_succ])
          refine wpG_take _ (.bool false) rfl (by rfl) (fun X hX => by first | rfl | go_simp) ?_
          (try simp only [Act.put, List.setIfInBounds_toArray, List.set_cons_zero, List.set_cons_succ])
          refine wpG_pass _ rfl (by rfl) ?_
          (try simp only [Act.put, List.setIfInBounds_toArray, List.set_cons_zero, List.set_cons_succ])
          refine wpG_pass _ rfl (by rfl) ?_
          (try simp only [Act.put, List.setIfInBounds_toArray, List.set_cons_zero, List.set_cons_succ])
          refine wpG_pass _ rfl (by rfl) ?_
          (try simp only [Act.put, List.setIfInBounds_toArray, List.set_cons_zero, List.set_cons_succ])
          refine wpG_pass _ rfl (by rfl) ?_
          (try simp only [Act.put, List.setIfInBounds_toArray, List.set_cons_zero, List.set_cons_succ])
          refine wpG_pass _ rfl (by rfl) ?_
          (try simp only [Act.put, List.setIfInBounds_toArray, List.set_cons_zero, List.set_cons_succ])
          refine wpG_pass _ rfl (by rfl) ?_
          (try simp only [Act.put, List.setIfInBounds_toArray, List.set_cons_zero, List.set_cons_succ])
          refine wpG_pass _ rfl (by rfl) ?_
          (try simp only [Act.put, List.setIfInBounds_toArray, List.set_cons_zero, List.set_cons_succ])
          refine wpG_pass _ rfl (by rfl) ?_
          (try simp only [Act.put, List.setIfInBounds_toArray, List.set_cons_zero, List.set_cons_succ])
          refine wpG_pass _ rfl (by rfl) ?_
          (try simp only [Act.put, List.setIfInBounds_toArray, List.set_cons_zero, List.set_cons_succ])
          refine wpG_pass _ rfl (by rfl) ?_
          (try simp only [Act.put, List.setIfInBounds_toArray, List.set_cons_zero, List.set_cons_succ])
          refine wpG_pass _ rfl (by rfl) ?_
          (try simp only [Act.put, List.setIfInBounds_toArray, List.set_cons_zero, List.set_cons_succ])
          refine wpG_pass _ rfl (by rfl) ?_
          (try simp only [Act.put, List.setIfInBounds_toArray, List.set_cons_zero, List.set_cons_succ])
          refine wpG_take _ (.bool false) rfl (by rfl) (fun X hX => by first | rfl | go_simp) ?_
          (try simp only [Act.put, List.setIfInBounds_toArray, List.set_cons_zero, List.set_cons_succ])
          refine wpG_take _ (.bool false) rfl (by rfl) (fun X hX => by first | rfl | go_simp) ?_
          (try simp only [Act.put, List.setIfInBounds_toArray, List.set_cons_zero, List.set_cons_succ])
          refine wpG_nil ?_
          have HB3 : Hid (Below w.heap.size w W3) := Lib.hid (HBW.out.drew.trans (hb3.mono HBW.out.size))
          clear hS3 hb3
          go_wp2_with fail
          go_roundg (N - (k + 1))
          case measure => omega
          case rel => exact ⟨k + 1, by go_num, by omega, fun j hj => by
            rcases Nat.lt_succ_iff_lt_or_eq.1 hj with h | rfl
            · exact HALL.out j h
            · exact HOK.out, HB3.out⟩
        · have HGT : Hid (decide ((0 : Int) < (k : Int)) = true) := Lib.hid (decide_eq_true (by omega))
          obtain ⟨z, hz⟩ : ∃ z, l[k - 1]? = some z := ⟨_, List.getElem?_eq_getElem (by have := HN.out; omega)⟩
          have HSX : Hid (∀ X, Below wr.heap.size wr X → X.rangeAt g (o + k * 3) (ecells x) ∧ X.rangeAt g (o + (k - 1) * 3) (ecells z)) := Lib.hid (fun X hX => ⟨HRX.out k x HHE.out X hX, HRX.out (k - 1) z hz X hX⟩)
          obtain ⟨lt, hlt2⟩ : ∃ b, (!ltN z.n x.n) = b := ⟨_, rfl⟩
          have HLT := Lib.hid hlt2
          have HOK : Hid (okR l k = !lt) := Lib.hid (by
            unfold okR
            rw [HGD.out, decide_eq_true hm, decide_eq_false h0, show l.getD (k - 1) default = z by rw [List.getD_eq_getElem?_getD, hz]; rfl, ← hlt2]
            simp)
          have HKC1 : Hid (k - 1 < N ∧ N ≤ cap) := Lib.hid ⟨by omega, HC.out⟩
          have HSB : Hid (1 ≤ k ∧ k < 1000000) := Lib.hid ⟨by omega, by have := HL.out; omega⟩
          clear hm h0 hz hlt2
          refine wp_region_sched ((.take 0 (.take 1 (.take 2 (.take 3 (.step 4 (.take 5 (.take 6 (.take 7 (.take 8 (.take 9 (.take 10 (.take 11 (.take 12 (.take 13 (.take 14 (.take 15 (.take 16 (.take 17 (.take 18 (.take 19 (.take 20 (.take 21 (.take 22 (.take 23 (.nil)))))))))))))))))))))))))) (by kernel_rfl) (by kernel_rfl) (fun d _ _ _ _ h => by cases d <;> exact h) (fun X => X.rangeAt g (o + k * 3) (ecells x) ∧ X.rangeAt g (o + (k - 1) * 3) (ecells z)) (HSX.out _ (Below.refl _ _).drew) ?_
          refine wpG_take _ (.slice (some ⟨g, o, none⟩) N cap) rfl (by rfl) (fun X hX => by first | rfl | go_simp) ?_
          (try simp only [Act.put, List.setIfInBounds_toArray, List.set_cons_zero, List.set_cons_succ])
          refine wpG_take _ (.int .i64 (k : Int)) rfl (by rfl) (fun X hX => by first | rfl | go_simp) ?_
          (try simp only [Act.put, List.setIfInBounds_toArray, List.set_cons_zero, List.set_cons_succ])
          refine wpG_take _ (.pointer (some ⟨g, o + k * 3, none⟩)) rfl (by rfl) (fun X hX => ex_iaR rfl rfl rfl HKC.out) ?_
          (try simp only [Act.put, List.setIfInBounds_toArray, List.set_cons_zero, List.set_cons_succ])
          refine wpG_take _ (.agg (ecells x).toArray) rfl (by rfl) (fun X hX => ex_ldR hX.1 rfl rfl) ?_
          (try simp only [Act.put, List.setIfInBounds_toArray, List.set_cons_zero, List.set_cons_succ])
          refine wpG_call _ rfl (by rfl) 35 (#[.agg (ecells x).toArray]) (fun X => by first | rfl | go_simp) (fun v W3 => v = .int .i64 (mayE x : Int) ∧ Below wr.drew.heap.size wr.drew W3) ((renMay_any x HNX.out wr.drew).mono fun y w' ⟨h1, h2⟩ => ⟨_, h1, HSX.out w' ((Below.refl _ _).drew.trans h2), rfl, h2⟩) ?_
          rintro v W3 hS3 ⟨rfl, hb3⟩
          refine ⟨fun X => X.rangeAt g (o + k * 3) (ecells x) ∧ X.rangeAt g (o + (k - 1) * 3) (ecells z), fun _ h => h, hS3, ?_⟩
          (try simp only [Act.put, List.setIfInBounds_toArray, List.set_cons_zero, List.set_cons_succ])
          refine wpG_take _ (.bool false) rfl (by rfl) (fun X hX => ex_neEr rfl rfl rfl HME.out) ?_
          (try simp only [Act.put, List.setIfInBounds_toArray, List.set_cons_zero, List.set_cons_succ])
          refine wpG_take _ (.bool false) rfl (by rfl) (fun X hX => by first | rfl | go_simp) ?_
          (try simp only [Act.put, List.setIfInBounds_toArray, List.set_cons_zero, List.set_cons_succ])
          refine wpG_take _ (.int .i64 (k : Int)) rfl (by rfl) (fun X hX => by first | rfl | go_simp) ?_
          (try simp only [Act.put, List.setIfInBounds_toArray, List.set_cons_zero, List.set_cons_succ])
          refine wpG_take _ (.bool true) rfl (by rfl) (fun X hX => ex_gtI rfl rfl rfl HGT.out) ?_
          (try simp only [Act.put, List.setIfInBounds_toArray, List.set_cons_zero, List.set_cons_succ])
          refine wpG_take _ (.bool true) rfl (by rfl) (fun X hX => by first | rfl | go_simp) ?_
          (try simp only [Act.put, List.setIfInBounds_toArray, List.set_cons_zero, List.set_cons_succ])
          refine wpG_take _ (.slice (some ⟨g, o, none⟩) N cap) rfl (by rfl) (fun X hX => by first | rfl | go_simp) ?_
          (try simp only [Act.put, List.setIfInBounds_toArray, List.set_cons_zero, List.set_cons_succ])
          refine wpG_take _ (.int .i64 (k : Int)) rfl (by rfl) (fun X hX => by first | rfl | go_simp) ?_
          (try simp only [Act.put, List.setIfInBounds_toArray, List.set_cons_zero, List.set_cons_succ])
          refine wpG_take _ (.int .i64 ((k - 1 : Nat) : Int)) rfl (by rfl) (fun X hX => ex_subI (b := 1) rfl rfl rfl HSB.out) ?_
          (try simp only [Act.put, List.setIfInBounds_toArray, List.set_cons_zero, List.set_cons_succ])
          refine wpG_take _ (.pointer (some ⟨g, o + (k - 1) * 3, none⟩)) rfl (by rfl) (fun X hX => ex_iaR rfl rfl rfl HKC1.out) ?_
          (try simp only [Act.put, List.setIfInBounds_toArray, List.set_cons_zero, List.set_cons_succ])
          refine wpG_take _ (.pointer (some ⟨g, o + (k - 1) * 3 + 0, none⟩)) rfl (by rfl) (fun X hX => ex_faR (by decide) rfl rfl) ?_
          (try simp only [Act.put, List.setIfInBounds_toArray, List.set_cons_zero, List.set_cons_succ])
          refine wpG_take _ (.string (str z.n)) rfl (by rfl) (fun X hX => ex_ldS rfl rfl (hX.2 0 _ rfl)) ?_
          (try simp only [Act.put, List.setIfInBounds_toArray, List.set_cons_zero, List.set_cons_succ])
          refine wpG_take _ (.slice (some ⟨g, o, none⟩) N cap) rfl (by rfl) (fun X hX => by first | rfl | go_simp) ?_
          (try simp only [Act.put, List.setIfInBounds_toArray, List.set_cons_zero, List.set_cons_succ])
          refine wpG_take _ (.int .i64 (k : Int)) rfl (by rfl) (fun X hX => by first | rfl | go_simp) ?_
          (try simp only [Act.put, List.setIfInBounds_toArray, List.set_cons_zero, List.set_cons_succ])
          refine wpG_take _ (.pointer (some ⟨g, o + k * 3, none⟩)) rfl (by rfl) (fun X hX => ex_iaR rfl rfl rfl HKC.out) ?_
          (try simp only [Act.put, List.setIfInBounds_toArray, List.set_cons_zero, List.set_cons_succ])
          refine wpG_take _ (.pointer (some ⟨g, o + k * 3 + 0, none⟩)) rfl (by rfl) (fun X hX => ex_faR (by decide) rfl rfl) ?_
          (try simp only [Act.put, List.setIfInBounds_toArray, List.set_cons_zero, List.set_cons_succ])
          refine wpG_take _ (.string (str x.n)) rfl (by rfl) (fun X hX => ex_ldS rfl rfl (hX.1 0 _ rfl)) ?_
          (try simp only [Act.put, List.setIfInBounds_toArray, List.set_cons_zero, List.set_cons_succ])
          refine wpG_take _ (.bool lt) rfl (by rfl) (fun X hX => ex_geS rfl rfl rfl HLT.out) ?_
          (try simp only [Act.put, List.setIfInBounds_toArray, List.set_cons_zero, List.set_cons_succ])
          refine wpG_take _ (.bool lt) rfl (by rfl) (fun X hX => by first | rfl | go_simp) ?_
          (try simp only [Act.put, List.setIfInBounds_toArray, List.set_cons_zero, List.set_cons_succ])
          refine wpG_take _ (.bool lt) rfl (by rfl) (fun X hX => by first | rfl | go_simp) ?_
          (try simp only [Act.put, List.setIfInBounds_toArray, List.set_cons_zero, List.set_cons_succ])
          refine wpG_nil ?_
          have HB3 : Hid (Below w.heap.size w W3) := Lib.hid (HBW.out.drew.trans (hb3.mono HBW.out.size))
          clear hS3 hb3
          cases lt with
          | true =>
            have HQ := Lib.hid (HPN.out W3 k hlt HOK.out HB3.out)
            go_wp2_with fail
            first | exact HQ.out | (go_ret; exact HQ.out)
          | false =>
            go_wp2_with fail
            go_roundg (N - (k + 1))
            case measure => omega
            case rel => exact ⟨k + 1, by go_num, by omega, fun j hj => by
              rcases Nat.lt_succ_iff_lt_or_eq.1 hj with h | rfl
              · exact HALL.out j h
              · exact HOK.out, HB3.out⟩
      · have HME : Hid (((mayE x : Int) != 0) = true) := Lib.hid (by simp; omega)
        have HSX : Hid (∀ X, Below wr.heap.size wr X → X.rangeAt g (o + k * 3) (ecells x)) := Lib.hid (HRX.out k x HHE.out)
        have HOK : Hid (okR l k = false) := Lib.hid (by unfold okR; rw [HGD.out, decide_eq_false hm]; rfl)
        clear hm
        refine wp_region_sched ((.take 0 (.take 1 (.take 2 (.take 3 (.step 4 (.take 5 (.take 6 (.take 7 (.take 8 (.take 9 (.take 10 (.take 11 (.take 12 (.take 13 (.take 14 (.take 15 (.take 16 (.take 17 (.take 18 (.take 19 (.take 20 (.take 21 (.take 22 (.take 23 (.nil)))))))))))))))))))))))))) (by kernel_rfl) (by kernel_rfl) (fun d _ _ _ _ h => by cases d <;> exact h) (fun X => X.rangeAt g (o + k * 3) (ecells x)) (HSX.out _ (Below.refl _ _).drew) ?_
        refine wpG_take _ (.slice (some ⟨g, o, none⟩) N cap) rfl (by rfl) (fun X hX => by first | rfl | go_simp) ?_
        (try simp only [Act.put, List.setIfInBounds_toArray, List.set_cons_zero, List.set_cons_succ])
        refine wpG_take _ (.int .i64 (k : Int)) rfl (by rfl) (fun X hX => by first | rfl | go_simp) ?_
        (try simp only [Act.put, List.setIfInBounds_toArray, List.set_cons_zero, List.set_cons_succ])
        refine wpG_take _ (.pointer (some ⟨g, o + k * 3, none⟩)) rfl (by rfl) (fun X hX => ex_iaR rfl rfl rfl HKC.out) ?_
        (try simp only [Act.put, List.setIfInBounds_toArray, List.set_cons_zero, List.set_cons_succ])
        refine wpG_take _ (.agg (ecells x).toArray) rfl (by rfl) (fun X hX => ex_ldR hX rfl rfl) ?_
        (try simp only [Act.put, List.setIfInBounds_toArray, List.set_cons_zero, List.set_cons_succ])
        refine wpG_call _ rfl (by rfl) 35 (#[.agg (ecells x).toArray]) (fun X => by first | rfl | go_simp) (fun v W3 => v = .int .i64 (mayE x : Int) ∧ Below wr.drew.heap.size wr.drew W3) ((renMay_any x HNX.out wr.drew).mono fun y w' ⟨h1, h2⟩ => ⟨_, h1, HSX.out w' ((Below.refl _ _).drew.trans h2), rfl, h2⟩) ?_
        rintro v W3 hS3 ⟨rfl, hb3⟩
        refine ⟨fun X => X.rangeAt g (o + k * 3) (ecells x), fun _ h => h, hS3, ?_⟩
        (try simp only [Act.put, List.setIfInBounds_toArray, List.set_cons_zero, List.set_cons_succ])
        refine wpG_take _ (.bool true) rfl (by rfl) (fun X hX => ex_neEr rfl rfl rfl HME.out) ?_
        (try simp only [Act.put, List.setIfInBounds_toArray, List.set_cons_zero, List.set_cons_succ])
        refine wpG_take _ (.bool true) rfl (by rfl) (fun X hX => by first | rfl | go_simp) ?_
        (try simp only [Act.put, List.setIfInBounds_toArray, List.set_cons_zero, List.set_cons_succ])
        refine wpG_pass _ rfl (by rfl) ?_
        (try simp only [Act.put, List.setIfInBounds_toArray, List.set_cons_zero, List.set_cons_succ])
        refine wpG_pass _ rfl (by rfl) ?_
        (try simp only [Act.put, List.setIfInBounds_toArray, List.set_cons_zero, List.set_cons_succ])
        refine wpG_pass _ rfl (by rfl) ?_
        (try simp only [Act.put, List.setIfInBounds_toArray, List.set_cons_zero, List.set_cons_succ])
        refine wpG_pass _ rfl (by rfl) ?_
        (try simp only [Act.put, List.setIfInBounds_toArray, List.set_cons_zero, List.set_cons_succ])
        refine wpG_pass _ rfl (by rfl) ?_
        (try simp only [Act.put, List.setIfInBounds_toArray, List.set_cons_zero, List.set_cons_succ])
        refine wpG_pass _ rfl (by rfl) ?_
        (try simp only [Act.put, List.setIfInBounds_toArray, List.set_cons_zero, List.set_cons_succ])
        refine wpG_pass _ rfl (by rfl) ?_
        (try simp only [Act.put, List.setIfInBounds_toArray, List.set_cons_zero, List.set_cons_succ])
        refine wpG_pass _ rfl (by rfl) ?_
        (try simp only [Act.put, List.setIfInBounds_toArray, List.set_cons_zero, List.set_cons_succ])
        refine wpG_pass _ rfl (by rfl) ?_
        (try simp only [Act.put, List.setIfInBounds_toArray, List.set_cons_zero, List.set_cons_succ])
        refine wpG_pass _ rfl (by rfl) ?_
        (try simp only [Act.put, List.setIfInBounds_toArray, List.set_cons_zero, List.set_cons_succ])
        refine wpG_pass _ rfl (by rfl) ?_
        (try simp only [Act.put, List.setIfInBounds_toArray, List.set_cons_zero, List.set_cons_succ])
        refine wpG_pass _ rfl (by rfl) ?_
        (try simp only [Act.put, List.setIfInBounds_toArray, List.set_cons_zero, List.set_cons_succ])
        refine wpG_pass _ rfl (by rfl) ?_
        (try simp only [Act.put, List.setIfInBounds_toArray, List.set_cons_zero, List.set_cons_succ])
        refine wpG_pass _ rfl (by rfl) ?_
        (try simp only [Act.put, List.setIfInBounds_toArray, List.set_cons_zero, List.set_cons_succ])
        refine wpG_pass _ rfl (by rfl) ?_
        (try simp only [Act.put, List.setIfInBounds_toArray, List.set_cons_zero, List.set_cons_succ])
        refine wpG_pass _ rfl (by rfl) ?_
        (try simp only [Act.put, List.setIfInBounds_toArray, List.set_cons_zero, List.set_cons_succ])
        refine wpG_take _ (.bool true) rfl (by rfl) (fun X hX => by first | rfl | go_simp) ?_
        (try simp only [Act.put, List.setIfInBounds_toArray, List.set_cons_zero, List.set_cons_succ])
        refine wpG_nil ?_
        have HB3 : Hid (Below w.heap.size w W3) := Lib.hid (HBW.out.drew.trans (hb3.mono HBW.out.size))
        clear hS3 hb3
        have HQ := Lib.hid (HPN.out W3 k hlt HOK.out HB3.out)
        go_wp2_with fail
        first | exact HQ.out | (go_ret; exact HQ.out)
    · obtain rfl : N = k := by omega
      have hlt' : ¬ (N : Int) < (N : Int) := by omega
      have HQ := Lib.hid (HPY.out wr HALL.out HBW.out)
      by_cases h64 : N ≤ 64
      · have y0 : (N : Int) ≤ 64 := by omega
        rw [decide_eq_true h64] at HQ
        clear h64
        go_wp2_with fail
        first | exact HQ.out | (go_ret; exact HQ.out)
      · have y0 : ¬ (N : Int) ≤ 64 := by omega
        rw [decide_eq_false h64] at HQ
        clear h64
        go_wp2_with fail
        first | exact HQ.out | (go_ret; exact HQ.out)
end Go.Proofs.Ytlkhnmhhcagghaa
