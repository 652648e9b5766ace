/- Whether a Set's items may not be: the law's own word. -/
import Derived.Test.YtjgjohdeeeoeoaaGreatDoorM39
import Derived.Test.YtjgjohdeeeoeoaaGreatDoorM22
set_option linter.all false
namespace Go.Proofs.YtjgjohdeeeoeoaaGreatDoor
open Go.RowKit
attribute [local go_sem] Oper.semAt_some
variable {m : Bool} {a b : Nat} {t : TypeId}
section
variable {ρ : Operand → Value} {o : Oper} {x y : Operand} {w : World}
theorem ql (hm : decide (a < b) = m) (ho : o.op = .binOp .lss 23 x y t) (hx : ρ x = .int .u16 (a : Int)) (hy : ρ y = .int .u16 (b : Int)) : (execOp ρ o).run Tryz.prog w = .ok (.value (.bool m)) w := by
 have e : decide ((a : Int) < (b : Int)) = m := by rw [← hm, Bool.eq_iff_iff]; simp
 unfold execOp;simp only [ho];go_simp
theorem ub (hm : decide (b < a) = m) (ho : o.op = .binOp .gtr 23 x y t) (hx : ρ x = .int .u16 (a : Int)) (hy : ρ y = .int .u16 (b : Int)) : (execOp ρ o).run Tryz.prog w = .ok (.value (.bool m)) w := by
 have e : decide ((b : Int) < (a : Int)) = m := by rw [← hm, Bool.eq_iff_iff]; simp
 unfold execOp;simp only [ho];go_simp
theorem Eg (hm : decide (b ≤ a) = m) (ho : o.op = .binOp .geq 23 x y t) (hx : ρ x = .int .u16 (a : Int)) (hy : ρ y = .int .u16 (b : Int)) : (execOp ρ o).run Tryz.prog w = .ok (.value (.bool m)) w := by
 have e : decide ((b : Int) ≤ (a : Int)) = m := by rw [← hm, Bool.eq_iff_iff]; simp
 unfold execOp;simp only [ho];go_simp
theorem Co (hm : decide (b < a) = m) (ho : o.op = .binOp .gtr 3 x y t) (hx : ρ x = .int .i64 (a : Int)) (hy : ρ y = .int .i64 (b : Int)) : (execOp ρ o).run Tryz.prog w = .ok (.value (.bool m)) w := by
 have e : decide ((b : Int) < (a : Int)) = m := by rw [← hm, Bool.eq_iff_iff]; simp
 unfold execOp;simp only [ho];go_simp
theorem Ej {c : Nat} (hc : c + 1 = a) (ha : a < 100000000) (ho : o.op = .binOp .sub 3 x y t) (hx : ρ x = .int .i64 (a : Int)) (hy : ρ y = .int .i64 1) : (execOp ρ o).run Tryz.prog w = .ok (.value (.int .i64 (c : Int))) w := by
 have e : (a : Int) - 1 = (c : Int) := by omega
 have hw : IntKind.i64.wrap (c : Int) = (c : Int) := IntWalk.i64_in _ (by omega);unfold execOp;simp only [ho];go_simp
end
theorem Sn {l : List Itm} {k : Nat} {x : Itm} (hk : l[k]? = some x) : de l k = (df x.1 && (decide (k = 0) || decide ((l.getD (k - 1) (0, zeroI)).1 < x.1)) && ij x.2) := by
 unfold de;rw [hk]
set_option maxRecDepth 100000 in
set_option maxHeartbeats 16000000 in
theorem Jj (l : List Itm) (hok : ∀ x ∈ l, Itm.OK x) (sp : Option Addr) (cap : Nat) (hc : l.length ≤ cap) (hl : l.length ≤ 1000) (w : World) (hS : SrcT w sp l) : Calls Tryz.prog 17 #[.slice sp l.length cap] w fun e w' => e = .returned (.bool (!ka l)) ∧ Below w.heap.size w w' := by
 obtain ⟨N, hN⟩ : ∃ N, l.length = N := ⟨_, rfl⟩;rw [hN] at hc hl ⊢;have HN := zH hN; have HC := zH hc; have HL := zH hl; have HS := zH hS; have av := zH hok;obtain ⟨rs, aj⟩ : ∃ b, (!ka l) = b := ⟨_, rfl⟩;have aw := zH aj;rw [aj];generalize hPost : (fun e w' => e = Ending.returned (.bool rs) ∧ Below w.heap.size w w') = Post;have a7 : Hid (∀ b Y, (!ka l) = b → Below w.heap.size w Y → Post (.returned (.bool b)) Y) := zH fun b Y h1 h2 => by rw [← hPost, ← h1, aw.out]; exact ⟨rfl, h2⟩
 clear hN hc hl hS hok hPost aj;go_enter Tryz.func17, Tryz.ntmps17
 go_wp2_with fail
 go_loopw [3] (fun i wr => ∃ k : Nat, k ≤ N ∧ i = .int .i64 (k : Int) ∧ (∀ j, j < k → de l j = true) ∧ Below w.heap.size w wr) (fun i _ => N - (intOf i).toNat)
 case atStart => exact ⟨0, by omega, rfl, fun j hj => by omega, Below.refl _ _⟩
 case round =>
  obtain ⟨k, hk, rfl, a5, ao⟩ := hrel;have HG := zH a5; have ae := zH ao;clear a5 ao;have ax := IntWalk.i64_in ((k : Int) + 1) (by have := HL.out; omega);by_cases hlt : k < N
  ·obtain ⟨q, hq⟩ : ∃ q, l[k]? = some q := ⟨_, List.getElem?_eq_getElem (by have := HN.out; omega)⟩
   have ar := av.out q (List.mem_of_getElem? hq);obtain ⟨g, o, rfl, -⟩ := Dp HS.out hq;have a4 := Sn hq;have a1 : Hid (k < N ∧ N ≤ cap) := zH ⟨hlt, HC.out⟩;have HR : Hid (∀ X, Below w.heap.size w X → X.rangeAt g (o + k * 45) (tcI q)) := zH fun X hb => vn (iv HS.out hb) hq
   have HQ := zH ar
   have al : Hid (de l k = true → ∀ j, j < k + 1 → de l j = true) := zH fun h j hj => by
    rcases Nat.lt_or_ge j k with h1 | h1
    ·exact HG.out j h1
    ·rw [show j = k by omega]; exact h
   have a8 : Hid (de l k = false → (!ka l) = true) := zH fun h => by rw [vi (by have := HN.out; have := a1.out; omega) h]; rfl
   obtain ⟨qn, qi⟩ := q;have a4 : de l k = (df qn && (decide (k = 0) || decide ((l.getD (k - 1) (0, zeroI)).1 < qn)) && ij qi) := a4;obtain ⟨mb, ah⟩ : ∃ b, ij qi = b := ⟨_, rfl⟩;rw [ah] at a4;have ak := zH ah;have aa := zH a4;clear hq ar a4 ah
   go_upto_region 4 with fail
   obtain ⟨W1, an⟩ : ∃ W, wr = W := ⟨_, rfl⟩;rw [an] at ae ⊢;clear an;have a0 : Below w.heap.size w W1.drew := ae.out.trans ((Below.refl _ _).drew);by_cases hn1 : decide (qn < 1) = true
   ·have a3 : de l k = false := by rw [aa.out]; have h1 : qn = 0 := (by have := of_decide_eq_true hn1; omega); simp [df, h1]
    refine gS ((.take 0 (.take 1 (.take 2 (.take 3 (.take 4 (.take 5 (.take 6 (.take 7 (.take 8 (.take 9 (.take 10 (.take 11 (.take 12 (.take 13 (.take 14 (.take 15 (.take 16 (.take 17 (.take 18 (.take 19 (.take 20 (.take 21 (.take 22 (.take 23 (.take 24 (.take 25 (.take 26 (.take 27 (.take 28 (.take 29 (.take 30 (.take 31 (.take 32 (.take 33 (.take 34 (.take 35 (.take 36 (.take 37 (.step 38 (.take 39 (.take 40 (.nil))))))))))))))))))))))))))))))))))))))))))) (fun X => Below w.heap.size w X) (a0) ?_;refine gT (.slice (some ⟨g, o, none⟩) N cap) ?_;refine gT (.int .i64 (k : Int)) ?_;refine gU (.pointer (some ⟨g, o + k * 45, none⟩)) rfl (fun X hX => dy rfl rfl rfl a1.out) ?_;refine gU (.pointer (some ⟨g, o + k * 45, none⟩)) rfl (fun X hX => ed rfl rfl) ?_;refine gU (.int .u16 (qn : Int)) rfl (fun X hX => az Tryz.underlying23 rfl rfl (eh (HR.out X hX))) ?_;refine gU (.bool true) rfl (fun X hX => ql (b := 1) hn1 rfl rfl rfl) ?_;refine gT (.bool true) ?_;refine gP ?_;refine gP ?_;refine gP ?_;refine gP ?_;refine gP ?_;refine gP ?_;refine gT (.bool true) ?_;refine gT (.bool true) ?_;refine gP ?_;refine gP ?_;refine gP ?_;refine gP ?_;refine gP ?_;refine gP ?_;refine gP ?_;refine gP ?_;refine gP ?_;refine gP ?_;refine gP ?_;refine gP ?_;refine gP ?_;refine gP ?_;refine gP ?_;refine gP ?_;refine gT (.bool true) ?_;refine gT (.bool true) ?_;refine gP ?_;refine gP ?_;refine gP ?_;refine gP ?_;refine gP ?_;refine jz _ rfl (by rfl) a0 ?_; try simp only [pS]
    refine gP ?_;refine gT (.bool true) ?_;refine au ?_;have HE := zH (a7.out true W1.drew (a8.out a3) a0);clear a0
    go_wp2_with fail
    first | exact HE.out | (go_ret; exact HE.out)
   rw [Bool.not_eq_true] at hn1;by_cases hn2 : decide (255 < qn) = true
   ·have a3 : de l k = false := by rw [aa.out]; have h1 : ¬ qn ≤ 255 := (by have := of_decide_eq_true hn2; omega); simp [df, h1]
    refine gS ((.take 0 (.take 1 (.take 2 (.take 3 (.take 4 (.take 5 (.take 6 (.take 7 (.take 8 (.take 9 (.take 10 (.take 11 (.take 12 (.take 13 (.take 14 (.take 15 (.take 16 (.take 17 (.take 18 (.take 19 (.take 20 (.take 21 (.take 22 (.take 23 (.take 24 (.take 25 (.take 26 (.take 27 (.take 28 (.take 29 (.take 30 (.take 31 (.take 32 (.take 33 (.take 34 (.take 35 (.take 36 (.take 37 (.step 38 (.take 39 (.take 40 (.nil))))))))))))))))))))))))))))))))))))))))))) (fun X => Below w.heap.size w X) (a0) ?_;refine gT (.slice (some ⟨g, o, none⟩) N cap) ?_;refine gT (.int .i64 (k : Int)) ?_;refine gU (.pointer (some ⟨g, o + k * 45, none⟩)) rfl (fun X hX => dy rfl rfl rfl a1.out) ?_;refine gU (.pointer (some ⟨g, o + k * 45, none⟩)) rfl (fun X hX => ed rfl rfl) ?_;refine gU (.int .u16 (qn : Int)) rfl (fun X hX => az Tryz.underlying23 rfl rfl (eh (HR.out X hX))) ?_;refine gU (.bool false) rfl (fun X hX => ql (b := 1) hn1 rfl rfl rfl) ?_;refine gT (.bool false) ?_;refine gT (.slice (some ⟨g, o, none⟩) N cap) ?_;refine gT (.int .i64 (k : Int)) ?_;refine gU (.pointer (some ⟨g, o + k * 45, none⟩)) rfl (fun X hX => dy rfl rfl rfl a1.out) ?_;refine gU (.pointer (some ⟨g, o + k * 45, none⟩)) rfl (fun X hX => ed rfl rfl) ?_;refine gU (.int .u16 (qn : Int)) rfl (fun X hX => az Tryz.underlying23 rfl rfl (eh (HR.out X hX))) ?_;refine gU (.bool true) rfl (fun X hX => ub (b := 255) hn2 rfl rfl rfl) ?_;refine gT (.bool true) ?_;refine gT (.bool true) ?_;refine gP ?_;refine gP ?_;refine gP ?_;refine gP ?_;refine gP ?_;refine gP ?_;refine gP ?_;refine gP ?_;refine gP ?_;refine gP ?_;refine gP ?_;refine gP ?_;refine gP ?_;refine gP ?_;refine gP ?_;refine gP ?_;refine gT (.bool true) ?_;refine gT (.bool true) ?_;refine gP ?_;refine gP ?_;refine gP ?_;refine gP ?_;refine gP ?_;refine jz _ rfl (by rfl) a0 ?_; try simp only [pS]
    refine gP ?_;refine gT (.bool true) ?_;refine au ?_;have HE := zH (a7.out true W1.drew (a8.out a3) a0);clear a0
    go_wp2_with fail
    first | exact HE.out | (go_ret; exact HE.out)
   rw [Bool.not_eq_true] at hn2;have a9 : Hid (df qn = true) := zH (by have h1 := of_decide_eq_false hn1; have h2 := of_decide_eq_false hn2; simp [df]; omega);by_cases hz : k = 0
   ·have ab : decide (0 < k) = false := by simp [hz]
    have a5 : de l k = mb := (by rw [aa.out, a9.out, hz]; simp);refine gS ((.take 0 (.take 1 (.take 2 (.take 3 (.take 4 (.take 5 (.take 6 (.take 7 (.take 8 (.take 9 (.take 10 (.take 11 (.take 12 (.take 13 (.take 14 (.take 15 (.take 16 (.take 17 (.take 18 (.take 19 (.take 20 (.take 21 (.take 22 (.take 23 (.take 24 (.take 25 (.take 26 (.take 27 (.take 28 (.take 29 (.take 30 (.take 31 (.take 32 (.take 33 (.take 34 (.take 35 (.take 36 (.take 37 (.step 38 (.take 39 (.take 40 (.nil))))))))))))))))))))))))))))))))))))))))))) (fun X => Below w.heap.size w X) (a0) ?_;refine gT (.slice (some ⟨g, o, none⟩) N cap) ?_;refine gT (.int .i64 (k : Int)) ?_;refine gU (.pointer (some ⟨g, o + k * 45, none⟩)) rfl (fun X hX => dy rfl rfl rfl a1.out) ?_;refine gU (.pointer (some ⟨g, o + k * 45, none⟩)) rfl (fun X hX => ed rfl rfl) ?_;refine gU (.int .u16 (qn : Int)) rfl (fun X hX => az Tryz.underlying23 rfl rfl (eh (HR.out X hX))) ?_;refine gU (.bool false) rfl (fun X hX => ql (b := 1) hn1 rfl rfl rfl) ?_;refine gT (.bool false) ?_;refine gT (.slice (some ⟨g, o, none⟩) N cap) ?_;refine gT (.int .i64 (k : Int)) ?_;refine gU (.pointer (some ⟨g, o + k * 45, none⟩)) rfl (fun X hX => dy rfl rfl rfl a1.out) ?_;refine gU (.pointer (some ⟨g, o + k * 45, none⟩)) rfl (fun X hX => ed rfl rfl) ?_;refine gU (.int .u16 (qn : Int)) rfl (fun X hX => az Tryz.underlying23 rfl rfl (eh (HR.out X hX))) ?_;refine gU (.bool false) rfl (fun X hX => ub (b := 255) hn2 rfl rfl rfl) ?_;refine gT (.bool false) ?_;refine gT (.bool false) ?_;refine gT (.int .i64 (k : Int)) ?_;refine gU (.bool false) rfl (fun X hX => Co (b := 0) ab rfl rfl rfl) ?_;refine gT (.bool false) ?_;refine gP ?_;refine gP ?_;refine gP ?_;refine gP ?_;refine gP ?_;refine gP ?_;refine gP ?_;refine gP ?_;refine gP ?_;refine gP ?_;refine gP ?_;refine gP ?_;refine gT (.bool false) ?_;refine gT (.bool false) ?_;refine gT (.bool false) ?_;refine gT (.slice (some ⟨g, o, none⟩) N cap) ?_;refine gT (.int .i64 (k : Int)) ?_;refine gU (.pointer (some ⟨g, o + k * 45, none⟩)) rfl (fun X hX => dy rfl rfl rfl a1.out) ?_;refine gU (.pointer (some ⟨g, o + k * 45 + 1, none⟩)) rfl (fun X hX => zd rfl rfl) ?_;refine gU (.agg (af qi).toArray) rfl (fun X hX => ez HQ.out.2 (Ad (HR.out X hX)) rfl rfl) ?_;refine b8 _ rfl (by rfl) 42 #[.agg (af qi).toArray] (fun X => by go_simp) (fun u X => u = .bool mb) ((Bn qi HQ.out.2 W1.drew).mono fun e X ⟨e1, e2⟩ => ⟨_, e1, a0.trans (e2.mono a0.size), by rw [ak.out]⟩) ?_;rintro u Y1 a2 rfl;refine ⟨fun X => Below w.heap.size w X, fun _ h => h, a2, ?_⟩; try simp only [pS]
    cases mb
    ·refine gT (.bool true) ?_
     refine gT (.bool true) ?_;refine au ?_;have HE := zH (a7.out true Y1 (a8.out a5) a2);clear a0 a2
     go_wp2_with fail
     first | exact HE.out | (go_ret; exact HE.out)
    ·refine gT (.bool false) ?_
     refine gT (.bool false) ?_;refine au ?_;have ad := zH a2; have ag := zH (al.out a5);clear a0 a2
     go_wp2_with fail
     go_roundw
     case rel => exact ⟨k + 1, by have := a1.out; omega, by go_num, ag.out, ad.out⟩
     case measure => simp [intOf]; have := a1.out; omega
   have ab : decide (0 < k) = true := (by simp; omega);obtain ⟨c, ap⟩ : ∃ c, c + 1 = k := ⟨k - 1, by omega⟩;have a6 : Hid (c + 1 = k ∧ (c < N ∧ N ≤ cap) ∧ k < 100000000) := zH ⟨ap, by have := a1.out; omega, by have := a1.out; have := HL.out; omega⟩;obtain ⟨pq, ai⟩ : ∃ q, l[c]? = some q := ⟨_, List.getElem?_eq_getElem (by have := HN.out; have := a6.out; omega)⟩;have am : Hid (∀ X, Below w.heap.size w X → X.rangeAt g (o + c * 45) (tcI pq)) := zH fun X hb => vn (iv HS.out hb) ai
   have aq : (l.getD (k - 1) (0, zeroI)).1 = pq.1 := (by rw [show k - 1 = c by omega, List.getD_eq_getElem?_getD, ai]; rfl);have a4 := aa.out;rw [aq, a9.out, decide_eq_false hz] at a4;obtain ⟨pn, pi⟩ := pq;have a4 : de l k = (decide (pn < qn) && mb) := (by simpa using a4);clear ap ai aq hz;by_cases hge : decide (qn ≤ pn) = true
   ·have a3 : de l k = false := by rw [a4]; have := of_decide_eq_true hge; rw [decide_eq_false (by omega)]; rfl
    refine gS ((.take 0 (.take 1 (.take 2 (.take 3 (.take 4 (.take 5 (.take 6 (.take 7 (.take 8 (.take 9 (.take 10 (.take 11 (.take 12 (.take 13 (.take 14 (.take 15 (.take 16 (.take 17 (.take 18 (.take 19 (.take 20 (.take 21 (.take 22 (.take 23 (.take 24 (.take 25 (.take 26 (.take 27 (.take 28 (.take 29 (.take 30 (.take 31 (.take 32 (.take 33 (.take 34 (.take 35 (.take 36 (.take 37 (.step 38 (.take 39 (.take 40 (.nil))))))))))))))))))))))))))))))))))))))))))) (fun X => Below w.heap.size w X) (a0) ?_;refine gT (.slice (some ⟨g, o, none⟩) N cap) ?_;refine gT (.int .i64 (k : Int)) ?_;refine gU (.pointer (some ⟨g, o + k * 45, none⟩)) rfl (fun X hX => dy rfl rfl rfl a1.out) ?_;refine gU (.pointer (some ⟨g, o + k * 45, none⟩)) rfl (fun X hX => ed rfl rfl) ?_;refine gU (.int .u16 (qn : Int)) rfl (fun X hX => az Tryz.underlying23 rfl rfl (eh (HR.out X hX))) ?_;refine gU (.bool false) rfl (fun X hX => ql (b := 1) hn1 rfl rfl rfl) ?_;refine gT (.bool false) ?_;refine gT (.slice (some ⟨g, o, none⟩) N cap) ?_;refine gT (.int .i64 (k : Int)) ?_;refine gU (.pointer (some ⟨g, o + k * 45, none⟩)) rfl (fun X hX => dy rfl rfl rfl a1.out) ?_;refine gU (.pointer (some ⟨g, o + k * 45, none⟩)) rfl (fun X hX => ed rfl rfl) ?_;refine gU (.int .u16 (qn : Int)) rfl (fun X hX => az Tryz.underlying23 rfl rfl (eh (HR.out X hX))) ?_;refine gU (.bool false) rfl (fun X hX => ub (b := 255) hn2 rfl rfl rfl) ?_;refine gT (.bool false) ?_;refine gT (.bool false) ?_;refine gT (.int .i64 (k : Int)) ?_;refine gU (.bool true) rfl (fun X hX => Co (b := 0) ab rfl rfl rfl) ?_;refine gT (.bool true) ?_;refine gT (.slice (some ⟨g, o, none⟩) N cap) ?_;refine gT (.int .i64 (k : Int)) ?_;refine gU (.int .i64 (c : Int)) rfl (fun X hX => Ej a6.out.1 a6.out.2.2 rfl rfl rfl) ?_;refine gU (.pointer (some ⟨g, o + c * 45, none⟩)) rfl (fun X hX => dy rfl rfl rfl a6.out.2.1) ?_;refine gU (.pointer (some ⟨g, o + c * 45, none⟩)) rfl (fun X hX => ed rfl rfl) ?_;refine gU (.int .u16 (pn : Int)) rfl (fun X hX => az Tryz.underlying23 rfl rfl (eh (am.out X hX))) ?_;refine gT (.slice (some ⟨g, o, none⟩) N cap) ?_;refine gT (.int .i64 (k : Int)) ?_;refine gU (.pointer (some ⟨g, o + k * 45, none⟩)) rfl (fun X hX => dy rfl rfl rfl a1.out) ?_;refine gU (.pointer (some ⟨g, o + k * 45, none⟩)) rfl (fun X hX => ed rfl rfl) ?_;refine gU (.int .u16 (qn : Int)) rfl (fun X hX => az Tryz.underlying23 rfl rfl (eh (HR.out X hX))) ?_;refine gU (.bool true) rfl (fun X hX => Eg hge rfl rfl rfl) ?_;refine gT (.bool true) ?_;refine gT (.bool true) ?_;refine gT (.bool true) ?_;refine gP ?_;refine gP ?_;refine gP ?_;refine gP ?_;refine gP ?_;refine jz _ rfl (by rfl) a0 ?_; try simp only [pS]
    refine gP ?_;refine gT (.bool true) ?_;refine au ?_;have HE := zH (a7.out true W1.drew (a8.out a3) a0);clear a0
    go_wp2_with fail
    first | exact HE.out | (go_ret; exact HE.out)
   rw [Bool.not_eq_true] at hge;have a5 : de l k = mb := (by rw [a4]; have := of_decide_eq_false hge; rw [decide_eq_true (by omega)]; rfl);refine gS ((.take 0 (.take 1 (.take 2 (.take 3 (.take 4 (.take 5 (.take 6 (.take 7 (.take 8 (.take 9 (.take 10 (.take 11 (.take 12 (.take 13 (.take 14 (.take 15 (.take 16 (.take 17 (.take 18 (.take 19 (.take 20 (.take 21 (.take 22 (.take 23 (.take 24 (.take 25 (.take 26 (.take 27 (.take 28 (.take 29 (.take 30 (.take 31 (.take 32 (.take 33 (.take 34 (.take 35 (.take 36 (.take 37 (.step 38 (.take 39 (.take 40 (.nil))))))))))))))))))))))))))))))))))))))))))) (fun X => Below w.heap.size w X) (a0) ?_;refine gT (.slice (some ⟨g, o, none⟩) N cap) ?_;refine gT (.int .i64 (k : Int)) ?_;refine gU (.pointer (some ⟨g, o + k * 45, none⟩)) rfl (fun X hX => dy rfl rfl rfl a1.out) ?_;refine gU (.pointer (some ⟨g, o + k * 45, none⟩)) rfl (fun X hX => ed rfl rfl) ?_;refine gU (.int .u16 (qn : Int)) rfl (fun X hX => az Tryz.underlying23 rfl rfl (eh (HR.out X hX))) ?_;refine gU (.bool false) rfl (fun X hX => ql (b := 1) hn1 rfl rfl rfl) ?_;refine gT (.bool false) ?_;refine gT (.slice (some ⟨g, o, none⟩) N cap) ?_;refine gT (.int .i64 (k : Int)) ?_;refine gU (.pointer (some ⟨g, o + k * 45, none⟩)) rfl (fun X hX => dy rfl rfl rfl a1.out) ?_;refine gU (.pointer (some ⟨g, o + k * 45, none⟩)) rfl (fun X hX => ed rfl rfl) ?_;refine gU (.int .u16 (qn : Int)) rfl (fun X hX => az Tryz.underlying23 rfl rfl (eh (HR.out X hX))) ?_;refine gU (.bool false) rfl (fun X hX => ub (b := 255) hn2 rfl rfl rfl) ?_;refine gT (.bool false) ?_;refine gT (.bool false) ?_;refine gT (.int .i64 (k : Int)) ?_;refine gU (.bool true) rfl (fun X hX => Co (b := 0) ab rfl rfl rfl) ?_;refine gT (.bool true) ?_;refine gT (.slice (some ⟨g, o, none⟩) N cap) ?_;refine gT (.int .i64 (k : Int)) ?_;refine gU (.int .i64 (c : Int)) rfl (fun X hX => Ej a6.out.1 a6.out.2.2 rfl rfl rfl) ?_;refine gU (.pointer (some ⟨g, o + c * 45, none⟩)) rfl (fun X hX => dy rfl rfl rfl a6.out.2.1) ?_;refine gU (.pointer (some ⟨g, o + c * 45, none⟩)) rfl (fun X hX => ed rfl rfl) ?_;refine gU (.int .u16 (pn : Int)) rfl (fun X hX => az Tryz.underlying23 rfl rfl (eh (am.out X hX))) ?_;refine gT (.slice (some ⟨g, o, none⟩) N cap) ?_;refine gT (.int .i64 (k : Int)) ?_;refine gU (.pointer (some ⟨g, o + k * 45, none⟩)) rfl (fun X hX => dy rfl rfl rfl a1.out) ?_;refine gU (.pointer (some ⟨g, o + k * 45, none⟩)) rfl (fun X hX => ed rfl rfl) ?_;refine gU (.int .u16 (qn : Int)) rfl (fun X hX => az Tryz.underlying23 rfl rfl (eh (HR.out X hX))) ?_;refine gU (.bool false) rfl (fun X hX => Eg hge rfl rfl rfl) ?_;refine gT (.bool false) ?_;refine gT (.bool false) ?_;refine gT (.bool false) ?_;refine gT (.slice (some ⟨g, o, none⟩) N cap) ?_;refine gT (.int .i64 (k : Int)) ?_;refine gU (.pointer (some ⟨g, o + k * 45, none⟩)) rfl (fun X hX => dy rfl rfl rfl a1.out) ?_;refine gU (.pointer (some ⟨g, o + k * 45 + 1, none⟩)) rfl (fun X hX => zd rfl rfl) ?_;refine gU (.agg (af qi).toArray) rfl (fun X hX => ez HQ.out.2 (Ad (HR.out X hX)) rfl rfl) ?_;refine b8 _ rfl (by rfl) 42 #[.agg (af qi).toArray] (fun X => by go_simp) (fun u X => u = .bool mb) ((Bn qi HQ.out.2 W1.drew).mono fun e X ⟨e1, e2⟩ => ⟨_, e1, a0.trans (e2.mono a0.size), by rw [ak.out]⟩) ?_;rintro u Y1 a2 rfl;refine ⟨fun X => Below w.heap.size w X, fun _ h => h, a2, ?_⟩; try simp only [pS]
   cases mb
   ·refine gT (.bool true) ?_
    refine gT (.bool true) ?_;refine au ?_;have HE := zH (a7.out true Y1 (a8.out a5) a2);clear a0 a2
    go_wp2_with fail
    first | exact HE.out | (go_ret; exact HE.out)
   ·refine gT (.bool false) ?_
    refine gT (.bool false) ?_;refine au ?_;have ad := zH a2; have ag := zH (al.out a5);clear a0 a2
    go_wp2_with fail
    go_roundw
    case rel => exact ⟨k + 1, by have := a1.out; omega, by go_num, ag.out, ad.out⟩
    case measure => simp [intOf]; have := a1.out; omega
  ·obtain rfl : N = k := by omega
   have HE := zH (a7.out false wr (by rw [G1 (fun j hj => HG.out j (by have := HN.out; omega))]; rfl) ae.out);clear hlt hk ax
   go_wp2_with fail
   first | exact HE.out | (go_ret; exact HE.out)
end Go.Proofs.YtjgjohdeeeoeoaaGreatDoor
namespace Go.Proofs.YtjgjohdeeeoeoaaGreatDoor
open Go.RowKit
variable {bl : List Bs} {hv : List Ino} {h mids : List Pt} {root : Pt}
def lfB (hv : List Ino) (off : Nat) : Bool := decide (db hv off ≠ zeros4)
def lfN (hv : List Ino) : Nat := ((List.range 64).filter (lfB hv)).length
def gpB (hv : List Ino) (g : Nat) : Bool := (List.range 8).any fun k => lfB hv (8 * g + k)
def gpN (hv : List Ino) : Nat := ((List.range 8).filter (gpB hv)).length
def vy (hv : List Ino) : Nat := if gpN hv = 0 then 0 else lfN hv + gpN hv + 1
theorem Fa {hv : List Ino} {bl : List Bs} : ∀ (h : List Pt) (i : Nat), (∀ j q, h[j]? = some q → IsL bl (i + j) q (db hv (i + j))) → (nz i h).length = ((List.range' i h.length).filter (lfB hv)).length
 | [], _, _ => rfl
 | q :: h, i, hl => by
  have hq := hl 0 q rfl;rw [Nat.add_zero] at hq
  have ih := Fa (hv := hv) (bl := bl) h (i + 1) (fun j p hj => by
   have := hl (j + 1) p (by simpa using hj);rw [show i + (j + 1) = i + 1 + j by omega] at this
   exact this)
  rw [List.length_cons, List.range'_succ];simp only [nz];by_cases hz : q = zeroP
  ·rw [hz, br, if_pos rfl, ih, List.filter_cons_of_neg]
   unfold lfB;simp [hq.hole.1 hz]
  ·rw [dn hz, if_neg (by decide), List.length_cons, ih, List.filter_cons_of_pos, List.length_cons]
   unfold lfB;have : db hv i ≠ zeros4 := fun e => hz (hq.hole.2 e)
   simp [this]
theorem IsTab.cnt (ht : IsTab bl root hv h mids) : Ed h 8 = gpN hv := by
 unfold Ed gpN;congr 1;apply List.filter_congr;intro g hg;have hg := List.mem_range.1 hg
 have e : grp h g ≠ holes ↔ gpB hv g = true := by
  have a1 : (grp h g).length = 8 := (by unfold grp; rw [List.length_take, List.length_drop, ht.t.1]; omega);constructor
  ·intro hne
   unfold gpB;rw [List.any_eq_true];apply Classical.byContradiction;intro hno;apply hne;unfold holes;rw [List.eq_replicate_iff];refine ⟨a1, fun q hq => ?_⟩;obtain ⟨k, hk⟩ := List.getElem?_of_mem hq;have a0 : k < 8 := (by have := (List.getElem?_eq_some_iff.1 hk).1; omega);rw [Lb a0] at hk;have hl := ht.l _ _ hk;apply Classical.byContradiction;intro hq0;refine hno ⟨k, List.mem_range.2 a0, ?_⟩;unfold lfB;have : db hv (8 * g + k) ≠ zeros4 := fun e => hq0 (hl.hole.2 e)
   simp [this]
  ·intro hb e
   unfold gpB at hb;rw [List.any_eq_true] at hb;obtain ⟨k, hk, hb⟩ := hb;have a0 := List.mem_range.1 hk;obtain ⟨q, hq, hl⟩ := ht.leaf (show 8 * g + k < 64 by omega);have h1 := Lb (h := h) (i := g) a0;rw [e, hq] at h1;have h2 : q = zeroP := List.eq_of_mem_replicate (List.mem_of_getElem? (show holes[k]? = some q from h1));unfold lfB at hb;simp [hl.hole.1 h2] at hb
 by_cases hc : gpB hv g = true
 ·rw [hc]; simpa using e.2 hc
 ·have : ¬ grp h g ≠ holes := fun h => hc (e.1 h)
  rw [Bool.not_eq_true] at hc;rw [hc];simpa using this
theorem IsTab.blocks (ht : IsTab bl root hv h mids) : (dq root mids ++ (nz 0 h).map (·.2)).length = vy hv := by
 have h1 := Pc ht.t;rw [ht.cnt] at h1;have h2 := Fa (hv := hv) (bl := bl) h 0 (fun j q hq => by rw [Nat.zero_add]; exact ht.l j q hq);rw [ht.t.1, ← List.range_eq_range'] at h2;rw [List.length_append, List.length_map, h1, h2];unfold vy lfN;by_cases e : gpN hv = 0
 ·rw [if_pos e, if_pos e, Nat.zero_add]
  rw [List.length_eq_zero_iff, List.filter_eq_nil_iff];intro off a0;have a0 := List.mem_range.1 a0;unfold gpN at e;rw [List.length_eq_zero_iff, List.filter_eq_nil_iff] at e;have h3 := e (off / 8) (List.mem_range.2 (by omega));intro hb;apply h3;unfold gpB;rw [List.any_eq_true];exact ⟨off % 8, List.mem_range.2 (by omega), by rw [show 8 * (off / 8) + off % 8 = off by omega]; exact hb⟩
 ·rw [if_neg e, if_neg e]
  omega
def tI : Ino := { zeroI with kind := 1, links := 1 }
def tl2 : List Itm := [(1, tI), (5, tI)]
def tF : List Ino := [zeroI, tI, zeroI, zeroI]
def tB : Bs := i9 tF
def tq0 : Pt := iu (fd 0) 1 tB
def tq1 : Pt := iu (fd 1) 2 tB
def tn1 : List Pt := (holes.set 0 tq0).set 1 tq1
def tB1 : Bs := co tn1
def tq2 : Pt := iu (km 1 0 0) 3 tB1
def tn2 : List Pt := holes.set 0 tq2
def tB2 : Bs := co tn2
def tqR : Pt := iu (km 2 0 0) 4 tB2
def tS : Sh := ⟨[tB, tB, tB1, tB2], [], [tq0, tq1, tq2, tqR], [], -1, []⟩
theorem kf : tI.OK := ⟨by simp [tI], by simp [tI], by simp [tI, zeroI], ak⟩
theorem tw1 : tsR sh0 zeroP tl2 = ⟨tqR, 0, tS⟩ := by kernel_rfl
theorem tw2 : ka tl2 = true := by kernel_rfl
theorem Dt : ∀ x ∈ tl2, Itm.OK x := fun x hx => by
 simp only [tl2, List.mem_cons, List.not_mem_nil, or_false] at hx;rcases hx with rfl | rfl
 ·exact ⟨by simp, kf⟩
 ·exact ⟨by simp, kf⟩
def tV : List Ino := jj (List.replicate 256 zeroI) tl2
theorem tw3 : ∃ h mids, IsTab tS.blocks tqR tV h mids := by
 have := (Lz (s := sh0) (l := tl2) (Gb sh0.blocks) Dt tw2 rfl rfl (by simp [sh0])).tab;rw [tw1] at this;exact this
theorem tw4 : tV[5]? = some tI := by kernel_rfl
theorem tw5 : tV[2]? = some zeroI := by kernel_rfl
theorem tw6 : lh tV = tl2 := by kernel_rfl
theorem tw7 : vy tV = 4 := by kernel_rfl
theorem lx : tqR.OK := sg (sx (by omega) (by omega) (by omega)) (by omega) _
end Go.Proofs.YtjgjohdeeeoeoaaGreatDoor
namespace Go.Proofs.YtjgjohdeeeoeoaaGreatDoor
open Go.RowKit
attribute [local go_sem] Oper.semAt_some
variable {a c z : Nat} {t : TypeId}
def Jr (w : World) (g : Nat) (hv : List Ino) : Prop := g < w.heap.size ∧ ∀ i n, hv[i]? = some n → w.rangeAt g (i * 44) (af n)
def nzB (hv : List Ino) (i : Nat) : Bool := !eqI (hv.getD i zeroI) zeroI
def Cc (hv : List Ino) (off i : Nat) : Bool := (List.range i).any fun j => nzB hv (4 * off + j)
theorem Mb (hv : List Ino) (off i : Nat) : Cc hv off (i + 1) = (Cc hv off i || nzB hv (4 * off + i)) := by simp [Cc, List.range_succ]
theorem Y8 {hv : List Ino} (hl : hv.length = 256) {off : Nat} (ho : off < 64) : lfB hv off = Cc hv off 4 := by
 unfold lfB;have h4 : (db hv off).length = 4 := by unfold db; rw [List.length_take, List.length_drop]; omega
 have hg : ∀ j, j < 4 → (db hv off)[j]? = some (hv.getD (4 * off + j) zeroI) := fun j hj => by
  rw [uf hj, List.getD_eq_getElem?_getD, List.getElem?_eq_getElem (by omega)];rfl
 rw [Bool.eq_iff_iff];simp only [decide_eq_true_eq, Cc, List.any_eq_true, List.mem_range, nzB, Bool.not_eq_true'];constructor
 ·intro h
  rcases Classical.em (∃ j, j < 4 ∧ eqI (hv.getD (4 * off + j) zeroI) zeroI = false) with hx | hx
  ·exact hx
  ·refine absurd ?_ h
   refine List.ext_getElem? fun j => ?_
   by_cases hj : j < 4
   ·rw [hg j hj]
    have : eqI (hv.getD (4 * off + j) zeroI) zeroI = true := by
     cases e : eqI (hv.getD (4 * off + j) zeroI) zeroI
     ·exact absurd ⟨j, hj, e⟩ hx
     ·rfl
    rw [ir.1 this]
    match j, hj with
    | 0, _ | 1, _ | 2, _ | 3, _ => rfl
   ·rw [List.getElem?_eq_none (by omega), List.getElem?_eq_none (by simp [zeros4]; omega)]
 ·rintro ⟨j, hj, e⟩ h
  have h1 := hg j hj;rw [h] at h1
  have h2 : zeros4[j]? = some zeroI := by
   match j, hj with
   | 0, _ | 1, _ | 2, _ | 3, _ => rfl
  rw [h2] at h1;injection h1 with h1
  rw [← h1] at e;have : eqI zeroI zeroI = true := ir.2 rfl;rw [this] at e;cases e
def lfC (hv : List Ino) (m : Nat) : Nat := ((List.range m).filter (lfB hv)).length
def gpC (hv : List Ino) (m : Nat) : Nat := ((List.range m).filter (gpB hv)).length
def gpK (hv : List Ino) (g k : Nat) : Bool := (List.range k).any fun j => lfB hv (8 * g + j)
theorem Tn (hv : List Ino) (m : Nat) : lfC hv (m + 1) = lfC hv m + (if lfB hv m = true then 1 else 0) := by
 unfold lfC;rw [List.range_succ, List.filter_append, List.length_append];cases h : lfB hv m <;> simp [h]
theorem Sq (hv : List Ino) (m : Nat) : gpC hv (m + 1) = gpC hv m + (if gpB hv m = true then 1 else 0) := by
 unfold gpC;rw [List.range_succ, List.filter_append, List.length_append];cases h : gpB hv m <;> simp [h]
theorem Sr (hv : List Ino) (g k : Nat) : gpK hv g (k + 1) = (gpK hv g k || lfB hv (8 * g + k)) := by simp [gpK, List.range_succ]
theorem Tm (hv : List Ino) (m : Nat) : lfC hv m ≤ m := Nat.le_trans (List.length_filter_le _ _) (by simp)
theorem So (hv : List Ino) (m : Nat) : gpC hv m ≤ m := Nat.le_trans (List.length_filter_le _ _) (by simp)
theorem Wl (hv : List Ino) : vy hv = if gpC hv 8 = 0 then 0 else lfC hv 64 + gpC hv 8 + 1 := rfl
section
variable {ρ : Operand → Value} {o : Oper} {x y : Operand} {w : World}
theorem yj {g n cap k : Nat} (ho : o.op = .indexAddr 51 x y) (hx : ρ x = .slice (some ⟨g, 0, none⟩) n cap) (hy : ρ y = .int .i64 (k : Int)) (hk : k < n ∧ n ≤ cap) :
  (execOp ρ o).run Tryz.prog w = .ok (.value (.pointer (some ⟨g, k * 44, none⟩))) w := by
 have h1 : ¬ n ≤ k := by omega
 unfold execOp;simp only [ho];go_simp
theorem Km (hz : c * a = z) (hs : z < 100000000) (ho : o.op = .binOp .mul 3 x y t) (hx : ρ x = .int .i64 (c : Int)) (hy : ρ y = .int .i64 (a : Int)) : (execOp ρ o).run Tryz.prog w = .ok (.value (.int .i64 (z : Int))) w := by
 have e : (c : Int) * (a : Int) = (z : Int) := by rw [← hz]; push_cast; rfl
 have hw : IntKind.i64.wrap (z : Int) = (z : Int) := IntWalk.i64_in _ (by omega);unfold execOp;simp only [ho];go_simp
theorem Ka (hz : c + a = z) (hs : z < 100000000) (ho : o.op = .binOp .add 3 x y t) (hx : ρ x = .int .i64 (c : Int)) (hy : ρ y = .int .i64 (a : Int)) : (execOp ρ o).run Tryz.prog w = .ok (.value (.int .i64 (z : Int))) w := by
 have e : (c : Int) + (a : Int) = (z : Int) := by rw [← hz]; push_cast; rfl
 have hw : IntKind.i64.wrap (z : Int) = (z : Int) := IntWalk.i64_in _ (by omega);unfold execOp;simp only [ho];go_simp
theorem Xn {p q : Ino} {z : Bool} (hz : (!eqI p q) = z) (hp : p.OK) (hq : q.OK) (ho : o.op = .binOp .neq 62 x y 62) (hx : ρ x = .agg (af p).toArray) (hy : ρ y = .agg (af q).toArray) : (execOp ρ o).run Tryz.prog w = .ok (.value (.bool z)) w := hz ▸ Xo hp hq ho hx hy
end
end Go.Proofs.YtjgjohdeeeoeoaaGreatDoor
