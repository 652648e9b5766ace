/- DirBytes: the walk. -/
import Derived.Test.YtlkhnmhhcagghaaEs
import Derived.Test.YtlkhnmhhcagghaaEj
namespace Go.Proofs.Ytlkhnmhhcagghaa
open Go.RowKit

attribute [local go_sem] Oper.semAt_some

theorem ex_eqSS {ρ : Operand → Value} {o : Oper} {x y : Operand} {w : World} {a : ByteArray} {k : TypeId} (ho : o.op = .binOp .eql 9 x y k) (hx : ρ x = .string a) (hy : ρ y = .string a) : (execOp ρ o).run Try.prog w = .ok (.value (.bool true)) w := by
  unfold execOp
  simp only [ho]
  simp [go_sem, hx, hy]
theorem rtL_len : ∀ (f : Nat) (l : List (BitVec 8)) (acc L : List Ent), rtL f l acc = some L → L.length ≤ acc.length + l.length
  | 0, _, _, _, h => by simp [rtL] at h
  | f + 1, [], acc, L, h => by simp [rtL] at h; rw [h]; simp
  | f + 1, x :: r, acc, L, h => by
    unfold rtL at h
    split at h
    · cases h
    · have := rtL_len f _ _ _ h
      rw [List.length_append, List.length_drop] at this
      simp only [List.length_cons, List.length_nil] at this ⊢
      omega
theorem takeL_len (b : List (BitVec 8)) : ((takeL b).getD []).length ≤ b.length := by
  rw [takeL_rt]
  cases h : rtL (b.length + 1) b [] with
  | none => simp
  | some L =>
    have := rtL_len _ _ _ _ h
    rw [Option.bind_some]
    split
    · simpa using this
    · simp
theorem greatE_no {l : List Ent} (h : greatE l = false) : l.length ≤ 100 ∧ ∀ e ∈ l, e.n.length ≤ 300 := by
  unfold greatE at h
  rw [Bool.or_eq_false_iff] at h
  refine ⟨by have := of_decide_eq_false h.1; omega, fun e he => ?_⟩
  have := List.any_eq_false.1 h.2 e he
  have h2 : ¬ 300 < e.n.length := by simpa using this
  omega
set_option maxRecDepth 100000 in
set_option maxHeartbeats 8000000 in
theorem bytes_walk (l : List Ent) (sp : Option Addr) (cap : Nat) (hc : l.length ≤ cap) (b : List (BitVec 8)) (sq : Option Addr) (capq : Nat) (hcq : b.length ≤ capq) (hzq : sq = none → capq = 0) (hok : ∀ a ∈ l, a.OK) (w : World) (hs : SrcE w sp l) (hS : SrcA w sq b) :
    Calls Try.prog 3 #[.slice sp l.length cap, .slice sq b.length capq] w fun e w' => e = .returned (.bool true) ∧ Below w.heap.size w w' := by
  have HGR := Lib.hid (enGreat_any l sp cap hc w hs)
  obtain ⟨N, hN⟩ : ∃ N, l.length = N := ⟨_, rfl⟩
  obtain ⟨M, hM⟩ : ∃ M, b.length = M := ⟨_, rfl⟩
  rw [hN] at HGR
  have HC := Lib.hid hc; have HCQ := Lib.hid hcq; have HZQ := Lib.hid hzq; have HOK := Lib.hid hok; have HS := Lib.hid hs; have HSB := Lib.hid hS
  rw [hN, hM]
  have HN := Lib.hid hN; have HM := Lib.hid hM
  generalize hPost : (fun (e : Ending) (w' : World) => e = .returned (.bool true) ∧ Below w.heap.size w w') = Post
  have HP : Hid (∀ w', Below w.heap.size w w' → Post (.returned (.bool true)) w') := Lib.hid fun w' h => by rw [← hPost]; exact ⟨rfl, h⟩
  clear hN hM hc hcq hzq hok hs hS hPost
  go_enter Try.func3, Try.ntmps3
  go_wp2_with fail
  refine HGR.out.mono ?_
  rintro x W1 ⟨rfl, hb1⟩
  have HB1 := Lib.hid hb1
  clear hb1
  cases hgr : greatE l with
  | true =>
    clear hgr HGR
    go_wp2_with fail
    refine (enWakes_any W1).mono ?_
    rintro x W3 ⟨rfl, hb3⟩
    have HQ := Lib.hid (HP.out W3 (HB1.out.trans (hb3.mono HB1.out.size)))
    clear hb3
    go_wp2_with fail
    first | exact HQ.out | (go_ret; exact HQ.out)
  | false =>
    have HNO := Lib.hid (greatE_no hgr)
    clear hgr HGR
    by_cases hM4 : 4000 < M
    · have z1 : (4000 : Int) < (M : Int) := by omega
      clear hM4
      go_wp2_with fail
      refine (enWakes_any W1).mono ?_
      rintro x W3 ⟨rfl, hb3⟩
      have HQ := Lib.hid (HP.out W3 (HB1.out.trans (hb3.mono HB1.out.size)))
      clear hb3
      go_wp2_with fail
      first | exact HQ.out | (go_ret; exact HQ.out)
    · have z1 : ¬ (4000 : Int) < (M : Int) := by omega
      have HM4 : Hid (M ≤ 4000) := Lib.hid (by omega)
      clear hM4
      go_wp2_with fail
      have h2 := enOf_any l sp cap HC.out (by have := HNO.out.1; omega) W1 (HS.out.grown HB1.out)
      rw [HN.out] at h2
      refine h2.mono ?_
      rintro x W2 ⟨v2, rfl, ho2, hb2⟩
      obtain ⟨sp2, cap2, e2, hc2, -, hs2, -, -⟩ := ho2.form
      rw [HN.out] at e2
      subst e2
      have HB2 : Hid (Below w.heap.size w W2) := Lib.hid (HB1.out.trans (hb2.mono HB1.out.size))
      have h3 := enPut_any l sp2 cap2 hc2 (by have := HNO.out.1; omega) (fun e he => ⟨by have := HNO.out.2 e he; omega, HOK.out e he⟩) W2 hs2
      rw [HN.out] at h3
      obtain ⟨c1, hc1⟩ : ∃ c, (if areB l = true then 0 else 5) = c := ⟨_, rfl⟩
      obtain ⟨X, hX⟩ : ∃ X, (if areB l = true then rowsB l else []) = X := ⟨_, rfl⟩
      obtain ⟨NX, hNX⟩ : ∃ X', X.length = X' := ⟨_, rfl⟩
      rw [hc1, hX] at h3
      have HC1 := Lib.hid hc1; have HX := Lib.hid hX; have HNX := Lib.hid hNX
      have H3 := Lib.hid h3
      clear h2 ho2 hb2 hc2 hs2 h3 hc1 hX hNX
      go_wp2_with fail
      refine H3.out.mono ?_
      rintro x W3 ⟨v3, rfl, ho3, hb3⟩
      obtain ⟨sp3, cap3, e3, -, -, hs3, -, -⟩ := ho3.form
      rw [HNX.out] at e3
      subst e3
      have HB3 : Hid (Below w.heap.size w W3) := Lib.hid (HB2.out.trans (hb3.mono HB2.out.size))
      have HS3 := Lib.hid hs3
      clear H3 ho3 hb3 hs3
      go_wp2_with fail
      have h4 := renPut_any l sp cap HC.out (by have := HNO.out.1; omega) (fun e he => ⟨by have := HNO.out.2 e he; omega, HOK.out e he⟩) W3 (HS.out.grown HB3.out)
      rw [HN.out, HC1.out, HX.out] at h4
      refine h4.mono ?_
      rintro x W4 ⟨v4, rfl, ho4, hb4⟩
      obtain ⟨sp4, cap4, e4, -, -, hs4, -, -⟩ := ho4.form
      rw [HNX.out] at e4
      subst e4
      have HB4 : Hid (Below w.heap.size w W4) := Lib.hid (HB3.out.trans (hb4.mono HB3.out.size))
      have HS34 := Lib.hid (HS3.out.grown hb4); have HS4 := Lib.hid hs4
      clear h4 ho4 hb4 hs4 HS3
      obtain ⟨c2, hc2⟩ : ∃ c, (if takeL b = none then 5 else 0) = c := ⟨_, rfl⟩
      obtain ⟨T, hT⟩ : ∃ T, (takeL b).getD [] = T := ⟨_, rfl⟩
      obtain ⟨NT, hNT⟩ : ∃ X', T.length = X' := ⟨_, rfl⟩
      have hlt := takeL_len b
      rw [hT, HM.out] at hlt
      have HC2 := Lib.hid hc2; have HT := Lib.hid hT; have HNT := Lib.hid hNT; have HLT := Lib.hid hlt
      clear hc2 hT hNT hlt
      go_wp2_with fail
      have h5 := enTake_any b sq capq (by have := HM.out; have := HM4.out; omega) HZQ.out HCQ.out W4 (HSB.out.grown HB4.out)
      rw [HM.out, HC2.out, HT.out] at h5
      refine h5.mono ?_
      rintro x W5 ⟨v5, rfl, ho5, hb5⟩
      obtain ⟨sp5, cap5, e5, hc5, -, hs5, -, -⟩ := ho5.form
      rw [HNT.out] at e5
      subst e5
      have HB5 : Hid (Below w.heap.size w W5) := Lib.hid (HB4.out.trans (hb5.mono HB4.out.size))
      have HS35 := Lib.hid (HS34.out.grown hb5); have HS45 := Lib.hid (HS4.out.grown hb5); have HS5 := Lib.hid hs5; have HC5 := Lib.hid hc5
      clear h5 ho5 hb5 hs5 hc5 HS34 HS4
      go_wp2_with fail
      have h6 := renTake_any b sq capq (by have := HM.out; have := HM4.out; omega) HCQ.out W5 (HSB.out.grown HB5.out)
      rw [HM.out, HC2.out, HT.out] at h6
      refine h6.mono ?_
      rintro x W6 ⟨v6, rfl, ho6, hb6⟩
      obtain ⟨sp6, cap6, e6, hc6, -, hs6, -, -⟩ := ho6.form
      rw [HNT.out] at e6
      subst e6
      have HB6 : Hid (Below w.heap.size w W6) := Lib.hid (HB5.out.trans (hb6.mono HB5.out.size))
      have HS36 := Lib.hid (HS35.out.grown hb6); have HS46 := Lib.hid (HS45.out.grown hb6)
      have hsm := enSame_any T sp5 sp6 cap5 cap6 HC5.out hc6 (by have := HLT.out; have := HM4.out; omega) W6 (HS5.out.grown hb6) hs6
      rw [HNT.out] at hsm
      have HSM := Lib.hid hsm
      clear h6 ho6 hb6 hs6 hc6 hsm HS35 HS45 HS5
      have y1 : ((c1 : Int) == (c1 : Int)) = true := beq_self_eq_true _
      have y2 : ((c2 : Int) == (c2 : Int)) = true := beq_self_eq_true _
      go_wp2_with (first | (refine e_valG (by rfl) (ex_strB HS36.out HNX.out rfl rfl) ?_) | (refine e_valG (by rfl) (ex_strB HS46.out HNX.out rfl rfl) ?_) | (refine e_valG (by rfl) (ex_eqSS rfl rfl rfl) ?_) | fail)
      refine HSM.out.mono ?_
      rintro x W7 ⟨rfl, hb7⟩
      have HB7 : Hid (Below w.heap.size w W7) := Lib.hid (HB6.out.trans (hb7.mono HB6.out.size))
      clear hb7
      go_wp2_with fail
      refine (enWakes_any W7).mono ?_
      rintro x W8 ⟨rfl, hb8⟩
      have HQ := Lib.hid (HP.out W8 (HB7.out.trans (hb8.mono HB7.out.size)))
      clear hb8
      go_wp2_with fail
      first | exact HQ.out | (go_ret; exact HQ.out)
end Go.Proofs.Ytlkhnmhhcagghaa
