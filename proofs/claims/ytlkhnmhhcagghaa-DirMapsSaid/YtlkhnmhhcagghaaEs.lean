/- DirBytes: the document's Take. -/
import Derived.Test.YtlkhnmhhcagghaaEr
namespace Go.Proofs.Ytlkhnmhhcagghaa
open Go.RowKit

attribute [local go_sem] Oper.semAt_some

section
variable {ρ : Operand → Value} {o : Oper} {x y z : Operand} {w : World}
theorem ex_iaB {g p n cap k : Nat} (ho : o.op = .indexAddr 23 x y) (hx : ρ x = .slice (some ⟨g, p, none⟩) n cap) (hy : ρ y = .int .i64 (k : Int)) (hk : k < n ∧ n ≤ cap) :
    (execOp ρ o).run Try.prog w = .ok (.value (.pointer (some ⟨g, p + k, none⟩))) w := by
  have h1 : ¬ n ≤ k := by omega
  unfold execOp
  simp only [ho]
  go_simp
theorem ex_ldV8 {ad : Addr} {v : BitVec 8} (ho : o.op = .load 5 x) (hx : ρ x = .pointer (some ad)) (hc : w.cell? ad = some (V8 v)) : (execOp ρ o).run Try.prog w = .ok (.value (V8 v)) w := by
  unfold execOp
  simp only [ho]
  go_simp
theorem ex_cv16 {v : BitVec 8} (ho : o.op = .convert 5 39 x) (hx : ρ x = V8 v) : (execOp ρ o).run Try.prog w = .ok (.value (.int .u16 (N8 v))) w := by
  have h1 := n8_lt v
  have h2 := n8_nonneg v
  have hw : IntKind.u16.wrap (N8 v) = N8 v := by rw [IntKind.wrap_u16]; omega
  unfold execOp
  simp only [ho]
  go_simp
theorem ex_mul16 {v : BitVec 8} {k : TypeId} (ho : o.op = .binOp .mul 39 x y k) (hx : ρ x = .int .u16 256) (hy : ρ y = .int .u16 (N8 v)) : (execOp ρ o).run Try.prog w = .ok (.value (.int .u16 (256 * N8 v))) w := by
  have h1 := n8_lt v
  have h2 := n8_nonneg v
  have hw : IntKind.u16.wrap (256 * N8 v) = 256 * N8 v := by rw [IntKind.wrap_u16]; omega
  unfold execOp
  simp only [ho]
  simp only [hx, hy, binOp]
  simp [hw, go_sem]
theorem ex_add16 {a b c : Int} {k : TypeId} (ho : o.op = .binOp .add 39 x y k) (hx : ρ x = .int .u16 a) (hy : ρ y = .int .u16 b) (h : IntKind.u16.wrap (a + b) = c) : (execOp ρ o).run Try.prog w = .ok (.value (.int .u16 c)) w := by
  unfold execOp
  simp only [ho]
  simp only [hx, hy, binOp]
  simp [h, go_sem]
theorem ex_bldR {e : Ent} {s : ByteArray} {kv : BitVec 8} (hs : s = str e.n) (hk : N8 kv = (e.k : Int)) (ho : o.op = .build 41 #[(0, x), (1, y), (2, z)]) (hx : ρ x = .string s) (hy : ρ y = .int .u16 (e.u : Int)) (hz : ρ z = V8 kv) : (execOp ρ o).run Try.prog w = .ok (.value (.agg (ecells e).toArray)) w := by
  subst hs
  have hz' : ρ z = .int .u8 (e.k : Int) := by rw [hz, ← hk]
  have hr : (Instr.build 41 #[(0, .string (str e.n)), (1, .int .u16 (e.u : Int)), (2, .int .u8 (e.k : Int))]).run Try.prog w = .ok (.agg (ecells e).toArray) w := run_build w 41 _ _ (by kernel_rfl)
  unfold execOp
  simp only [ho]
  rw [show (Array.map (fun x : Nat × Operand => (x.1, ρ x.2)) #[(0, x), (1, y), (2, z)]) = #[(0, .string (str e.n)), (1, .int .u16 (e.u : Int)), (2, .int .u8 (e.k : Int))] by simp [hx, hy, hz']]
  simp only [Sem.run_bind, hr, Result.andThen_ok, Sem.run_pure]
theorem ex_midB {g p N cap l h n : Nat} (hb : l + n = h ∧ h ≤ N ∧ N ≤ cap ∧ l < cap) (ho : o.op = .slice 23 x (some y) (some z) none) (hx : ρ x = .slice (some ⟨g, p, none⟩) N cap) (hy : ρ y = .int .i64 (l : Int)) (hz : ρ z = .int .i64 (h : Int)) : (execOp ρ o).run Try.prog w = .ok (.value (.slice (some ⟨g, p + l, none⟩) n (cap - l))) w := by
  obtain ⟨rfl, h1, h2, h3⟩ := hb
  have hr : (Instr.sliceAt 23 (.slice (some ⟨g, p, none⟩) N cap) (some (.int .i64 (l : Int))) (some (.int .i64 ((l + n : Nat) : Int))) none).run Try.prog w = .ok (.slice (some ⟨g, p + l, none⟩) n (cap - l)) w := by
    rw [run_sliceAt_slice w 23 _ _ _ _ elemB, run_slice_lh w 23 _ N cap elemB .i64 .i64 (l : Int) ((l + n : Nat) : Int) (by omega) (by omega) (by omega), elemB', sizeOfB]
    simp only [Result.andThen, sliced, Int.toNat_natCast]
    rw [if_neg (by omega)]
    simp only [Option.map_some, Nat.mul_one, Addr.add_mid, Nat.add_sub_cancel_left]
  rw [Int.natCast_add] at hr
  unfold execOp
  simp only [ho]
  simp [hx, hy, hz, hr, Result.andThen]
end
def entOf (x : BitVec 8) (r : List (BitVec 8)) : Ent := ⟨un (r.take x.toNat), val ((r.drop x.toNat).take 2), val ((r.drop (x.toNat + 2)).take 1)⟩
def rtL : Nat → List (BitVec 8) → List Ent → Option (List Ent)
  | 0, _, _ => none
  | _ + 1, [], acc => some acc
  | f + 1, x :: r, acc => if r.length < x.toNat + 3 then none else rtL f (r.drop (x.toNat + 3)) (acc ++ [entOf x r])
/-- Just then the program's reading is not well. -/
theorem tkE_iff (x : BitVec 8) (r : List (BitVec 8)) : (tkE (x :: r) 0).2.2 = 0 ↔ ¬ r.length < x.toNat + 3 := by
  constructor
  · intro h
    obtain ⟨x', r', e, h1, -⟩ := tkE_ok h
    injection e with e1 e2
    subst e1 e2
    omega
  · intro h
    have e1 : nextRes (x :: r) 0 1 = ([x], r, 0) := by unfold nextRes; rw [if_neg (by omega), if_neg (by rw [List.length_cons]; omega)]; rfl
    have ev : val [x] = x.toNat := by simp [val]
    have e2 : (nextRes r 0 (x.toNat : Int)) = (r.take x.toNat, r.drop x.toNat, 0) := by
      unfold nextRes
      by_cases h0 : x.toNat = 0
      · rw [if_pos (by omega), h0]; simp
      · rw [if_neg (by omega), if_neg (by omega), Int.toNat_natCast]
    have e3 : nextRes (r.drop x.toNat) 0 2 = ((r.drop x.toNat).take 2, (r.drop x.toNat).drop 2, 0) := by
      unfold nextRes; rw [if_neg (by omega), if_neg (by rw [List.length_drop]; omega)]; rfl
    have e4 : nextRes ((r.drop x.toNat).drop 2) 0 1 = (((r.drop x.toNat).drop 2).take 1, ((r.drop x.toNat).drop 2).drop 1, 0) := by
      unfold nextRes; rw [if_neg (by omega), if_neg (by rw [List.length_drop, List.length_drop]; omega)]; rfl
    unfold tkE
    simp only [e1, ev, e2, e3, e4]
theorem areB_pre {l : List Ent} {e : Ent} : ∀ {t : List Ent}, areB (l ++ e :: t) = true → follB l e = true := fun {t} h => by
  unfold areB at h
  rw [List.all_eq_true] at h
  have := h l.length (List.mem_range.2 (by simp))
  rw [List.take_left', List.getD_eq_getElem?_getD, List.getElem?_append_right (Nat.le_refl _), Nat.sub_self] at this
  · exact this
  · rfl
theorem areB_snoc {l : List Ent} {e : Ent} (h : areB l = true) (he : follB l e = true) : areB (l ++ [e]) = true := by
  unfold areB at *
  rw [List.all_eq_true] at *
  intro i hi
  have hi' := List.mem_range.1 hi
  rw [List.length_append] at hi'
  rcases Nat.lt_or_ge i l.length with h1 | h1
  · rw [List.take_append_of_le_length (by omega), List.getD_eq_getElem?_getD, List.getElem?_append_left h1, ← List.getD_eq_getElem?_getD]
    exact h i (List.mem_range.2 h1)
  · obtain rfl : i = l.length := by simp at hi'; omega
    rw [List.take_left' rfl, List.getD_eq_getElem?_getD, List.getElem?_append_right (Nat.le_refl _), Nat.sub_self]
    exact he
theorem rtL_pre : ∀ (f : Nat) (l : List (BitVec 8)) (acc L : List Ent), rtL f l acc = some L → ∃ t, L = acc ++ t
  | 0, _, _, _, h => by simp [rtL] at h
  | f + 1, [], acc, L, h => by simp [rtL] at h; exact ⟨[], by simp [h]⟩
  | f + 1, x :: r, acc, L, h => by
    unfold rtL at h
    split at h
    · cases h
    · obtain ⟨t, ht⟩ := rtL_pre f _ _ _ h
      exact ⟨entOf x r :: t, by rw [ht]; simp⟩
/-- The program's reading is the document's, held against Are. -/
theorem tkL_rtL : ∀ (f : Nat) (l : List (BitVec 8)) (acc : List Ent), areB acc = true → tkL f l acc = (rtL f l acc).bind (fun L => if areB L = true then some L else none)
  | 0, _, _, _ => rfl
  | f + 1, [], acc, h => by
    unfold tkL rtL
    rw [if_pos rfl]
    simp [h]
  | f + 1, x :: r, acc, h => by
    unfold tkL rtL
    rw [if_neg (by simp)]
    by_cases hs : r.length < x.toNat + 3
    · rw [if_pos (fun e => (tkE_iff x r).1 e hs), if_pos hs]; rfl
    · have h0 := (tkE_iff x r).2 hs
      obtain ⟨x', r', e, h1, h2⟩ := tkE_ok h0
      injection e with e1 e2
      subst e1 e2
      rw [if_neg (by rw [h0]; simp), if_neg hs, h2]
      show (if follB acc (entOf x r) = true then tkL f (r.drop (x.toNat + 3)) (acc ++ [entOf x r]) else none) = _
      cases hf : follB acc (entOf x r) with
      | true => rw [if_pos rfl]; exact tkL_rtL f _ _ (areB_snoc h hf)
      | false =>
        rw [if_neg (by simp)]
        cases hr : rtL f (r.drop (x.toNat + 3)) (acc ++ [entOf x r]) with
        | none => rfl
        | some L =>
          obtain ⟨t, rfl⟩ := rtL_pre f _ _ _ hr
          rw [Option.bind_some, if_neg]
          intro ha
          rw [List.append_assoc] at ha
          have := areB_pre (t := t) ha
          rw [hf] at this; cases this
theorem takeL_rt (b : List (BitVec 8)) : takeL b = (rtL (b.length + 1) b []).bind (fun L => if areB L = true then some L else none) := tkL_rtL _ _ _ rfl
set_option maxRecDepth 100000 in
set_option maxHeartbeats 16000000 in
theorem renTake_any (b : List (BitVec 8)) (sp : Option Addr) (cap : Nat) (hl : b.length ≤ 50000) (hc : b.length ≤ cap) (w : World) (hS : SrcA w sp b) :
    Calls Try.prog 12 #[.slice sp b.length cap] w (RnPost w (if takeL b = none then 5 else 0) ((takeL b).getD [])) := by
  obtain ⟨RES, hRES⟩ : ∃ R, rtL (b.length + 1) b [] = R := ⟨_, rfl⟩
  have htk := takeL_rt b
  rw [hRES] at htk
  have HL := Lib.hid hl; have HRES := Lib.hid hRES; have HSA := Lib.hid hS
  obtain ⟨N, hN⟩ : ∃ N, b.length = N := ⟨_, rfl⟩
  rw [hN] at HL hc ⊢
  have HN := Lib.hid hN; have HC := Lib.hid hc
  rw [htk]
  generalize hPost : RnPost w (if RES.bind (fun L => if areB L = true then some L else none) = none then 5 else 0) ((RES.bind (fun L => if areB L = true then some L else none)).getD []) = Post
  have HPE : Hid (∀ w', RES.bind (fun L => if areB L = true then some L else none) = none → Below w.heap.size w w' → Post (.returned (.tuple #[.slice none 0 0, .int .i64 5])) w') := Lib.hid fun w' h0 h1 => by rw [← hPost, if_pos h0, h0]; exact ⟨_, rfl, OwnR.nil _ _, h1⟩
  have HP : Hid (∀ v acc w', RES.bind (fun L => if areB L = true then some L else none) = some acc → OwnR w' w.heap.size v acc → Below w.heap.size w w' → Post (.returned (.tuple #[v, .int .i64 0])) w') := Lib.hid fun v acc w' h0 h1 h2 => by rw [← hPost, if_neg (by rw [h0]; simp), h0]; exact ⟨v, rfl, h1, h2⟩
  clear hl hc hS hN hRES hPost htk
  go_enter Try.func12, Try.ntmps12
  go_upto_region 4 with fail
  go_loopg [4, 5] N (fun r s i wr => ∃ (p : Nat) (acc : List Ent) (f : Nat), i = .int .i64 (p : Int) ∧ r + p = N ∧ (b.drop p).length < f ∧ acc.length ≤ p ∧ rtL f (b.drop p) acc = RES ∧ (∀ e ∈ acc, e.n.length < 1000) ∧ OwnR wr w.heap.size s acc ∧ Below w.heap.size w wr)
  case atStart => exact ⟨0, [], b.length + 1, rfl, by omega, by simp, by simp, HRES.out, fun e he => by simp at he, OwnR.nil _ _, Below.refl _ _⟩
  case round =>
    as_aux_lemma =>
      obtain ⟨p, acc, f, rfl, hgp, hlf, hac, hres, hnm, hown, hbw⟩ := hrel
      obtain ⟨spo, capo, e4, hco, -, hso, -, -⟩ := hown.form
      obtain ⟨no, hno⟩ : ∃ n, acc.length = n := ⟨_, rfl⟩
      rw [hno] at e4 hco
      subst e4
      have HOWN := Lib.hid hown; have HBW := Lib.hid hbw; have HAC := Lib.hid hac; have HRE := Lib.hid hres; have HLF := Lib.hid hlf; have HNO := Lib.hid hno; have HCO := Lib.hid hco; have HNM := Lib.hid hnm
      clear hown hbw hac hres hlf hno hco hso hnm
      by_cases hlt : p < N
      · have hlt' : (p : Int) < (N : Int) := by omega
        obtain ⟨g, o, rfl, hg, hcl⟩ := HSA.out (by have := HN.out; omega)
        have hcx : ∀ X, Below w.heap.size w X → ∀ j, j < N → X.cell? ⟨g, o + j, none⟩ = some (V8 (b.getD j 0)) := fun X hX j hj => by
          rw [hX.cell (p := ⟨g, o + j, none⟩) hg]; exact hcl j (by rw [HN.out]; exact hj)
        obtain ⟨x, hx⟩ : ∃ x, b.getD p 0 = x := ⟨_, rfl⟩
        obtain ⟨n, hn⟩ : ∃ n, x.toNat = n := ⟨_, rfl⟩
        have hn256 : n < 256 := by rw [← hn]; exact x.isLt
        have hdrop : b.drop p = x :: b.drop (p + 1) := by
          have hp : p < b.length := by rw [HN.out]; exact hlt
          rw [List.drop_eq_getElem_cons hp, ← hx, List.getD_eq_getElem?_getD, List.getElem?_eq_getElem hp]; rfl
        obtain ⟨f', hf'⟩ : ∃ f', f = f' + 1 := ⟨f - 1, by have := HLF.out; omega⟩
        have hst := HRE.out
        rw [hf', hdrop] at hst
        unfold rtL at hst
        rw [hn, List.length_drop, HN.out] at hst
        have hv : N8 x = (n : Int) := by unfold N8; rw [hn]
        have c0 := hcx wr HBW.out p hlt
        rw [hx] at c0
        have c0' : wr.cell? ⟨g, o + p, none⟩ = some (.int .u8 (n : Int)) := by rw [c0, ← hv]
        have HKP : Hid (p < N ∧ N ≤ cap) := Lib.hid ⟨hlt, HC.out⟩
        have wn := IntWalk.i64_in (n : Int) (by omega)
        have ws := IntWalk.i64_in ((N : Int) - (p : Int)) (by have := HL.out; omega)
        have wa := IntWalk.i64_in ((n : Int) + 4) (by omega)
        have HCX := Lib.hid hcx; have HX := Lib.hid hx; have HNV := Lib.hid hn; have H256 := Lib.hid hn256; have HDR := Lib.hid hdrop; have HF' := Lib.hid hf'; have HST := Lib.hid hst
        clear hg hcl hcx hx hn hn256 hdrop hf' hst hv c0
        by_cases hs : N - (p + 1) < n + 3
        · have z1 : (N : Int) - (p : Int) < (n : Int) + 4 := by omega
          have HNN : Hid (RES = none) := Lib.hid (by rw [← HST.out, if_pos hs])
          have HQ := Lib.hid (HPE.out wr (by rw [HNN.out]; rfl) HBW.out)
          clear hs
          go_wp2_with (first | (refine e_val rfl (ex_iaB rfl rfl rfl HKP.out) ?_) | fail)
          first | exact HQ.out | (go_ret2; exact HQ.out)
        · have z1 : ¬ (N : Int) - (p : Int) < (n : Int) + 4 := by omega
          have HSS : Hid (p + n + 4 ≤ N) := Lib.hid (by omega)
          have hst := HST.out
          rw [if_neg hs, List.drop_drop] at hst
          clear hs
          go_upto_region 7 with (first | (refine e_val rfl (ex_iaB rfl rfl rfl HKP.out) ?_) | fail)
          clear wn ws wa c0'
          obtain ⟨ent, hent⟩ : ∃ e, entOf x (b.drop (p + 1)) = e := ⟨_, rfl⟩
          rw [hent] at hst
          have hgd : ∀ j, p + 1 + j < N → (b.drop (p + 1)).getD j 0 = b.getD (p + 1 + j) 0 := fun j hj => by
            rw [List.getD_eq_getElem?_getD, List.getElem?_drop, ← List.getD_eq_getElem?_getD]
          have hS := HSS.out
          have hval2 : val (((b.drop (p + 1)).drop n).take 2) = (b.getD (p + 1 + n) 0).toNat + 256 * (b.getD (p + 2 + n) 0).toNat := by
            have hlen : p + 1 + n + 1 < b.length := by rw [HN.out]; omega
            rw [List.drop_drop, show p + 1 + n = p + 1 + n from rfl]
            rw [List.drop_eq_getElem_cons (by omega : p + 1 + n < b.length), List.drop_eq_getElem_cons hlen]
            simp only [List.take_succ_cons, List.take_zero, val, Nat.mul_zero, Nat.add_zero]
            rw [List.getD_eq_getElem?_getD, List.getElem?_eq_getElem (by omega : p + 1 + n < b.length), List.getD_eq_getElem?_getD, show p + 2 + n = p + 1 + n + 1 by omega, List.getElem?_eq_getElem hlen]
            rfl
          have hval1 : val (((b.drop (p + 1)).drop (n + 2)).take 1) = (b.getD (p + 3 + n) 0).toNat := by
            have hlen : p + 3 + n < b.length := by rw [HN.out]; omega
            rw [List.drop_drop, show p + 1 + (n + 2) = p + 3 + n by omega, List.drop_eq_getElem_cons hlen]
            simp only [List.take_succ_cons, List.take_zero, val, Nat.mul_zero, Nat.add_zero]
            rw [List.getD_eq_getElem?_getD, List.getElem?_eq_getElem hlen]; rfl
          have hen : str (un ((b.drop (p + 1)).take n)) = str ent.n := by rw [← hent]; unfold entOf; rw [HNV.out]
          have hek : N8 (b.getD (p + 3 + n) 0) = (ent.k : Int) := by rw [← hent]; unfold entOf; show _ = ((val _ : Nat) : Int); rw [HNV.out, hval1]; rfl
          have hu : IntKind.u16.wrap (N8 (b.getD (p + 1 + n) 0) + 256 * N8 (b.getD (p + 2 + n) 0)) = (ent.u : Int) := by
            have e1 : (ent.u : Int) = N8 (b.getD (p + 1 + n) 0) + 256 * N8 (b.getD (p + 2 + n) 0) := by
              rw [← hent]; unfold entOf; show ((val _ : Nat) : Int) = _; rw [HNV.out, hval2]; unfold N8; omega
            have a1 := n8_lt (b.getD (p + 1 + n) 0); have a2 := n8_nonneg (b.getD (p + 1 + n) 0)
            have a3 := n8_lt (b.getD (p + 2 + n) 0); have a4 := n8_nonneg (b.getD (p + 2 + n) 0)
            rw [e1, IntKind.wrap_u16]; omega
          have hnl : ent.n.length < 1000 := by rw [← hent]; unfold entOf; show (un _).length < _; rw [un_length, List.length_take, HNV.out]; have := H256.out; omega
          have hbd : Below w.heap.size w wr.drew := HBW.out.drew
          have hob : OwnR wr.drew w.heap.size (.slice spo no capo) acc := HOWN.out.below (Below.refl _ _).drew (Nat.le_refl _)
          obtain ⟨sp6, n6, cap6, w6, hr6, ho6, hb6⟩ := ownR_push hob hbd (by have := HAC.out; have := HL.out; omega) ent
          have HS0 := Lib.hid (HCX.out _ hbd)
          have HS1 := Lib.hid (HCX.out _ (hbd.alloc hbd.size (.cells (ecells ent).toArray 41)))
          have HS2 := Lib.hid (HCX.out _ hb6)
          have HR6 := Lib.hid hr6; have HO6 := Lib.hid ho6; have HB6 := Lib.hid hb6
          have hN5 := HL.out
          have HA1 : Hid (p + 1 < 1000000) := Lib.hid (by omega)
          have HA2 : Hid (p + 1 + n < 1000000) := Lib.hid (by omega)
          have HA2x : Hid (p + 2 < 1000000) := Lib.hid (by omega)
          have HA3x : Hid (p + 3 < 1000000) := Lib.hid (by omega)
          have HB1 : Hid (p + 1 + n < 1000000) := Lib.hid (by omega)
          have HB2 : Hid (p + 2 + n < 1000000) := Lib.hid (by omega)
          have HB3 : Hid (p + 3 + n < 1000000) := Lib.hid (by omega)
          have hcp := HC.out
          have HI1 : Hid (p + 1 + n < N ∧ N ≤ cap) := Lib.hid ⟨by omega, hcp⟩
          have HI2 : Hid (p + 2 + n < N ∧ N ≤ cap) := Lib.hid ⟨by omega, hcp⟩
          have HI3 : Hid (p + 3 + n < N ∧ N ≤ cap) := Lib.hid ⟨by omega, hcp⟩
          have HMID : Hid (p + 1 + n = p + 1 + n ∧ p + 1 + n ≤ N ∧ N ≤ cap ∧ p + 1 < cap) := Lib.hid ⟨rfl, by omega, hcp, by omega⟩
          have HLENN : Hid (((b.drop (p + 1)).take n).length = n) := Lib.hid (by rw [List.length_take, List.length_drop, HN.out]; omega)
          have HSRC : Hid (∀ X : World, (∀ j, j < N → X.cell? ⟨g, o + j, none⟩ = some (V8 (b.getD j 0))) → SrcA X (some ⟨g, o + (p + 1), none⟩) ((b.drop (p + 1)).take n)) := Lib.hid (fun X hX h0 => by
            refine ⟨g, o + (p + 1), rfl, e_lt (hX p (by omega)), fun j hj => ?_⟩
            rw [List.length_take, List.length_drop, HN.out] at hj
            rw [Nat.add_assoc, hX (p + 1 + j) (by omega), List.getD_eq_getElem?_getD, List.getD_eq_getElem?_getD, List.getElem?_take, if_pos (by omega), List.getElem?_drop])
          have HUU := Lib.hid hu; have HEN := Lib.hid hen; have HEK := Lib.hid hek; have HNL := Lib.hid hnl
          have HNEXT := Lib.hid hst
          clear hst hent hgd hS hval2 hval1 hen hek hu hnl hbd hob hr6 ho6 hb6 hN5 hcp
          refine wp_region_sched ((.take 0 (.take 1 (.take 2 (.take 3 (.take 4 (.take 5 (.take 6 (.take 7 (.take 8 (.take 9 (.take 10 (.take 11 (.take 12 (.take 13 (.take 14 (.take 15 (.take 16 (.take 17 (.take 18 (.take 19 (.take 20 (.take 21 (.take 22 (.take 23 (.take 24 (.take 25 (.take 26 (.take 27 (.take 28 (.take 29 (.take 30 (.take 31 (.take 32 (.take 33 (.take 34 (.take 35 (.step 36 (.step 37 (.take 38 (.nil))))))))))))))))))))))))))))))))))))))))) (by kernel_rfl) (by kernel_rfl) (fun d _ _ _ _ h => by cases d <;> exact h) (fun X => ∀ j, j < N → X.cell? ⟨g, o + j, none⟩ = some (V8 (b.getD j 0))) (HS0.out) ?_
          refine wpG_take _ (.slice spo no capo) rfl (by rfl) (fun X hX => by first | rfl | go_simp) ?_
          (try simp only [Act.put, List.setIfInBounds_toArray, List.set_cons_zero, List.set_cons_succ])
          refine wpG_take _ (.slice (some ⟨g, o, none⟩) N cap) rfl (by rfl) (fun X hX => by first | rfl | go_simp) ?_
          (try simp only [Act.put, List.setIfInBounds_toArray, List.set_cons_zero, List.set_cons_succ])
          refine wpG_take _ (.int .i64 (p : Int)) rfl (by rfl) (fun X hX => by first | rfl | go_simp) ?_
          (try simp only [Act.put, List.setIfInBounds_toArray, List.set_cons_zero, List.set_cons_succ])
          refine wpG_take _ (.int .i64 ((p + 1 : Nat) : Int)) rfl (by rfl) (fun X hX => ex_addI (b := 1) rfl rfl rfl HA1.out) ?_
          (try simp only [Act.put, List.setIfInBounds_toArray, List.set_cons_zero, List.set_cons_succ])
          refine wpG_take _ (.int .i64 (p : Int)) rfl (by rfl) (fun X hX => by first | rfl | go_simp) ?_
          (try simp only [Act.put, List.setIfInBounds_toArray, List.set_cons_zero, List.set_cons_succ])
          refine wpG_take _ (.int .i64 ((p + 1 : Nat) : Int)) rfl (by rfl) (fun X hX => ex_addI (b := 1) rfl rfl rfl HA1.out) ?_
          (try simp only [Act.put, List.setIfInBounds_toArray, List.set_cons_zero, List.set_cons_succ])
          refine wpG_take _ (.int .i64 (n : Int)) rfl (by rfl) (fun X hX => by first | rfl | go_simp) ?_
          (try simp only [Act.put, List.setIfInBounds_toArray, List.set_cons_zero, List.set_cons_succ])
          refine wpG_take _ (.int .i64 ((p + 1 + n : Nat) : Int)) rfl (by rfl) (fun X hX => ex_addI rfl rfl rfl HA2.out) ?_
          (try simp only [Act.put, List.setIfInBounds_toArray, List.set_cons_zero, List.set_cons_succ])
          refine wpG_take _ (.slice (some ⟨g, o + (p + 1), none⟩) n (cap - (p + 1))) rfl (by rfl) (fun X hX => ex_midB HMID.out rfl rfl rfl rfl) ?_
          (try simp only [Act.put, List.setIfInBounds_toArray, List.set_cons_zero, List.set_cons_succ])
          refine wpG_take _ (.string (str (un ((b.drop (p + 1)).take n)))) rfl (by rfl) (fun X hX => ex_strB (HSRC.out X hX) HLENN.out rfl rfl) ?_
          (try simp only [Act.put, List.setIfInBounds_toArray, List.set_cons_zero, List.set_cons_succ])
          refine wpG_take _ (.slice (some ⟨g, o, none⟩) N cap) rfl (by rfl) (fun X hX => by first | rfl | go_simp) ?_
          (try simp only [Act.put, List.setIfInBounds_toArray, List.set_cons_zero, List.set_cons_succ])
          refine wpG_take _ (.int .i64 (p : Int)) rfl (by rfl) (fun X hX => by first | rfl | go_simp) ?_
          (try simp only [Act.put, List.setIfInBounds_toArray, List.set_cons_zero, List.set_cons_succ])
          refine wpG_take _ (.int .i64 ((p + 1 : Nat) : Int)) rfl (by rfl) (fun X hX => ex_addI (b := 1) rfl rfl rfl HA1.out) ?_
          (try simp only [Act.put, List.setIfInBounds_toArray, List.set_cons_zero, List.set_cons_succ])
          refine wpG_take _ (.int .i64 (n : Int)) rfl (by rfl) (fun X hX => by first | rfl | go_simp) ?_
          (try simp only [Act.put, List.setIfInBounds_toArray, List.set_cons_zero, List.set_cons_succ])
          refine wpG_take _ (.int .i64 ((p + 1 + n : Nat) : Int)) rfl (by rfl) (fun X hX => ex_addI rfl rfl rfl HB1.out) ?_
          (try simp only [Act.put, List.setIfInBounds_toArray, List.set_cons_zero, List.set_cons_succ])
          refine wpG_take _ (.pointer (some ⟨g, o + (p + 1 + n), none⟩)) rfl (by rfl) (fun X hX => ex_iaB rfl rfl rfl HI1.out) ?_
          (try simp only [Act.put, List.setIfInBounds_toArray, List.set_cons_zero, List.set_cons_succ])
          refine wpG_take _ (V8 (b.getD (p + 1 + n) 0)) rfl (by rfl) (fun X hX => ex_ldV8 rfl rfl (hX (p + 1 + n) HI1.out.1)) ?_
          (try simp only [Act.put, List.setIfInBounds_toArray, List.set_cons_zero, List.set_cons_succ])
          refine wpG_take _ (.int .u16 (N8 (b.getD (p + 1 + n) 0))) rfl (by rfl) (fun X hX => ex_cv16 rfl rfl) ?_
          (try simp only [Act.put, List.setIfInBounds_toArray, List.set_cons_zero, List.set_cons_succ])
          refine wpG_take _ (.slice (some ⟨g, o, none⟩) N cap) rfl (by rfl) (fun X hX => by first | rfl | go_simp) ?_
          (try simp only [Act.put, List.setIfInBounds_toArray, List.set_cons_zero, List.set_cons_succ])
          refine wpG_take _ (.int .i64 (p : Int)) rfl (by rfl) (fun X hX => by first | rfl | go_simp) ?_
          (try simp only [Act.put, List.setIfInBounds_toArray, List.set_cons_zero, List.set_cons_succ])
          refine wpG_take _ (.int .i64 ((p + 2 : Nat) : Int)) rfl (by rfl) (fun X hX => ex_addI (b := 2) rfl rfl rfl HA2x.out) ?_
          (try simp only [Act.put, List.setIfInBounds_toArray, List.set_cons_zero, List.set_cons_succ])
          refine wpG_take _ (.int .i64 (n : Int)) rfl (by rfl) (fun X hX => by first | rfl | go_simp) ?_
          (try simp only [Act.put, List.setIfInBounds_toArray, List.set_cons_zero, List.set_cons_succ])
          refine wpG_take _ (.int .i64 ((p + 2 + n : Nat) : Int)) rfl (by rfl) (fun X hX => ex_addI rfl rfl rfl HB2.out) ?_
          (try simp only [Act.put, List.setIfInBounds_toArray, List.set_cons_zero, List.set_cons_succ])
          refine wpG_take _ (.pointer (some ⟨g, o + (p + 2 + n), none⟩)) rfl (by rfl) (fun X hX => ex_iaB rfl rfl rfl HI2.out) ?_
          (try simp only [Act.put, List.setIfInBounds_toArray, List.set_cons_zero, List.set_cons_succ])
          refine wpG_take _ (V8 (b.getD (p + 2 + n) 0)) rfl (by rfl) (fun X hX => ex_ldV8 rfl rfl (hX (p + 2 + n) HI2.out.1)) ?_
          (try simp only [Act.put, List.setIfInBounds_toArray, List.set_cons_zero, List.set_cons_succ])
          refine wpG_take _ (.int .u16 (N8 (b.getD (p + 2 + n) 0))) rfl (by rfl) (fun X hX => ex_cv16 rfl rfl) ?_
          (try simp only [Act.put, List.setIfInBounds_toArray, List.set_cons_zero, List.set_cons_succ])
          refine wpG_take _ (.int .u16 (256 * N8 (b.getD (p + 2 + n) 0))) rfl (by rfl) (fun X hX => ex_mul16 rfl rfl rfl) ?_
          (try simp only [Act.put, List.setIfInBounds_toArray, List.set_cons_zero, List.set_cons_succ])
          refine wpG_take _ (.int .u16 (ent.u : Int)) rfl (by rfl) (fun X hX => ex_add16 rfl rfl rfl HUU.out) ?_
          (try simp only [Act.put, List.setIfInBounds_toArray, List.set_cons_zero, List.set_cons_succ])
          refine wpG_take _ (.slice (some ⟨g, o, none⟩) N cap) rfl (by rfl) (fun X hX => by first | rfl | go_simp) ?_
          (try simp only [Act.put, List.setIfInBounds_toArray, List.set_cons_zero, List.set_cons_succ])
          refine wpG_take _ (.int .i64 (p : Int)) rfl (by rfl) (fun X hX => by first | rfl | go_simp) ?_
          (try simp only [Act.put, List.setIfInBounds_toArray, List.set_cons_zero, List.set_cons_succ])
          refine wpG_take _ (.int .i64 ((p + 3 : Nat) : Int)) rfl (by rfl) (fun X hX => ex_addI (b := 3) rfl rfl rfl HA3x.out) ?_
          (try simp only [Act.put, List.setIfInBounds_toArray, List.set_cons_zero, List.set_cons_succ])
          refine wpG_take _ (.int .i64 (n : Int)) rfl (by rfl) (fun X hX => by first | rfl | go_simp) ?_
          (try simp only [Act.put, List.setIfInBounds_toArray, List.set_cons_zero, List.set_cons_succ])
          refine wpG_take _ (.int .i64 ((p + 3 + n : Nat) : Int)) rfl (by rfl) (fun X hX => ex_addI rfl rfl rfl HB3.out) ?_
          (try simp only [Act.put, List.setIfInBounds_toArray, List.set_cons_zero, List.set_cons_succ])
          refine wpG_take _ (.pointer (some ⟨g, o + (p + 3 + n), none⟩)) rfl (by rfl) (fun X hX => ex_iaB rfl rfl rfl HI3.out) ?_
          (try simp only [Act.put, List.setIfInBounds_toArray, List.set_cons_zero, List.set_cons_succ])
          refine wpG_take _ (V8 (b.getD (p + 3 + n) 0)) rfl (by rfl) (fun X hX => ex_ldV8 rfl rfl (hX (p + 3 + n) HI3.out.1)) ?_
          (try simp only [Act.put, List.setIfInBounds_toArray, List.set_cons_zero, List.set_cons_succ])
          refine wpG_take _ (.agg (ecells ent).toArray) rfl (by rfl) (fun X hX => ex_bldR HEN.out HEK.out rfl rfl rfl rfl) ?_
          (try simp only [Act.put, List.setIfInBounds_toArray, List.set_cons_zero, List.set_cons_succ])
          refine wpG_mkE _ rfl (by rfl) (.slice (some ⟨wr.drew.heap.size, 0, none⟩) 1 1) (wr.drew.alloc (.cells (ecells ent).toArray 41)) (ex_oneR rfl rfl) (fun X => ∀ j, j < N → X.cell? ⟨g, o + j, none⟩ = some (V8 (b.getD j 0))) (HS1.out) (fun _ h => h) ?_
          (try simp only [Act.put, List.setIfInBounds_toArray, List.set_cons_zero, List.set_cons_succ])
          refine wpG_mkE _ rfl (by rfl) (.slice sp6 n6 cap6) (w6) (ex_appR rfl rfl rfl HR6.out) (fun X => ∀ j, j < N → X.cell? ⟨g, o + j, none⟩ = some (V8 (b.getD j 0))) (HS2.out) (fun _ h => h) ?_
          (try simp only [Act.put, List.setIfInBounds_toArray, List.set_cons_zero, List.set_cons_succ])
          refine wpG_take _ (.slice sp6 n6 cap6) rfl (by rfl) (fun X hX => by first | rfl | go_simp) ?_
          (try simp only [Act.put, List.setIfInBounds_toArray, List.set_cons_zero, List.set_cons_succ])
          refine wpG_nil ?_
          have w1 := IntWalk.i64_in ((p : Int) + (n : Int)) (by have := HSS.out; have := HL.out; omega)
          have w2 := IntWalk.i64_in ((p : Int) + (n : Int) + 4) (by have := HSS.out; have := HL.out; omega)
          go_wp2_with fail
          go_roundg (N - (p + n + 4))
          case measure => have := HSS.out; omega
          case rel => exact ⟨p + n + 4, acc ++ [ent], f', by go_num, by have := HSS.out; omega, by
            have := HLF.out; have := HF'.out; have := HSS.out; have := HN.out
            rw [List.length_drop] at *; omega, by rw [List.length_append]; have := HAC.out; simp; omega, by
            rw [show p + n + 4 = p + 1 + (n + 3) by omega]; exact HNEXT.out, fun e he => by
            rw [List.mem_append] at he
            rcases he with he | he
            · exact HNM.out e he
            · rw [List.mem_singleton] at he; rw [he]; exact HNL.out, HO6.out, HB6.out⟩
      · obtain rfl : N = p := by omega
        have hlt' : ¬ (N : Int) < (N : Int) := by omega
        have hd : b.drop N = [] := List.drop_of_length_le (by rw [HN.out]; exact Nat.le_refl _)
        have hres : RES = some acc := by
          obtain ⟨f', hf'⟩ : ∃ f', f = f' + 1 := ⟨f - 1, by have := HLF.out; omega⟩
          rw [← HRE.out, hf', hd]; rfl
        have HRS := Lib.hid hres
        clear hd hres hlt
        go_wp2_with fail
        have hcl := renAre_any acc spo capo (by rw [HNO.out]; exact HCO.out) (by have := HAC.out; have := HL.out; omega) (fun e he => by have := HNM.out e he; omega) wr HOWN.out.src'
        rw [HNO.out] at hcl
        refine hcl.mono ?_
        rintro y W3 ⟨rfl, hb3⟩
        have HB3 : Hid (Below w.heap.size w W3) := Lib.hid (HBW.out.trans (hb3.mono HBW.out.size))
        have HO3 := Lib.hid (HOWN.out.below hb3 (Nat.le_refl _))
        clear hb3 hcl
        cases har : areB acc with
        | true =>
          have HQ := Lib.hid (HP.out _ acc W3 (by rw [HRS.out, Option.bind_some, if_pos har]) HO3.out HB3.out)
          clear har
          go_wp2_with fail
          first | exact HQ.out | (go_ret2; exact HQ.out)
        | false =>
          have HQ := Lib.hid (HPE.out W3 (by rw [HRS.out, Option.bind_some, if_neg (by rw [har]; simp)]) HB3.out)
          clear har
          go_wp2_with fail
          first | exact HQ.out | (go_ret2; exact HQ.out)
end Go.Proofs.Ytlkhnmhhcagghaa
