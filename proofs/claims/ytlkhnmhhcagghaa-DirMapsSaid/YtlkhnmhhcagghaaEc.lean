/- Entries: may it be; where a name stands. -/
import Derived.Test.YtlkhnmhhcagghaaEb
import Derived.Deep.LoopGhost
import Derived.Deep.CutBlock
import Derived.Laws.Cover1
namespace Go.Proofs.Ytlkhnmhhcagghaa
open Go.RowKit

attribute [local go_sem] Oper.semAt_some

theorem e_val {ops : Array Oper} {rest : List Oper} {o : Oper} {a : Act} {Q : Exit → Act → World → Prop} {w w' : World} {v : Value} (hg : o.guard = none) (hrun : (execOp a.eval o).run Try.prog w = .ok (.value v) w')
    (hK : wpList Try.prog ops Q rest (a.put o.dst v) w') : wpList Try.prog ops Q (o :: rest) a w := by
  refine wpList_plain hg fun K' hK' => ?_
  unfold Oper.wp
  rw [hrun]
  exact hK' _ _ hK
theorem e_valG {ops : Array Oper} {rest : List Oper} {o : Oper} {a : Act} {Q : Exit → Act → World → Prop} {w w' : World} {v : Value} (hw : Region.wanted o (yielded ops a.tmps) = true) (hrun : (execOp a.eval o).run Try.prog w = .ok (.value v) w')
    (hK : wpList Try.prog ops Q rest (a.put o.dst v) w') : wpList Try.prog ops Q (o :: rest) a w := by
  unfold wpList
  rw [if_pos hw]
  refine .inl ?_
  unfold Oper.wp
  rw [hrun]
  exact hK
theorem e_lt {w : World} {g j : Nat} {v : Value} (h : w.cell? ⟨g, j, none⟩ = some v) : g < w.heap.size := by
  unfold World.cell? at h
  rcases hg : w.heap[g]? with _ | x
  · simp [hg] at h
  · exact (Array.getElem?_eq_some_iff.1 hg).1
def eqB (n : List UInt8) (e : Ent) : Bool := e.n == n
def gtB (n : List UInt8) (e : Ent) : Bool := !ltN e.n n && !e.n == n
def whoB (e : Ent) : Bool := (decide (e.k = 1) || decide (e.k = 2) || decide (e.k = 3)) && (decide (1 ≤ e.u) && decide (e.u ≤ 255))
def idxP (p : Ent → Bool) (l : List Ent) : Int := match l.findIdx? p with | some i => (i : Int) | none => -1
theorem take_snocE {l : List Ent} {k : Nat} {x : Ent} (h : l[k]? = some x) : l.take (k + 1) = l.take k ++ [x] := by
  obtain ⟨hk, rfl⟩ := List.getElem?_eq_some_iff.1 h
  rw [List.take_succ_eq_append_getElem hk]
theorem idxP_no {p : Ent → Bool} {l : List Ent} (h : l.any p = false) : idxP p l = -1 := by
  unfold idxP
  rw [List.findIdx?_eq_none_iff.2 (fun x hx => by simpa using List.any_eq_false.1 h x hx)]
theorem idxP_at {p : Ent → Bool} {l : List Ent} {k : Nat} {e : Ent} (he : l[k]? = some e) (hn : (l.take k).any p = false) (hp : p e = true) : idxP p l = (k : Int) := by
  obtain ⟨hk, rfl⟩ := List.getElem?_eq_some_iff.1 he
  unfold idxP
  rw [List.findIdx?_eq_some_iff_getElem.2 ⟨hk, hp, fun j hj => by
    have h1 := List.any_eq_false.1 hn l[j] (by rw [List.mem_take_iff_getElem]; exact ⟨j, by omega, rfl⟩)
    simpa using h1⟩]
set_option maxRecDepth 100000 in
theorem enPlaceIn_any (e : Ent) (n : List UInt8) (gb : Nat) (w : World) (hn : w.cell? ⟨gb, 0, none⟩ = some (.string (str n))) :
    Calls Try.prog 43 #[.agg (ecells e).toArray, .pointer (some ⟨gb, 0, none⟩)] w fun x w' => x = .returned (.bool (eqB n e)) ∧ Below w.heap.size w w' := by
  have hn2 : (w.alloc (.cells (ecells e).toArray 46)).cell? ⟨gb, 0, none⟩ = some (.string (str n)) := ((Below.refl _ _).alloc (Nat.le_refl _) _).cell (p := ⟨gb, 0, none⟩) (e_lt hn) |>.trans hn
  have h1 := str_toList e.n
  have h2 := str_toList n
  go_enter Try.func43, Try.ntmps43
  go_wp2_with fail
  go_ret
  refine ⟨?_, (Below.refl _ _).alloc (Nat.le_refl _) _⟩
  rfl
set_option maxRecDepth 100000 in
theorem enAddIn_any (e : Ent) (n : List UInt8) (gb : Nat) (w : World) (hn : w.cell? ⟨gb, 0, none⟩ = some (.string (str n))) :
    Calls Try.prog 34 #[.agg (ecells e).toArray, .pointer (some ⟨gb, 0, none⟩)] w fun x w' => x = .returned (.bool (gtB n e)) ∧ Below w.heap.size w w' := by
  have hn2 : (w.alloc (.cells (ecells e).toArray 46)).cell? ⟨gb, 0, none⟩ = some (.string (str n)) := ((Below.refl _ _).alloc (Nat.le_refl _) _).cell (p := ⟨gb, 0, none⟩) (e_lt hn) |>.trans hn
  have h1 := str_toList e.n
  have h2 := str_toList n
  go_enter Try.func34, Try.ntmps34
  go_wp2_with fail
  first | exact ⟨rfl, (Below.refl _ _).alloc (Nat.le_refl _) _⟩ | (go_ret; exact ⟨rfl, (Below.refl _ _).alloc (Nat.le_refl _) _⟩)
set_option maxRecDepth 100000 in
theorem enWhose_any (e : Ent) (w : World) : Calls Try.prog 32 #[.agg (ecells e).toArray] w fun x w' => x = .returned (.bool (whoB e)) ∧ Below w.heap.size w w' := by
  obtain ⟨n, u, k⟩ := e
  have hb : Below w.heap.size w (w.alloc (.cells (ecells ⟨n, u, k⟩).toArray 46)) := (Below.refl _ _).alloc (Nat.le_refl _) _
  generalize hPost : (fun (x : Ending) (w' : World) => x = Ending.returned (.bool (whoB ⟨n, u, k⟩)) ∧ Below w.heap.size w w') = Post
  have HP : Hid (∀ b w', whoB ⟨n, u, k⟩ = b → Below w.heap.size w w' → Post (.returned (.bool b)) w') := Lib.hid fun z w' e h => by rw [← hPost, ← e]; exact ⟨rfl, h⟩
  have HB := Lib.hid hb
  clear hPost hb
  by_cases hk : k = 1 ∨ k = 2 ∨ k = 3
  · by_cases hu : 1 ≤ u
    · have z1 : (1 : Int) ≤ (u : Int) := by omega
      by_cases hv : u ≤ 255
      · have z2 : (u : Int) ≤ 255 := by omega
        have HE := Lib.hid (HP.out true _ (by unfold whoB; rcases hk with h | h | h <;> simp [h, hu, hv]) HB.out)
        clear hu hv
        rcases hk with rfl | rfl | rfl
        all_goals
          go_enter Try.func32, Try.ntmps32
          go_wp2_with fail
          first | exact HE.out | (go_ret; exact HE.out)
      · have z2 : ¬ (u : Int) ≤ 255 := by omega
        have HE := Lib.hid (HP.out false _ (by unfold whoB; rcases hk with h | h | h <;> simp [h, hu, hv]) HB.out)
        clear hu hv
        rcases hk with rfl | rfl | rfl
        all_goals
          go_enter Try.func32, Try.ntmps32
          go_wp2_with fail
          first | exact HE.out | (go_ret; exact HE.out)
    · have z1 : ¬ (1 : Int) ≤ (u : Int) := by omega
      have HE := Lib.hid (HP.out false _ (by unfold whoB; rcases hk with h | h | h <;> simp [h] <;> omega) HB.out)
      clear hu
      rcases hk with rfl | rfl | rfl
      all_goals
        go_enter Try.func32, Try.ntmps32
        go_wp2_with fail
        first | exact HE.out | (go_ret; exact HE.out)
  · have z1 : ((k : Int) == 1) = false := by simp; omega
    have z2 : ((k : Int) == 2) = false := by simp; omega
    have z3 : ((k : Int) == 3) = false := by simp; omega
    have HE := Lib.hid (HP.out false _ (by unfold whoB; simp; omega) HB.out)
    clear hk
    go_enter Try.func32, Try.ntmps32
    go_wp2_with fail
    first | exact HE.out | (go_ret; exact HE.out)
set_option maxRecDepth 100000 in
set_option maxHeartbeats 4000000 in
theorem idxEq_any (l : List Ent) (n : List UInt8) (sp : Option Addr) (cap gb : Nat) (hc : l.length ≤ cap) (hl : l.length < 1000000) (w : World) (hs : SrcE w sp l) {cs : List Value} {t : TypeId} (hb : Blk w gb cs t) (hn : cs[0]? = some (.string (str n))) :
    Calls Try.prog 33 #[.slice sp l.length cap, .func (.func 43) #[] #[.pointer (some ⟨gb, 0, none⟩)]] w fun e w' => e = .returned (.int .i64 (idxP (eqB n) l)) ∧ Below w.heap.size w w' := by
  obtain ⟨N, hN⟩ : ∃ N, l.length = N := ⟨_, rfl⟩
  rw [hN] at hc hl ⊢
  have HN := Lib.hid hN; have HC := Lib.hid hc; have HS := Lib.hid hs; have HB := Lib.hid hb; have HNM := Lib.hid hn; have HL := Lib.hid hl
  generalize hPost : (fun (e : Ending) (w' : World) => e = Ending.returned (.int .i64 (idxP (eqB n) l)) ∧ Below w.heap.size w w') = Post
  have HP : Hid (∀ z w', idxP (eqB n) l = z → Below w.heap.size w w' → Post (.returned (.int .i64 z)) w') := Lib.hid fun z w' e h => by rw [← hPost, ← e]; exact ⟨rfl, h⟩
  clear hN hc hs hb hn hl hPost
  go_enter Try.func33, Try.ntmps33
  go_upto_region 6 with fail
  go_loopg [8] N (fun r i wr => ∃ k : Nat, i = .int .i64 (k : Int) ∧ r + k = N ∧ (l.take k).any (eqB n) = false ∧ Below w.heap.size w wr)
  case atStart => exact ⟨0, rfl, by omega, by simp, Below.refl _ _⟩
  case round =>
    obtain ⟨k, rfl, hgk, hno, hbw⟩ := hrel
    have HNO := Lib.hid hno; have HBW := Lib.hid hbw
    clear hno hbw
    have wk1 := IntWalk.i64_in ((k : Int) + 1) (by have := HL.out; omega)
    by_cases hlt : k < N
    · have hlt' : (k : Int) < (N : Int) := by omega
      obtain ⟨e, he⟩ : ∃ e, l[k]? = some e := ⟨_, List.getElem?_eq_getElem (by have := HN.out; omega)⟩
      obtain ⟨g, o, rfl, hg, hr⟩ := (HS.out.grown HBW.out) (by have := HN.out; omega)
      have HR := Lib.hid (hr k e he)
      have HKC : Hid (k < N ∧ N ≤ cap) := Lib.hid ⟨hlt, HC.out⟩
      have hcl : Calls Try.prog 43 #[.agg (ecells e).toArray, .pointer (some ⟨gb, 0, none⟩)] wr _ := enPlaceIn_any e n gb wr ((HB.out.below HBW.out HB.out.lt).cell HNM.out)
      have HCL := Lib.hid hcl
      have HTK := Lib.hid (take_snocE he)
      have HIX := Lib.hid (fun h => idxP_at (p := eqB n) he HNO.out h)
      clear he hg hr hcl
      go_wp2_with (first | (refine e_val rfl (ex_iaE rfl rfl rfl HKC.out) ?_) | (refine e_val rfl (ex_ldE HR.out rfl rfl) ?_) | fail)
      refine HCL.out.mono ?_
      rintro e2 W2 ⟨rfl, hb2⟩
      have HB2 : Hid (Below w.heap.size w W2) := Lib.hid (HBW.out.trans (hb2.mono HBW.out.size))
      clear hb2
      cases hp : eqB n e
      · have HE : Hid ((l.take (k + 1)).any (eqB n) = false) := Lib.hid (by rw [HTK.out, List.any_append, HNO.out]; simp [hp])
        clear hp
        go_wp2_with fail
        go_roundg (N - (k + 1))
        case measure => omega
        case rel => exact ⟨k + 1, by go_num, by omega, HE.out, HB2.out⟩
      · have HE := Lib.hid (HP.out _ W2 (HIX.out hp) HB2.out)
        clear hp
        go_wp2_with fail
        first | exact HE.out | (go_ret; exact HE.out)
    · obtain rfl : N = k := by omega
      have hlt' : ¬ (N : Int) < (N : Int) := by omega
      have HE := Lib.hid (HP.out _ wr (idxP_no (p := eqB n) (by rw [← HN.out, List.take_length] at HNO; exact HNO.out)) HBW.out)
      go_wp2_with fail
      first | exact HE.out | (go_ret; exact HE.out)
set_option maxRecDepth 100000 in
set_option maxHeartbeats 4000000 in
theorem idxGt_any (l : List Ent) (n : List UInt8) (sp : Option Addr) (cap gb : Nat) (hc : l.length ≤ cap) (hl : l.length < 1000000) (w : World) (hs : SrcE w sp l) {cs : List Value} {t : TypeId} (hb : Blk w gb cs t) (hn : cs[0]? = some (.string (str n))) :
    Calls Try.prog 33 #[.slice sp l.length cap, .func (.func 34) #[] #[.pointer (some ⟨gb, 0, none⟩)]] w fun e w' => e = .returned (.int .i64 (idxP (gtB n) l)) ∧ Below w.heap.size w w' := by
  obtain ⟨N, hN⟩ : ∃ N, l.length = N := ⟨_, rfl⟩
  rw [hN] at hc hl ⊢
  have HN := Lib.hid hN; have HC := Lib.hid hc; have HS := Lib.hid hs; have HB := Lib.hid hb; have HNM := Lib.hid hn; have HL := Lib.hid hl
  generalize hPost : (fun (e : Ending) (w' : World) => e = Ending.returned (.int .i64 (idxP (gtB n) l)) ∧ Below w.heap.size w w') = Post
  have HP : Hid (∀ z w', idxP (gtB n) l = z → Below w.heap.size w w' → Post (.returned (.int .i64 z)) w') := Lib.hid fun z w' e h => by rw [← hPost, ← e]; exact ⟨rfl, h⟩
  clear hN hc hs hb hn hl hPost
  go_enter Try.func33, Try.ntmps33
  go_upto_region 6 with fail
  go_loopg [8] N (fun r i wr => ∃ k : Nat, i = .int .i64 (k : Int) ∧ r + k = N ∧ (l.take k).any (gtB n) = false ∧ Below w.heap.size w wr)
  case atStart => exact ⟨0, rfl, by omega, by simp, Below.refl _ _⟩
  case round =>
    obtain ⟨k, rfl, hgk, hno, hbw⟩ := hrel
    have HNO := Lib.hid hno; have HBW := Lib.hid hbw
    clear hno hbw
    have wk1 := IntWalk.i64_in ((k : Int) + 1) (by have := HL.out; omega)
    by_cases hlt : k < N
    · have hlt' : (k : Int) < (N : Int) := by omega
      obtain ⟨e, he⟩ : ∃ e, l[k]? = some e := ⟨_, List.getElem?_eq_getElem (by have := HN.out; omega)⟩
      obtain ⟨g, o, rfl, hg, hr⟩ := (HS.out.grown HBW.out) (by have := HN.out; omega)
      have HR := Lib.hid (hr k e he)
      have HKC : Hid (k < N ∧ N ≤ cap) := Lib.hid ⟨hlt, HC.out⟩
      have hcl : Calls Try.prog 34 #[.agg (ecells e).toArray, .pointer (some ⟨gb, 0, none⟩)] wr _ := enAddIn_any e n gb wr ((HB.out.below HBW.out HB.out.lt).cell HNM.out)
      have HCL := Lib.hid hcl
      have HTK := Lib.hid (take_snocE he)
      have HIX := Lib.hid (fun h => idxP_at (p := gtB n) he HNO.out h)
      clear he hg hr hcl
      go_wp2_with (first | (refine e_val rfl (ex_iaE rfl rfl rfl HKC.out) ?_) | (refine e_val rfl (ex_ldE HR.out rfl rfl) ?_) | fail)
      refine HCL.out.mono ?_
      rintro e2 W2 ⟨rfl, hb2⟩
      have HB2 : Hid (Below w.heap.size w W2) := Lib.hid (HBW.out.trans (hb2.mono HBW.out.size))
      clear hb2
      cases hp : gtB n e
      · have HE : Hid ((l.take (k + 1)).any (gtB n) = false) := Lib.hid (by rw [HTK.out, List.any_append, HNO.out]; simp [hp])
        clear hp
        go_wp2_with fail
        go_roundg (N - (k + 1))
        case measure => omega
        case rel => exact ⟨k + 1, by go_num, by omega, HE.out, HB2.out⟩
      · have HE := Lib.hid (HP.out _ W2 (HIX.out hp) HB2.out)
        clear hp
        go_wp2_with fail
        first | exact HE.out | (go_ret; exact HE.out)
    · obtain rfl : N = k := by omega
      have hlt' : ¬ (N : Int) < (N : Int) := by omega
      have HE := Lib.hid (HP.out _ wr (idxP_no (p := gtB n) (by rw [← HN.out, List.take_length] at HNO; exact HNO.out)) HBW.out)
      go_wp2_with fail
      first | exact HE.out | (go_ret; exact HE.out)
set_option maxRecDepth 100000 in
theorem enPlace_any (l : List Ent) (n : List UInt8) (sp : Option Addr) (cap : Nat) (hc : l.length ≤ cap) (hl : l.length < 1000000) (w : World) (hs : SrcE w sp l) :
    Calls Try.prog 29 #[.slice sp l.length cap, .string (str n)] w fun e w' => e = .returned (.int .i64 (idxP (eqB n) l)) ∧ Below w.heap.size w w' := by
  have hb : Below w.heap.size w (w.alloc (.cells #[.string (str n)] 9)) := (Below.refl _ _).alloc (Nat.le_refl _) _
  have hk : Blk (w.alloc (.cells #[.string (str n)] 9)) w.heap.size [.string (str n)] 9 := Blk.new' _ _ _ _ _ rfl rfl
  have hcl := idxEq_any l n sp cap w.heap.size hc hl _ (hs.grown hb) hk rfl
  have HCL := Lib.hid hcl; have HB := Lib.hid hb
  clear hcl hb hk
  go_enter Try.func29, Try.ntmps29
  go_wp2_with fail
  refine HCL.out.mono ?_
  rintro e W2 ⟨rfl, hb2⟩
  have HE : Hid (Below w.heap.size w W2) := Lib.hid (HB.out.trans (hb2.mono HB.out.size))
  clear hb2
  go_wp2_with fail
  first | exact ⟨rfl, HE.out⟩ | (go_ret; exact ⟨rfl, HE.out⟩)
end Go.Proofs.Ytlkhnmhhcagghaa
