/- DirBytes: the document's Put. -/
import Derived.Test.YtlkhnmhhcagghaaEq
namespace Go.Proofs.Ytlkhnmhhcagghaa
open Go.RowKit

attribute [local go_sem] Oper.semAt_some

theorem ownB_push {W0 W : World} {v : Value} {A : List (BitVec 8)} (ho : OwnB W W0.heap.size v A) (hb : Below W0.heap.size W0 W) (hl : A.length < 1000000) (x : BitVec 8) :
    ∃ sp n cap w', (Builtin.append_ #[23, 23] 23 #[v, .slice (some ⟨W.heap.size, 0, none⟩) 1 1]).run Try.prog (W.alloc (.cells #[V8 x] 5)) = .ok (.slice sp n cap) w' ∧ OwnB w' W0.heap.size (.slice sp n cap) (A ++ [x]) ∧ Below W0.heap.size W0 w' := by
  have hb7 : Below W.heap.size W (W.alloc (.cells #[V8 x] 5)) := (Below.refl _ _).alloc (Nat.le_refl _) _
  have hk7 : Blk (W.alloc (.cells #[V8 x] 5)) W.heap.size [V8 x] 5 := Blk.new' _ _ _ _ _ rfl rfl
  have hbw7 : Below W0.heap.size W0 (W.alloc (.cells #[V8 x] 5)) := hb.alloc hb.size _
  obtain ⟨v8, w8, hr8, ho8, hg8⟩ := ownB_one (ho.below hb7 (Nat.le_refl _)) hbw7.size hl x hk7 23
  have hb8 := ownB_bel (ho.below hb7 (Nat.le_refl _)) hbw7 hg8 hbw7.size
  obtain ⟨sp8, cap8, rfl, -⟩ := ho8.form
  exact ⟨sp8, _, cap8, w8, hr8, ho8, hb8⟩
theorem ex_idxS {ρ : Operand → Value} {o : Oper} {x y : Operand} {w : World} {n : List UInt8} {k : Nat} (hk : k < n.length) (ho : o.op = .index 9 x y) (hx : ρ x = .string (str n)) (hy : ρ y = .int .i64 (k : Int)) : (execOp ρ o).run Try.prog w = .ok (.value (V8 ((nb n).getD k 0))) w := by
  have h := idx n k hk w
  have e : (gb n k : Int) = N8 ((nb n).getD k 0) := by
    unfold gb nb N8
    rw [List.getD_eq_getElem?_getD, List.getD_eq_getElem?_getD, List.getElem?_map, List.getElem?_eq_getElem hk]
    rfl
  rw [e] at h
  unfold execOp
  simp only [ho, hx, hy, Sem.run_bind, h, Result.andThen_ok, Sem.run_pure]
theorem areB_at {l : List Ent} (h : areB l = true) {k : Nat} {x : Ent} (hx : l[k]? = some x) : x.n.length ≤ 24 ∧ k < 64 := by
  obtain ⟨hk, rfl⟩ := List.getElem?_eq_some_iff.1 hx
  unfold areB at h
  rw [List.all_eq_true] at h
  have := follB_len (h k (List.mem_range.2 hk))
  rw [List.getD_eq_getElem?_getD, List.getElem?_eq_getElem hk, List.length_take] at this
  exact ⟨this.1, by omega⟩
theorem rowsB_take {l : List Ent} (h : areB l = true) (k : Nat) (hk : k ≤ l.length) : (rowsB (l.take k)).length ≤ k * 28 ∧ k ≤ 64 := by
  have h1 := rowsB_len (l.take k) (fun x hx => by
    obtain ⟨j, hj, rfl⟩ := List.mem_take_iff_getElem.1 hx
    exact (areB_at h (List.getElem?_eq_getElem (by omega))).1)
  rw [List.length_take, Nat.min_eq_left hk] at h1
  refine ⟨h1, ?_⟩
  rcases Nat.lt_or_ge 64 k with h2 | h2
  · have := (areB_at h (k := 64) (List.getElem?_eq_getElem (by omega))).2
    omega
  · exact h2
set_option maxRecDepth 100000 in
set_option maxHeartbeats 16000000 in
theorem renPut_any (l : List Ent) (sp : Option Addr) (cap : Nat) (hc : l.length ≤ cap) (hl : l.length < 100000) (hn : ∀ e ∈ l, e.n.length < 1000000 ∧ e.OK) (w : World) (hs : SrcE w sp l) :
    Calls Try.prog 10 #[.slice sp l.length cap] w (EbPost w (if areB l = true then 0 else 5) (if areB l = true then rowsB l else [])) := by
  have hcl := renAre_any l sp cap hc hl (fun e he => (hn e he).1) w hs
  have HCL := Lib.hid hcl
  obtain ⟨N, hN⟩ : ∃ N, l.length = N := ⟨_, rfl⟩
  rw [hN] at hc hl HCL ⊢
  have HN := Lib.hid hN; have HC := Lib.hid hc; have HS := Lib.hid hs; have HNM := Lib.hid hn; have HL := Lib.hid hl
  generalize hPost : EbPost w (if areB l = true then 0 else 5) (if areB l = true then rowsB l else []) = Post
  have HP : Hid (∀ v w', areB l = true → OwnB w' w.heap.size v (rowsB l) → Below w.heap.size w w' → Post (.returned (.tuple #[v, .int .i64 0])) w') := Lib.hid fun v w' h0 h1 h2 => by rw [← hPost, if_pos h0, if_pos h0]; exact ⟨v, rfl, h1, h2⟩
  have HPE : Hid (∀ w', areB l = false → Below w.heap.size w w' → Post (.returned (.tuple #[.slice none 0 0, .int .i64 5])) w') := Lib.hid fun w' h0 h2 => by rw [← hPost, if_neg (by rw [h0]; simp), if_neg (by rw [h0]; simp)]; exact ⟨_, rfl, World.ownsRow_nil _ _ _ _, h2⟩
  clear hN hc hs hn hl hPost hcl
  go_enter Try.func10, Try.ntmps10
  go_wp2_with fail
  refine HCL.out.mono ?_
  rintro y W1 ⟨rfl, hb1⟩
  have HB1 := Lib.hid hb1
  clear hb1
  cases har : areB l with
  | false =>
    have HQ := Lib.hid (HPE.out W1 har HB1.out)
    clear har
    go_wp2_with fail
    first | exact HQ.out | (go_ret2; exact HQ.out)
  | true =>
    have HAR := Lib.hid har
    clear har
    go_upto_region 6 with fail
    go_loopg [4, 5] N (fun r s i wr => ∃ k : Nat, i = .int .i64 (k : Int) ∧ r + k = N ∧ OwnB wr w.heap.size s (rowsB (l.take k)) ∧ Below w.heap.size w wr)
    case atStart => exact ⟨0, rfl, by omega, World.ownsRow_nil _ _ _ _, HB1.out⟩
    case round =>
      as_aux_lemma =>
        obtain ⟨k, rfl, hgk, hown, hbw⟩ := hrel
        obtain ⟨spo, capo, e4, -⟩ := hown.form
        obtain ⟨no, hno⟩ : ∃ n, (rowsB (l.take k)).length = n := ⟨_, rfl⟩
        rw [hno] at e4
        subst e4
        have HOWN := Lib.hid hown; have HBW := Lib.hid hbw
        have HRL := Lib.hid (rowsB_take HAR.out k (by have := HN.out; omega))
        clear hbw hown hno
        have wk1 := IntWalk.i64_in ((k : Int) + 1) (by have := HL.out; omega)
        by_cases hlt : k < N
        · have hlt' : (k : Int) < (N : Int) := by omega
          obtain ⟨x, he⟩ : ∃ e, l[k]? = some e := ⟨_, List.getElem?_eq_getElem (by have := HN.out; omega)⟩
          obtain ⟨g, o, rfl, hg, hr⟩ := HS.out (by have := HN.out; omega)
          have hrx : ∀ X, Below w.heap.size w X → X.cell? ⟨g, o + k * 3, none⟩ = some (.string (str x.n)) ∧ X.cell? ⟨g, o + k * 3 + 1, none⟩ = some (.int .u16 (x.u : Int)) ∧ X.cell? ⟨g, o + k * 3 + 2, none⟩ = some (.int .u8 (x.k : Int)) := fun X hX => by
            have h := hr k x he
            refine ⟨?_, ?_, ?_⟩
            · rw [hX.cell (p := ⟨g, o + k * 3, none⟩) hg]; exact h 0 _ rfl
            · rw [hX.cell (p := ⟨g, o + k * 3 + 1, none⟩) hg]; exact h 1 _ rfl
            · rw [hX.cell (p := ⟨g, o + k * 3 + 2, none⟩) hg]; exact h 2 _ rfl
          have HRX := Lib.hid hrx
          have HKC : Hid (k < N ∧ N ≤ cap) := Lib.hid ⟨hlt, HC.out⟩
          have HTK : Hid (l.take (k + 1) = l.take k ++ [x]) := Lib.hid (take_snocE he)
          have HX24 : Hid (x.n.length ≤ 24) := Lib.hid (areB_at HAR.out he).1
          have HXOK := Lib.hid (HNM.out x (List.mem_of_getElem? he)).2
          obtain ⟨sp5, n5, cap5, w5, hr5, ho5, hb5⟩ := ownB_push HOWN.out HBW.out (by have := HRL.out; omega) (lenB x)
          have HR5 := Lib.hid hr5; have HO5 := Lib.hid ho5; have HB5 := Lib.hid hb5
          have f0 := (hrx _ HBW.out).1
          have hlw := lenB_w x
          clear he hg hr hrx hr5 ho5 hb5
          go_upto_region 8 with (first | (refine e_val rfl (ex_iaR rfl rfl rfl HKC.out) ?_) | (refine e_val rfl (e_lenS rfl rfl) ?_) | (refine e_val rfl (ex_oneB rfl rfl) ?_) | (at_builtin; refine e_val rfl (ex_appB rfl rfl rfl HR5.out) ?_) | fail)
          clear f0 hlw HR5
          obtain ⟨Q, hQ⟩ : ∃ Q, x.n.length = Q := ⟨_, rfl⟩
          have HQ' := Lib.hid hQ
          go_upto_region 10 with fail
          go_loopg [4, 6] Q (fun r s i wr => ∃ j : Nat, i = .int .i64 (j : Int) ∧ r + j = Q ∧ OwnB wr w.heap.size s (rowsB (l.take k) ++ [lenB x] ++ (nb x.n).take j) ∧ Below w.heap.size w wr)
          case atStart => exact ⟨0, rfl, by omega, by rw [List.take_zero, List.append_nil]; exact HO5.out, HB5.out⟩
          case round =>
            obtain ⟨j, rfl, hgj, hown, hbw⟩ := hrel
            obtain ⟨spi, capi, e4, -⟩ := hown.form
            obtain ⟨ni, hni⟩ : ∃ n, (rowsB (l.take k) ++ [lenB x] ++ (nb x.n).take j).length = n := ⟨_, rfl⟩
            rw [hni] at e4
            subst e4
            have HOI := Lib.hid hown; have HBI := Lib.hid hbw
            have HLI : Hid ((rowsB (l.take k) ++ [lenB x] ++ (nb x.n).take j).length < 900000) := Lib.hid (by
              rw [List.length_append, List.length_append, List.length_take, nb_length]
              have := HRL.out; have := HX24.out; simp; omega)
            clear hbw hown hni hQ
            have wj1 := IntWalk.i64_in ((j : Int) + 1) (by have := HX24.out; have := HQ'.out; omega)
            have f0 := (HRX.out _ HBI.out).1
            by_cases hjl : j < Q
            · have hjl' : (j : Int) < (x.n.length : Int) := by have := HQ'.out; omega
              have hjn : j < x.n.length := by have := HQ'.out; omega
              have HJN := Lib.hid hjn
              obtain ⟨sp6, n6, cap6, w6, hr6, ho6, hb6⟩ := ownB_push HOI.out HBI.out (by have := HLI.out; omega) ((nb x.n).getD j 0)
              have hst : rowsB (l.take k) ++ [lenB x] ++ (nb x.n).take (j + 1) = rowsB (l.take k) ++ [lenB x] ++ (nb x.n).take j ++ [(nb x.n).getD j 0] := by
                have hj2 : j < (nb x.n).length := by rw [nb_length]; exact hjn
                rw [List.take_succ_eq_append_getElem hj2, List.getD_eq_getElem?_getD, List.getElem?_eq_getElem hj2, List.append_assoc _ _ [_]]; rfl
              rw [← hst] at ho6
              have HR6 := Lib.hid hr6; have HO6 := Lib.hid ho6; have HB6 := Lib.hid hb6
              clear hjn hr6 ho6 hb6 hst
              go_wp2_with (first | (refine e_val rfl (ex_iaR rfl rfl rfl HKC.out) ?_) | (refine e_val rfl (e_lenS rfl rfl) ?_) | (refine e_val rfl (ex_idxS HJN.out rfl rfl rfl) ?_) | (refine e_val rfl (ex_oneB rfl rfl) ?_) | (at_builtin; refine e_val rfl (ex_appB rfl rfl rfl HR6.out) ?_) | fail)
              go_roundg (Q - (j + 1))
              case measure => omega
              case rel => exact ⟨j + 1, by go_num, by omega, HO6.out, HB6.out⟩
            · have hjl' : ¬ (j : Int) < (x.n.length : Int) := by have := HQ'.out; omega
              have hall : (nb x.n).take j = nb x.n := List.take_of_length_le (by rw [nb_length]; have := HQ'.out; omega)
              have ho2 := HOI.out
              rw [hall] at ho2
              have HO2 := Lib.hid ho2
              clear hall ho2 hjl
              have f1 := (HRX.out _ HBI.out).2.1
              have wu := (show IntKind.u64.wrap (x.u : Int) = (x.u : Int) by rw [IntKind.wrap_u64]; have := HXOK.out.1; omega)
              go_upto_region 12 with (first | (refine e_val rfl (ex_iaR rfl rfl rfl HKC.out) ?_) | (refine e_val rfl (e_lenS rfl rfl) ?_) | fail)
              clear f0
              go_wp2_with (first | (refine e_val rfl (ex_iaR rfl rfl rfl HKC.out) ?_) | fail)
              refine (wNum_any x.u 2 wr (by omega) (by have := HXOK.out.1; omega)).mono ?_
              rintro y W7 ⟨v7, rfl, ho7, hb7⟩
              obtain ⟨sp7, cap7, rfl, -, -, hs7, hz7, -⟩ := ho7.form
              have hbw7 : Below w.heap.size w W7 := HBI.out.trans (hb7.mono HBI.out.size)
              obtain ⟨v8, w8, hr8, ho8, hg8⟩ := ownB_more (HO2.out.below hb7 (Nat.le_refl _)) hbw7.size (by rw [List.length_append, List.length_append, nb_length, leb_length]; have := HRL.out; have := HX24.out; simp; omega) hs7 hz7 23
              have hb8 := ownB_bel (HO2.out.below hb7 (Nat.le_refl _)) hbw7 hg8 hbw7.size
              obtain ⟨sp8, cap8, e8, -⟩ := ho8.form
              obtain ⟨n8, hn8⟩ : ∃ n, (rowsB (l.take k) ++ [lenB x] ++ nb x.n ++ leb x.u 2).length = n := ⟨_, rfl⟩
              rw [hn8] at e8
              subst e8
              obtain ⟨sp9, n9, cap9, w9, hr9, ho9, hb9⟩ := ownB_push ho8 hb8 (by rw [List.length_append, List.length_append, List.length_append, nb_length, leb_length]; have := HRL.out; have := HX24.out; simp; omega) (kB x)
              have hfin : rowsB (l.take k) ++ [lenB x] ++ nb x.n ++ leb x.u 2 ++ [kB x] = rowsB (l.take (k + 1)) := by rw [HTK.out, rowsB_snoc]; unfold rowB; simp
              rw [hfin] at ho9
              have f2 := (HRX.out _ hb8).2.2
              rw [kB_v x HXOK.out] at hr9
              have HR8 := Lib.hid hr8; have HR9 := Lib.hid hr9; have HO9 := Lib.hid ho9; have HB9 := Lib.hid hb9
              rw [leb_length] at HR8 ⊢
              clear hb7 ho7 hs7 hz7 hbw7 hr8 ho8 hg8 hb8 hn8 hr9 ho9 hb9 hfin f1 wu
              go_upto_region 13 with (first | (at_builtin; refine e_val rfl (ex_appB rfl rfl rfl HR8.out) ?_) | fail)
              clear HR8
              go_wp2_with (first | (refine e_val rfl (ex_iaR rfl rfl rfl HKC.out) ?_) | (refine e_val rfl (ex_oneB rfl rfl) ?_) | (at_builtin; refine e_val rfl (ex_appB rfl rfl rfl HR9.out) ?_) | fail)
              go_roundg (N - (k + 1))
              case measure => omega
              case rel => exact ⟨k + 1, by go_num, by omega, HO9.out, HB9.out⟩
        · obtain rfl : N = k := by omega
          have hlt' : ¬ (N : Int) < (N : Int) := by omega
          have htk : l.take N = l := by rw [← HN.out, List.take_length]
          have HQ := Lib.hid (HP.out (.slice spo no capo) wr HAR.out (by have := HOWN.out; rw [htk] at this; exact this) HBW.out)
          clear htk
          go_wp2_with fail
          first | exact HQ.out | (go_ret2; exact HQ.out)
end Go.Proofs.Ytlkhnmhhcagghaa
