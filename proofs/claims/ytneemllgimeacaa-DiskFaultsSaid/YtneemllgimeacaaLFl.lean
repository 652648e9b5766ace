/- What is lost, astray, rotten, bad, stuck, dead: the law, walked. -/
import Derived.Test.YtneemllgimeacaaFx
import Derived.Deep.DeepCutAuto
namespace Go.Proofs.Ytneemllgimeacaa
open Go.RowKit

structure Ft (w0 w : World) (D Q X : Nat) (S : Nat → Prop) (s : Dsk) : Prop where
  lw : Lw w0.heap.size w0 w D Q S s p0
  cx : Blk w X [.pointer (some ⟨D, 0, none⟩)] 32
  nx : ¬ Fo S Q X
theorem Ft.step {w0 w w' : World} {D Q X : Nat} {S : Nat → Prop} {s s' : Dsk} {p' : Pw} (h : Ft w0 w D Q X S s) (hd : DkAt w' D Q (Ext S w w') s') (hp : PwAt w' Q p') (e : p' = p0) (hc : Chg (Fo S Q) w w') : Ft w0 w' D Q X (Ext S w w') s' := by
  subst e
  exact ⟨h.lw.step hd hp hc, h.cx.chg hc h.nx, fun hf => by rcases fo_ext X hf with h1 | h1; exact h.nx h1; have := h.cx.lt; omega⟩
theorem Ft.stay {w0 w w' : World} {D Q X : Nat} {S : Nat → Prop} {s s' : Dsk} {p' : Pw} (h : Ft w0 w D Q X S s) (hd : DkAt w' D Q S s') (hp : PwAt w' Q p') (e : p' = p0) (hc : Chg (Fo S Q) w w') : Ft w0 w' D Q X S s' := by
  subst e
  exact ⟨h.lw.stay hd hp hc, h.cx.chg hc h.nx, h.nx⟩
theorem Ft.grown {w0 w w' : World} {D Q X : Nat} {S : Nat → Prop} {s : Dsk} (h : Ft w0 w D Q X S s) (hb : Below w.heap.size w w') : Ft w0 w' D Q X S s :=
  ⟨h.lw.grown hb, h.cx.below hb h.cx.lt, h.nx⟩
theorem Ft.same {w0 w w' : World} {D Q X : Nat} {S : Nat → Prop} {s s' : Dsk} (h : Ft w0 w D Q X S s) (hd : DkAt w' D Q S s') (hc : Chg S w w') : Ft w0 w' D Q X S s' :=
  h.stay hd (h.lw.pw.chg hc h.lw.dk.nq) rfl (hc.mono (fun _ h => .inl h))
theorem Ft.hurt {w0 w w' : World} {D Q X : Nat} {S : Nat → Prop} {s s' : Dsk} (h : Ft w0 w D Q X S s) (hd : DkAt w' D Q (Ext S w w') s') (hc : Chg S w w') : Ft w0 w' D Q X (Ext S w w') s' :=
  h.step hd (h.lw.pw.chg hc h.lw.dk.nq) rfl (hc.mono (fun _ h => .inl h))
theorem Ft.c {w0 w : World} {D Q X : Nat} {S : Nat → Prop} {s : Dsk} (h : Ft w0 w D Q X S s) : w.cell? ⟨X, 0, none⟩ = some (.pointer (some ⟨D, 0, none⟩)) := h.cx.cell rfl
set_option maxRecDepth 100000 in
theorem told_any (w0 : World) (D Q X : Nat) (S : Nat → Prop) (s : Dsk) (a : Nat) (w : World) (ha : a < 65536) (h : Ft w0 w D Q X S s) (hcn : s.cache.length < 1000000) :
    Calls Try.prog 35 #[.int .u16 (a : Int), .pointer (some ⟨X, 0, none⟩)] w fun e w' => e = .returned (.string (telS s p0 a)) ∧ Below w.heap.size w w' := by
  have H := Lib.hid h
  have HCN := Lib.hid hcn
  have cX := h.c
  clear h hcn
  by_cases h6 : readE s p0 a = 6
  · have H6 := Lib.hid h6
    clear h6
    go_enter Try.func35, Try.ntmps35
    go_wp2_with (first | (go_at_call 22; refine (read_any D Q S s p0 a ha _ H.out.lw.dk H.out.lw.pw HCN.out).mono ?_; rw [H6.out]; rintro e w' ⟨v, rfl, hv, hb⟩; have HV := Lib.hid hv; have HB := Lib.hid hb; clear hv hb) | fail)
    go_ret
    refine ⟨?_, HB.out⟩
    unfold telS
    rw [if_pos H6.out]
    rfl
  · have H6 := Lib.hid h6
    have hne : (readE s p0 a == 6) = false := by simpa using h6
    obtain ⟨r, hr⟩ : ∃ r, readE s p0 a = r := ⟨_, rfl⟩
    have HR := Lib.hid hr
    rw [hr] at hne
    clear h6 hr
    obtain ⟨t, ht⟩ : ∃ t, readB s p0 a = t := ⟨_, rfl⟩
    have HT := Lib.hid ht
    clear ht
    cases t with
    | none =>
      have hcv : ∀ W : World, (convert 42 9 (.slice none 0 0)).run Try.prog W = .ok (.string (bstr [])) W := fun W => conv_str (l := []) (SrcA.nil W none)
      go_enter Try.func35, Try.ntmps35
      go_wp2_with (first | (go_at_call 22; refine (read_any D Q S s p0 a ha _ H.out.lw.dk H.out.lw.pw HCN.out).mono ?_; rw [HR.out, HT.out]; rintro e w' ⟨v, rfl, hv, hb⟩; obtain rfl := hv; have HB := Lib.hid hb; clear hb) | fail)
      go_ret
      refine ⟨?_, HB.out⟩
      unfold telS
      rw [if_neg H6.out, HT.out]
      rfl
    | some b =>
      go_enter Try.func35, Try.ntmps35
      go_wp2_with (first | (go_at_call 22; refine (read_any D Q S s p0 a ha _ H.out.lw.dk H.out.lw.pw HCN.out).mono ?_; rw [HR.out, HT.out]; rintro e w' ⟨v, rfl, hv, hb⟩; obtain ⟨g, rfl, hbl, hbb, -⟩ := hv; have hcv : (convert 42 9 (.slice (some ⟨g, 0, none⟩) 512 512)).run Try.prog w' = .ok (.string (bstr b)) w' := (by have := conv_str (cap := 512) hbb.srcB; rw [hbl] at this; exact this); have HB := Lib.hid hb; clear hb hbb) | fail)
      go_ret
      refine ⟨?_, HB.out⟩
      unfold telS
      rw [if_neg H6.out, HT.out]
      rfl
theorem ex_one81 {ρ : Operand → Value} {o : Oper} {w : World} (ho : o.op = .buildSlice 42 1 #[(0, .const (.int .u8 1))]) (hx : ρ (.const (.int .u8 1)) = .int .u8 1) :
    (execOp ρ o).run Try.prog w = .ok (.value (.slice (some ⟨w.heap.size, 0, none⟩) 1 1)) (w.alloc (.cells #[.int .u8 1] 5)) := by
  unfold execOp
  simp only [ho]
  go_simp
theorem ex_one82 {ρ : Operand → Value} {o : Oper} {w : World} (ho : o.op = .buildSlice 42 1 #[(0, .const (.int .u8 2))]) (hx : ρ (.const (.int .u8 2)) = .int .u8 2) :
    (execOp ρ o).run Try.prog w = .ok (.value (.slice (some ⟨w.heap.size, 0, none⟩) 1 1)) (w.alloc (.cells #[.int .u8 2] 5)) := by
  unfold execOp
  simp only [ho]
  go_simp
theorem full_slice {w w' : World} {B : Nat} {v : Value} {b : Bs} (ho : OwnB w' B v (full b)) (hb : Below w.heap.size w w') : ∃ sp cap, v = .slice sp 512 cap ∧ SrcA w' sp (full b) ∧ Below w.heap.size w w' := by
  obtain ⟨sp, cap, rfl, _, _, h3, _⟩ := ho.form
  rw [full_length]
  exact ⟨sp, cap, rfl, h3, hb⟩
theorem eq_self (s : ByteArray) : (s.toList == s.toList) = true := by simp
set_option maxRecDepth 100000 in
set_option maxHeartbeats 8000000 in
theorem faults_walk (w : World) : Calls Try.prog 6 #[] w fun e w' => e = .returned (.bool true) ∧ Below w.heap.size w w' := by
  have hA1 := conv_bytes A1 A1_length
  have hA2 := conv_bytes A2 A2_length
  go_enter Try.func6, Try.ntmps6
  go_wp2_with fail
  refine (on_any w).mono ?_
  rintro e w1 ⟨Q, rfl, hQ1, hQ2, hp1, hb1⟩
  have HP1 := Lib.hid hp1
  have HB1 := Lib.hid hb1
  clear hp1 hb1
  go_wp2_with fail
  refine (new_ok 9 Q p0 rfl w1 HP1.out (by omega) (by omega)).mono ?_
  rintro e w2 ⟨D, S, rfl, hd2, hs2, hb2⟩
  have HL2 : Hid (Lw w.heap.size w w2 D Q S (fresh 9) p0) := Lib.hid ⟨hd2, HP1.out.chg (Chg.of_below (F := fun _ => False) hb2) (fun h => h), fun k hk => Nat.le_trans HB1.out.size (hs2 k hk), hQ1, Nat.le_refl _, HB1.out.trans (hb2.mono HB1.out.size)⟩
  clear hd2 hs2 hb2 HP1 HB1
  go_upto_region 4 with fail
  have hFt : Ft w (w2.alloc (.cells #[.pointer (some ⟨D, 0, none⟩)] 32)) D Q w2.heap.size S (fresh 9) :=
    ⟨HL2.out.grown ((Below.refl _ _).alloc (Nat.le_refl _) _), Blk.new w2 [.pointer (some ⟨D, 0, none⟩)] 32, fun hf => by have := HL2.out.fo _ hf; omega⟩
  obtain ⟨X, hX⟩ : ∃ X, w2.heap.size = X := ⟨_, rfl⟩
  rw [hX] at hFt ⊢
  generalize (w2.alloc (.cells #[.pointer (some ⟨D, 0, none⟩)] 32)) = w3 at hFt ⊢
  have HF := Lib.hid hFt
  clear hFt hX HL2
  go_cut [3, 4, 5] (fun a b c wx => a = .string (bstr A1) ∧ b = .string (bstr A2) ∧ c = .string (bstr (full [])) ∧ Below w3.heap.size w3 wx)
  case first =>
    refine wp_region_sched (.fork 0 (.fork 1 (.take 2 (.step 3 (.step 4 (.take 5 (.step 6 (.take 7 (.take 8 (.take 9 (.take 10 (.nil)))))))))) 3 (.step 1 (.take 2 (.step 4 (.take 5 (.step 6 (.take 7 (.take 8 (.take 9 (.take 10 (.nil))))))))))) 3 (.step 0 (.step 1 (.take 2 (.step 4 (.take 5 (.step 6 (.take 7 (.take 8 (.take 9 (.take 10 (.nil)))))))))))) (by kernel_rfl) (by kernel_rfl) (fun d _ _ _ _ h => by cases d <;> exact h) (fun _ => True) trivial ?_
    refine wpG_fork (wpG_mk _ rfl (by rfl) (.slice (some ⟨(w3.drew).heap.size, 0, none⟩) 1 1) (w3.drew.alloc (.cells #[.int .u8 1] 5)) (ex_one81 rfl rfl) (fun _ => True) trivial (fun _ h => h) ?_) (wpG_mk _ rfl (by rfl) (.slice (some ⟨(w3.drew).heap.size, 0, none⟩) 1 1) (w3.drew.alloc (.cells #[.int .u8 2] 5)) (ex_one82 rfl rfl) (fun _ => True) trivial (fun _ h => h) ?_)
    · (try simp only [Act.put, List.setIfInBounds_toArray, List.set_cons_zero, List.set_cons_succ])
      refine wpG_fork ?_ (wpG_mk _ rfl (by rfl) (.slice (some ⟨((w3.drew.alloc (.cells #[.int .u8 1] 5))).heap.size, 0, none⟩) 1 1) ((w3.drew.alloc (.cells #[.int .u8 1] 5)).alloc (.cells #[.int .u8 2] 5)) (ex_one82 rfl rfl) (fun _ => True) trivial (fun _ h => h) ?_)
      · refine wpG_call _ rfl (by rfl) 34 #[.slice (some ⟨(w3.drew).heap.size, 0, none⟩) 1 1] (fun _ => by go_simp) (fun u W' => ∃ sp cap, u = .slice sp 512 cap ∧ SrcA W' sp A1 ∧ Below ((w3.drew.alloc (.cells #[.int .u8 1] 5))).heap.size ((w3.drew.alloc (.cells #[.int .u8 1] 5))) W') ((full_any [1#8] _ 1 1 rfl (by omega) _ (src_one (w3.drew) 1#8 1 (by decide))).mono fun e W' ⟨v, e1, ho, hb⟩ => ⟨v, e1, (by first | trivial | exact SrcA.grown trivial hb | exact ⟨SrcA.grown trivial hb, SrcA.grown trivial hb⟩), full_slice ho hb⟩) ?_
        rintro u v1 - ⟨sp1, cap1, rfl, hs1, hw1⟩
        refine ⟨(fun X => SrcA X sp1 A1), (fun _ _ => trivial), hs1, ?_⟩
        (try simp only [Act.put, List.setIfInBounds_toArray, List.set_cons_zero, List.set_cons_succ])
        refine wpG_take _ (.string (bstr A1)) rfl (by rfl) (fun X hX => ex_cv rfl rfl (full_length _) hX) ?_
        (try simp only [Act.put, List.setIfInBounds_toArray, List.set_cons_zero, List.set_cons_succ])
        refine wpG_mk _ rfl (by rfl) (.slice (some ⟨(v1).heap.size, 0, none⟩) 1 1) (v1.alloc (.cells #[.int .u8 2] 5)) (ex_one82 rfl rfl) (fun X => SrcA X sp1 A1) (hs1.grown ((Below.refl _ _).alloc (Nat.le_refl _) _)) (fun _ h => h) ?_
        (try simp only [Act.put, List.setIfInBounds_toArray, List.set_cons_zero, List.set_cons_succ])
        refine wpG_call _ rfl (by rfl) 34 #[.slice (some ⟨(v1).heap.size, 0, none⟩) 1 1] (fun _ => by go_simp) (fun u W' => ∃ sp cap, u = .slice sp 512 cap ∧ SrcA W' sp A2 ∧ Below ((v1.alloc (.cells #[.int .u8 2] 5))).heap.size ((v1.alloc (.cells #[.int .u8 2] 5))) W') ((full_any [2#8] _ 1 1 rfl (by omega) _ (src_one (v1) 2#8 2 (by decide))).mono fun e W' ⟨v, e1, ho, hb⟩ => ⟨v, e1, (by first | trivial | exact SrcA.grown (hs1.grown ((Below.refl _ _).alloc (Nat.le_refl _) _)) hb | exact ⟨SrcA.grown (hs1.grown ((Below.refl _ _).alloc (Nat.le_refl _) _)) hb, SrcA.grown trivial hb⟩), full_slice ho hb⟩) ?_
        rintro u v2 - ⟨sp2, cap2, rfl, hs2, hw2⟩
        refine ⟨(fun X => SrcA X sp1 A1 ∧ SrcA X sp2 A2), (fun _ h => h.1), ⟨((hs1.grown ((Below.refl _ _).alloc (Nat.le_refl _) _)).grown hw2), hs2⟩, ?_⟩
        (try simp only [Act.put, List.setIfInBounds_toArray, List.set_cons_zero, List.set_cons_succ])
        refine wpG_take _ (.string (bstr A2)) rfl (by rfl) (fun X hX => ex_cv rfl rfl (full_length _) hX.2) ?_
        (try simp only [Act.put, List.setIfInBounds_toArray, List.set_cons_zero, List.set_cons_succ])
        refine wpG_call _ rfl (by rfl) 34 #[.slice none 0 0] (fun _ => by go_simp) (fun u W' => ∃ sp cap, u = .slice sp 512 cap ∧ SrcA W' sp (full []) ∧ Below (v2).heap.size (v2) W') ((full_any [] none 0 0 rfl (by omega) _ (SrcA.nil _ _)).mono fun e W' ⟨v, e1, ho, hb⟩ => ⟨v, e1, (by first | trivial | exact SrcA.grown trivial hb | exact ⟨SrcA.grown ((hs1.grown ((Below.refl _ _).alloc (Nat.le_refl _) _)).grown hw2) hb, SrcA.grown hs2 hb⟩), full_slice ho hb⟩) ?_
        rintro u v3 - ⟨sp3, cap3, rfl, hs3, hw3⟩
        refine ⟨(fun X => SrcA X sp1 A1 ∧ SrcA X sp2 A2 ∧ SrcA X sp3 (full [])), (fun _ h => ⟨h.1, h.2.1⟩), ⟨(((hs1.grown ((Below.refl _ _).alloc (Nat.le_refl _) _)).grown hw2).grown hw3), (hs2.grown hw3), hs3⟩, ?_⟩
        (try simp only [Act.put, List.setIfInBounds_toArray, List.set_cons_zero, List.set_cons_succ])
        refine wpG_take _ (.string (bstr (full []))) rfl (by rfl) (fun X hX => ex_cv rfl rfl (full_length _) hX.2.2) ?_
        (try simp only [Act.put, List.setIfInBounds_toArray, List.set_cons_zero, List.set_cons_succ])
        refine wpG_take _ (.string (bstr A1)) rfl (by rfl) (fun X hX => by rfl) ?_
        (try simp only [Act.put, List.setIfInBounds_toArray, List.set_cons_zero, List.set_cons_succ])
        refine wpG_take _ (.string (bstr A2)) rfl (by rfl) (fun X hX => by rfl) ?_
        (try simp only [Act.put, List.setIfInBounds_toArray, List.set_cons_zero, List.set_cons_succ])
        refine wpG_take _ (.string (bstr (full []))) rfl (by rfl) (fun X hX => by rfl) ?_
        (try simp only [Act.put, List.setIfInBounds_toArray, List.set_cons_zero, List.set_cons_succ])
        refine wpG_nil ?_
        go_wp2_with fail
        go_meet
        case rel =>
          exact ⟨rfl, rfl, rfl, ((((((Below.refl w3.heap.size w3).drew.alloc (Below.refl w3.heap.size w3).drew.size _).trans (hw1.mono ((Below.refl w3.heap.size w3).drew.alloc (Below.refl w3.heap.size w3).drew.size _).size)).alloc (((Below.refl w3.heap.size w3).drew.alloc (Below.refl w3.heap.size w3).drew.size _).trans (hw1.mono ((Below.refl w3.heap.size w3).drew.alloc (Below.refl w3.heap.size w3).drew.size _).size)).size _).trans (hw2.mono ((((Below.refl w3.heap.size w3).drew.alloc (Below.refl w3.heap.size w3).drew.size _).trans (hw1.mono ((Below.refl w3.heap.size w3).drew.alloc (Below.refl w3.heap.size w3).drew.size _).size)).alloc (((Below.refl w3.heap.size w3).drew.alloc (Below.refl w3.heap.size w3).drew.size _).trans (hw1.mono ((Below.refl w3.heap.size w3).drew.alloc (Below.refl w3.heap.size w3).drew.size _).size)).size _).size)).trans (hw3.mono (((((Below.refl w3.heap.size w3).drew.alloc (Below.refl w3.heap.size w3).drew.size _).trans (hw1.mono ((Below.refl w3.heap.size w3).drew.alloc (Below.refl w3.heap.size w3).drew.size _).size)).alloc (((Below.refl w3.heap.size w3).drew.alloc (Below.refl w3.heap.size w3).drew.size _).trans (hw1.mono ((Below.refl w3.heap.size w3).drew.alloc (Below.refl w3.heap.size w3).drew.size _).size)).size _).trans (hw2.mono ((((Below.refl w3.heap.size w3).drew.alloc (Below.refl w3.heap.size w3).drew.size _).trans (hw1.mono ((Below.refl w3.heap.size w3).drew.alloc (Below.refl w3.heap.size w3).drew.size _).size)).alloc (((Below.refl w3.heap.size w3).drew.alloc (Below.refl w3.heap.size w3).drew.size _).trans (hw1.mono ((Below.refl w3.heap.size w3).drew.alloc (Below.refl w3.heap.size w3).drew.size _).size)).size _).size)).size))⟩
      · (try simp only [Act.put, List.setIfInBounds_toArray, List.set_cons_zero, List.set_cons_succ])
        refine wpG_call _ rfl (by rfl) 34 #[.slice (some ⟨(w3.drew).heap.size, 0, none⟩) 1 1] (fun _ => by go_simp) (fun u W' => ∃ sp cap, u = .slice sp 512 cap ∧ SrcA W' sp A1 ∧ Below (((w3.drew.alloc (.cells #[.int .u8 1] 5)).alloc (.cells #[.int .u8 2] 5))).heap.size (((w3.drew.alloc (.cells #[.int .u8 1] 5)).alloc (.cells #[.int .u8 2] 5))) W') ((full_any [1#8] _ 1 1 rfl (by omega) _ ((src_one (w3.drew) 1#8 1 (by decide)).grown (by first | exact (Below.refl _ _).alloc (Nat.le_refl _) _ | exact hw3 | exact ((Below.refl _ _).alloc (Nat.le_refl _) _).trans (hw3.mono (by simp))))).mono fun e W' ⟨v, e1, ho, hb⟩ => ⟨v, e1, (by first | trivial | exact SrcA.grown trivial hb | exact ⟨SrcA.grown trivial hb, SrcA.grown trivial hb⟩), full_slice ho hb⟩) ?_
        rintro u v4 - ⟨sp4, cap4, rfl, hs4, hw4⟩
        refine ⟨(fun X => SrcA X sp4 A1), (fun _ _ => trivial), hs4, ?_⟩
        (try simp only [Act.put, List.setIfInBounds_toArray, List.set_cons_zero, List.set_cons_succ])
        refine wpG_take _ (.string (bstr A1)) rfl (by rfl) (fun X hX => ex_cv rfl rfl (full_length _) hX) ?_
        (try simp only [Act.put, List.setIfInBounds_toArray, List.set_cons_zero, List.set_cons_succ])
        refine wpG_call _ rfl (by rfl) 34 #[.slice (some ⟨((w3.drew.alloc (.cells #[.int .u8 1] 5))).heap.size, 0, none⟩) 1 1] (fun _ => by go_simp) (fun u W' => ∃ sp cap, u = .slice sp 512 cap ∧ SrcA W' sp A2 ∧ Below (v4).heap.size (v4) W') ((full_any [2#8] _ 1 1 rfl (by omega) _ ((src_one ((w3.drew.alloc (.cells #[.int .u8 1] 5))) 2#8 2 (by decide)).grown (by first | exact (Below.refl _ _).alloc (Nat.le_refl _) _ | exact hw4 | exact ((Below.refl _ _).alloc (Nat.le_refl _) _).trans (hw4.mono (by simp))))).mono fun e W' ⟨v, e1, ho, hb⟩ => ⟨v, e1, (by first | trivial | exact SrcA.grown hs4 hb | exact ⟨SrcA.grown hs4 hb, SrcA.grown trivial hb⟩), full_slice ho hb⟩) ?_
        rintro u v5 - ⟨sp5, cap5, rfl, hs5, hw5⟩
        refine ⟨(fun X => SrcA X sp4 A1 ∧ SrcA X sp5 A2), (fun _ h => h.1), ⟨(hs4.grown hw5), hs5⟩, ?_⟩
        (try simp only [Act.put, List.setIfInBounds_toArray, List.set_cons_zero, List.set_cons_succ])
        refine wpG_take _ (.string (bstr A2)) rfl (by rfl) (fun X hX => ex_cv rfl rfl (full_length _) hX.2) ?_
        (try simp only [Act.put, List.setIfInBounds_toArray, List.set_cons_zero, List.set_cons_succ])
        refine wpG_call _ rfl (by rfl) 34 #[.slice none 0 0] (fun _ => by go_simp) (fun u W' => ∃ sp cap, u = .slice sp 512 cap ∧ SrcA W' sp (full []) ∧ Below (v5).heap.size (v5) W') ((full_any [] none 0 0 rfl (by omega) _ (SrcA.nil _ _)).mono fun e W' ⟨v, e1, ho, hb⟩ => ⟨v, e1, (by first | trivial | exact SrcA.grown trivial hb | exact ⟨SrcA.grown (hs4.grown hw5) hb, SrcA.grown hs5 hb⟩), full_slice ho hb⟩) ?_
        rintro u v6 - ⟨sp6, cap6, rfl, hs6, hw6⟩
        refine ⟨(fun X => SrcA X sp4 A1 ∧ SrcA X sp5 A2 ∧ SrcA X sp6 (full [])), (fun _ h => ⟨h.1, h.2.1⟩), ⟨((hs4.grown hw5).grown hw6), (hs5.grown hw6), hs6⟩, ?_⟩
        (try simp only [Act.put, List.setIfInBounds_toArray, List.set_cons_zero, List.set_cons_succ])
        refine wpG_take _ (.string (bstr (full []))) rfl (by rfl) (fun X hX => ex_cv rfl rfl (full_length _) hX.2.2) ?_
        (try simp only [Act.put, List.setIfInBounds_toArray, List.set_cons_zero, List.set_cons_succ])
        refine wpG_take _ (.string (bstr A1)) rfl (by rfl) (fun X hX => by rfl) ?_
        (try simp only [Act.put, List.setIfInBounds_toArray, List.set_cons_zero, List.set_cons_succ])
        refine wpG_take _ (.string (bstr A2)) rfl (by rfl) (fun X hX => by rfl) ?_
        (try simp only [Act.put, List.setIfInBounds_toArray, List.set_cons_zero, List.set_cons_succ])
        refine wpG_take _ (.string (bstr (full []))) rfl (by rfl) (fun X hX => by rfl) ?_
        (try simp only [Act.put, List.setIfInBounds_toArray, List.set_cons_zero, List.set_cons_succ])
        refine wpG_nil ?_
        go_wp2_with fail
        go_meet
        case rel =>
          exact ⟨rfl, rfl, rfl, ((((((Below.refl w3.heap.size w3).drew.alloc (Below.refl w3.heap.size w3).drew.size _).alloc ((Below.refl w3.heap.size w3).drew.alloc (Below.refl w3.heap.size w3).drew.size _).size _).trans (hw4.mono (((Below.refl w3.heap.size w3).drew.alloc (Below.refl w3.heap.size w3).drew.size _).alloc ((Below.refl w3.heap.size w3).drew.alloc (Below.refl w3.heap.size w3).drew.size _).size _).size)).trans (hw5.mono ((((Below.refl w3.heap.size w3).drew.alloc (Below.refl w3.heap.size w3).drew.size _).alloc ((Below.refl w3.heap.size w3).drew.alloc (Below.refl w3.heap.size w3).drew.size _).size _).trans (hw4.mono (((Below.refl w3.heap.size w3).drew.alloc (Below.refl w3.heap.size w3).drew.size _).alloc ((Below.refl w3.heap.size w3).drew.alloc (Below.refl w3.heap.size w3).drew.size _).size _).size)).size)).trans (hw6.mono (((((Below.refl w3.heap.size w3).drew.alloc (Below.refl w3.heap.size w3).drew.size _).alloc ((Below.refl w3.heap.size w3).drew.alloc (Below.refl w3.heap.size w3).drew.size _).size _).trans (hw4.mono (((Below.refl w3.heap.size w3).drew.alloc (Below.refl w3.heap.size w3).drew.size _).alloc ((Below.refl w3.heap.size w3).drew.alloc (Below.refl w3.heap.size w3).drew.size _).size _).size)).trans (hw5.mono ((((Below.refl w3.heap.size w3).drew.alloc (Below.refl w3.heap.size w3).drew.size _).alloc ((Below.refl w3.heap.size w3).drew.alloc (Below.refl w3.heap.size w3).drew.size _).size _).trans (hw4.mono (((Below.refl w3.heap.size w3).drew.alloc (Below.refl w3.heap.size w3).drew.size _).alloc ((Below.refl w3.heap.size w3).drew.alloc (Below.refl w3.heap.size w3).drew.size _).size _).size)).size)).size))⟩
    · (try simp only [Act.put, List.setIfInBounds_toArray, List.set_cons_zero, List.set_cons_succ])
      refine wpG_mk _ rfl (by rfl) (.slice (some ⟨((w3.drew.alloc (.cells #[.int .u8 2] 5))).heap.size, 0, none⟩) 1 1) ((w3.drew.alloc (.cells #[.int .u8 2] 5)).alloc (.cells #[.int .u8 1] 5)) (ex_one81 rfl rfl) (fun _ => True) trivial (fun _ h => h) ?_
      (try simp only [Act.put, List.setIfInBounds_toArray, List.set_cons_zero, List.set_cons_succ])
      refine wpG_call _ rfl (by rfl) 34 #[.slice (some ⟨((w3.drew.alloc (.cells #[.int .u8 2] 5))).heap.size, 0, none⟩) 1 1] (fun _ => by go_simp) (fun u W' => ∃ sp cap, u = .slice sp 512 cap ∧ SrcA W' sp A1 ∧ Below (((w3.drew.alloc (.cells #[.int .u8 2] 5)).alloc (.cells #[.int .u8 1] 5))).heap.size (((w3.drew.alloc (.cells #[.int .u8 2] 5)).alloc (.cells #[.int .u8 1] 5))) W') ((full_any [1#8] _ 1 1 rfl (by omega) _ (src_one ((w3.drew.alloc (.cells #[.int .u8 2] 5))) 1#8 1 (by decide))).mono fun e W' ⟨v, e1, ho, hb⟩ => ⟨v, e1, (by first | trivial | exact SrcA.grown trivial hb | exact ⟨SrcA.grown trivial hb, SrcA.grown trivial hb⟩), full_slice ho hb⟩) ?_
      rintro u v7 - ⟨sp7, cap7, rfl, hs7, hw7⟩
      refine ⟨(fun X => SrcA X sp7 A1), (fun _ _ => trivial), hs7, ?_⟩
      (try simp only [Act.put, List.setIfInBounds_toArray, List.set_cons_zero, List.set_cons_succ])
      refine wpG_take _ (.string (bstr A1)) rfl (by rfl) (fun X hX => ex_cv rfl rfl (full_length _) hX) ?_
      (try simp only [Act.put, List.setIfInBounds_toArray, List.set_cons_zero, List.set_cons_succ])
      refine wpG_call _ rfl (by rfl) 34 #[.slice (some ⟨(w3.drew).heap.size, 0, none⟩) 1 1] (fun _ => by go_simp) (fun u W' => ∃ sp cap, u = .slice sp 512 cap ∧ SrcA W' sp A2 ∧ Below (v7).heap.size (v7) W') ((full_any [2#8] _ 1 1 rfl (by omega) _ ((src_one (w3.drew) 2#8 2 (by decide)).grown (by first | exact (Below.refl _ _).alloc (Nat.le_refl _) _ | exact hw7 | exact ((Below.refl _ _).alloc (Nat.le_refl _) _).trans (hw7.mono (by simp))))).mono fun e W' ⟨v, e1, ho, hb⟩ => ⟨v, e1, (by first | trivial | exact SrcA.grown hs7 hb | exact ⟨SrcA.grown hs7 hb, SrcA.grown trivial hb⟩), full_slice ho hb⟩) ?_
      rintro u v8 - ⟨sp8, cap8, rfl, hs8, hw8⟩
      refine ⟨(fun X => SrcA X sp7 A1 ∧ SrcA X sp8 A2), (fun _ h => h.1), ⟨(hs7.grown hw8), hs8⟩, ?_⟩
      (try simp only [Act.put, List.setIfInBounds_toArray, List.set_cons_zero, List.set_cons_succ])
      refine wpG_take _ (.string (bstr A2)) rfl (by rfl) (fun X hX => ex_cv rfl rfl (full_length _) hX.2) ?_
      (try simp only [Act.put, List.setIfInBounds_toArray, List.set_cons_zero, List.set_cons_succ])
      refine wpG_call _ rfl (by rfl) 34 #[.slice none 0 0] (fun _ => by go_simp) (fun u W' => ∃ sp cap, u = .slice sp 512 cap ∧ SrcA W' sp (full []) ∧ Below (v8).heap.size (v8) W') ((full_any [] none 0 0 rfl (by omega) _ (SrcA.nil _ _)).mono fun e W' ⟨v, e1, ho, hb⟩ => ⟨v, e1, (by first | trivial | exact SrcA.grown trivial hb | exact ⟨SrcA.grown (hs7.grown hw8) hb, SrcA.grown hs8 hb⟩), full_slice ho hb⟩) ?_
      rintro u v9 - ⟨sp9, cap9, rfl, hs9, hw9⟩
      refine ⟨(fun X => SrcA X sp7 A1 ∧ SrcA X sp8 A2 ∧ SrcA X sp9 (full [])), (fun _ h => ⟨h.1, h.2.1⟩), ⟨((hs7.grown hw8).grown hw9), (hs8.grown hw9), hs9⟩, ?_⟩
      (try simp only [Act.put, List.setIfInBounds_toArray, List.set_cons_zero, List.set_cons_succ])
      refine wpG_take _ (.string (bstr (full []))) rfl (by rfl) (fun X hX => ex_cv rfl rfl (full_length _) hX.2.2) ?_
      (try simp only [Act.put, List.setIfInBounds_toArray, List.set_cons_zero, List.set_cons_succ])
      refine wpG_take _ (.string (bstr A1)) rfl (by rfl) (fun X hX => by rfl) ?_
      (try simp only [Act.put, List.setIfInBounds_toArray, List.set_cons_zero, List.set_cons_succ])
      refine wpG_take _ (.string (bstr A2)) rfl (by rfl) (fun X hX => by rfl) ?_
      (try simp only [Act.put, List.setIfInBounds_toArray, List.set_cons_zero, List.set_cons_succ])
      refine wpG_take _ (.string (bstr (full []))) rfl (by rfl) (fun X hX => by rfl) ?_
      (try simp only [Act.put, List.setIfInBounds_toArray, List.set_cons_zero, List.set_cons_succ])
      refine wpG_nil ?_
      go_wp2_with fail
      go_meet
      case rel =>
        exact ⟨rfl, rfl, rfl, ((((((Below.refl w3.heap.size w3).drew.alloc (Below.refl w3.heap.size w3).drew.size _).alloc ((Below.refl w3.heap.size w3).drew.alloc (Below.refl w3.heap.size w3).drew.size _).size _).trans (hw7.mono (((Below.refl w3.heap.size w3).drew.alloc (Below.refl w3.heap.size w3).drew.size _).alloc ((Below.refl w3.heap.size w3).drew.alloc (Below.refl w3.heap.size w3).drew.size _).size _).size)).trans (hw8.mono ((((Below.refl w3.heap.size w3).drew.alloc (Below.refl w3.heap.size w3).drew.size _).alloc ((Below.refl w3.heap.size w3).drew.alloc (Below.refl w3.heap.size w3).drew.size _).size _).trans (hw7.mono (((Below.refl w3.heap.size w3).drew.alloc (Below.refl w3.heap.size w3).drew.size _).alloc ((Below.refl w3.heap.size w3).drew.alloc (Below.refl w3.heap.size w3).drew.size _).size _).size)).size)).trans (hw9.mono (((((Below.refl w3.heap.size w3).drew.alloc (Below.refl w3.heap.size w3).drew.size _).alloc ((Below.refl w3.heap.size w3).drew.alloc (Below.refl w3.heap.size w3).drew.size _).size _).trans (hw7.mono (((Below.refl w3.heap.size w3).drew.alloc (Below.refl w3.heap.size w3).drew.size _).alloc ((Below.refl w3.heap.size w3).drew.alloc (Below.refl w3.heap.size w3).drew.size _).size _).size)).trans (hw8.mono ((((Below.refl w3.heap.size w3).drew.alloc (Below.refl w3.heap.size w3).drew.size _).alloc ((Below.refl w3.heap.size w3).drew.alloc (Below.refl w3.heap.size w3).drew.size _).size _).trans (hw7.mono (((Below.refl w3.heap.size w3).drew.alloc (Below.refl w3.heap.size w3).drew.size _).alloc ((Below.refl w3.heap.size w3).drew.alloc (Below.refl w3.heap.size w3).drew.size _).size _).size)).size)).size))⟩
  case rest =>
    rw [full_nil] at hcut
    obtain ⟨rfl, rfl, rfl, hb⟩ := hcut
    have HF0 := Lib.hid (HF.out.grown hb)
    have c0 := HF0.out.c
    clear hb HF
    go_wp2_with fail
    refine (lose_any D Q S (fresh 9) _ HF0.out.lw.dk).mono ?_
    rintro e q1 ⟨rfl, hd, hc⟩
    have HF1 : Hid (Ft w q1 D Q X S ({ fresh 9 with lose := true })) := Lib.hid (HF0.out.same hd hc)
    have c1 := HF1.out.c
    clear HF0 c0
    clear hd hc
    go_wp2_with fail
    refine (astray_any D Q S ({ fresh 9 with lose := true }) 5 (by omega) _ HF1.out.lw.dk).mono ?_
    rintro e q2 ⟨rfl, hd, hc⟩
    have HF2 : Hid (Ft w q2 D Q X S (g2)) := Lib.hid (HF1.out.same hd hc)
    have c2 := HF2.out.c
    clear HF1 c1
    clear hd hc
    go_wp2_with fail
    refine (write_any D Q S g2 p0 3 A1 _ 512 _ (by omega) A1_length _ (bytes_src A1 _) (HF2.out.grown (bytes_below _ _)).lw.dk (HF2.out.grown (bytes_below _ _)).lw.pw (by simp [g2])).mono ?_
    intro e q3 h
    have h : Wrote D Q S (wrote g2 p0 3 A1) _ e q3 := h
    rw [g3_is] at h
    obtain ⟨rfl, hd, hp, hc⟩ := h
    have HF3 : Hid (Ft w q3 D Q X (Ext S (Lib.bytesWorld q2 5 (bstr A1)) q3) (g3)) := Lib.hid ((HF2.out.grown (bytes_below _ _)).step hd hp rfl hc)
    generalize (Ext S (Lib.bytesWorld q2 5 (bstr A1)) q3) = S3 at HF3
    have c3 := HF3.out.c
    clear HF2 c2
    clear hd hp hc
    go_wp2_with fail
    refine (told_any w D Q X S3 g3 3 _ (by omega) HF3.out (by simp [g3])).mono ?_
    rintro e q4 ⟨he, hb⟩
    rw [t3] at he
    subst he
    have HF4 : Hid (Ft w q4 D Q X S3 (g3)) := Lib.hid (HF3.out.grown hb)
    have c4 := HF4.out.c
    clear HF3 c3
    clear hb
    go_wp2_with fail
    refine (write_any D Q S3 g3 p0 4 A2 _ 512 _ (by omega) A2_length _ (bytes_src A2 _) (HF4.out.grown (bytes_below _ _)).lw.dk (HF4.out.grown (bytes_below _ _)).lw.pw (by simp [g3])).mono ?_
    intro e q5 h
    have h : Wrote D Q S3 (wrote g3 p0 4 A2) _ e q5 := h
    rw [g4_is] at h
    obtain ⟨rfl, hd, hp, hc⟩ := h
    have HF5 : Hid (Ft w q5 D Q X (Ext S3 (Lib.bytesWorld q4 5 (bstr A2)) q5) (g4)) := Lib.hid ((HF4.out.grown (bytes_below _ _)).step hd hp rfl hc)
    generalize (Ext S3 (Lib.bytesWorld q4 5 (bstr A2)) q5) = S5 at HF5
    have c5 := HF5.out.c
    clear HF4 c4
    clear hd hp hc
    go_wp2_with fail
    refine (told_any w D Q X S5 g4 4 _ (by omega) HF5.out (by simp [g4])).mono ?_
    rintro e q6 ⟨he, hb⟩
    rw [t4] at he
    subst he
    have HF6 : Hid (Ft w q6 D Q X S5 (g4)) := Lib.hid (HF5.out.grown hb)
    have c6 := HF6.out.c
    clear HF5 c5
    clear hb
    go_wp2_with fail
    refine (told_any w D Q X S5 g4 5 _ (by omega) HF6.out (by simp [g4])).mono ?_
    rintro e q7 ⟨he, hb⟩
    rw [t45] at he
    subst he
    have HF7 : Hid (Ft w q7 D Q X S5 (g4)) := Lib.hid (HF6.out.grown hb)
    have c7 := HF7.out.c
    clear HF6 c6
    clear hb
    go_wp2_with fail
    refine (write_any D Q S5 g4 p0 3 A1 _ 512 _ (by omega) A1_length _ (bytes_src A1 _) (HF7.out.grown (bytes_below _ _)).lw.dk (HF7.out.grown (bytes_below _ _)).lw.pw (by simp [g4])).mono ?_
    intro e q8 h
    have h : Wrote D Q S5 (wrote g4 p0 3 A1) _ e q8 := h
    rw [g5_is] at h
    obtain ⟨rfl, hd, hp, hc⟩ := h
    have HF8 : Hid (Ft w q8 D Q X (Ext S5 (Lib.bytesWorld q7 5 (bstr A1)) q8) (g5)) := Lib.hid ((HF7.out.grown (bytes_below _ _)).step hd hp rfl hc)
    generalize (Ext S5 (Lib.bytesWorld q7 5 (bstr A1)) q8) = S8 at HF8
    have c8 := HF8.out.c
    clear HF7 c7
    clear hd hp hc
    go_wp2_with fail
    refine (told_any w D Q X S8 g5 3 _ (by omega) HF8.out (by simp [g5])).mono ?_
    rintro e q9 ⟨he, hb⟩
    rw [t5] at he
    subst he
    have HF9 : Hid (Ft w q9 D Q X S8 (g5)) := Lib.hid (HF8.out.grown hb)
    have c9 := HF9.out.c
    clear HF8 c8
    clear hb
    go_wp2_with fail
    refine (flush_any D Q S8 g5 p0 _ HF9.out.lw.dk HF9.out.lw.pw (by simp [g5])).mono ?_
    intro e q10 h
    have h : Did D Q S8 (flushed g5 p0) _ e q10 := h
    rw [g6_is] at h
    obtain ⟨rfl, hd, hp, hc⟩ := h
    have HF10 : Hid (Ft w q10 D Q X S8 (g6)) := Lib.hid (HF9.out.stay hd hp rfl hc)
    have c10 := HF10.out.c
    clear HF9 c9
    clear hd hp hc
    go_wp2_with fail
    refine (rot_any D Q S8 g6 3 A2 _ 512 _ _ (by omega) A2_length (bytes_src A2 _) (HF10.out.grown (bytes_below _ _)).lw.dk (HF10.out.grown (bytes_below _ _)).lw.pw.blk.lt (by simp [g6])).mono ?_
    intro e q11 h
    have h : Hurt D Q S8 (ailed g6 3 512 (rotK A2)) _ e q11 := h
    rw [g7_is] at h
    obtain ⟨rfl, hd, hc⟩ := h
    have HF11 : Hid (Ft w q11 D Q X (Ext S8 (Lib.bytesWorld q10 5 (bstr A2)) q11) (g7)) := Lib.hid ((HF10.out.grown (bytes_below _ _)).hurt hd hc)
    generalize (Ext S8 (Lib.bytesWorld q10 5 (bstr A2)) q11) = S11 at HF11
    have c11 := HF11.out.c
    clear HF10 c10
    clear hd hc
    go_wp2_with fail
    refine (told_any w D Q X S11 g7 3 _ (by omega) HF11.out (by simp [g7])).mono ?_
    rintro e q12 ⟨he, hb⟩
    rw [t7] at he
    subst he
    have HF12 : Hid (Ft w q12 D Q X S11 (g7)) := Lib.hid (HF11.out.grown hb)
    have c12 := HF12.out.c
    clear HF11 c11
    clear hb
    go_wp2_with fail
    refine (bad_any D Q S11 g7 3 _ (by omega) HF12.out.lw.dk HF12.out.lw.pw.blk.lt (by simp [g7])).mono ?_
    intro e q13 h
    have h : Hurt D Q S11 (ailed g7 3 512 badF) _ e q13 := h
    rw [g8_is] at h
    obtain ⟨rfl, hd, hc⟩ := h
    have HF13 : Hid (Ft w q13 D Q X (Ext S11 q12 q13) (g8)) := Lib.hid (HF12.out.hurt hd hc)
    generalize (Ext S11 q12 q13) = S13 at HF13
    have c13 := HF13.out.c
    clear HF12 c12
    clear hd hc
    go_wp2_with fail
    refine (told_any w D Q X S13 g8 3 _ (by omega) HF13.out (by simp [g8])).mono ?_
    rintro e q14 ⟨he, hb⟩
    rw [t8] at he
    subst he
    have HF14 : Hid (Ft w q14 D Q X S13 (g8)) := Lib.hid (HF13.out.grown hb)
    have c14 := HF14.out.c
    clear HF13 c13
    clear hb
    go_wp2_with fail
    refine (write_any D Q S13 g8 p0 3 A1 _ 512 _ (by omega) A1_length _ (bytes_src A1 _) (HF14.out.grown (bytes_below _ _)).lw.dk (HF14.out.grown (bytes_below _ _)).lw.pw (by simp [g8])).mono ?_
    intro e q15 h
    have h : Wrote D Q S13 (wrote g8 p0 3 A1) _ e q15 := h
    rw [g9_is] at h
    obtain ⟨rfl, hd, hp, hc⟩ := h
    have HF15 : Hid (Ft w q15 D Q X (Ext S13 (Lib.bytesWorld q14 5 (bstr A1)) q15) (g9)) := Lib.hid ((HF14.out.grown (bytes_below _ _)).step hd hp rfl hc)
    generalize (Ext S13 (Lib.bytesWorld q14 5 (bstr A1)) q15) = S15 at HF15
    have c15 := HF15.out.c
    clear HF14 c14
    clear hd hp hc
    go_wp2_with fail
    refine (told_any w D Q X S15 g9 3 _ (by omega) HF15.out (by simp [g9])).mono ?_
    rintro e q16 ⟨he, hb⟩
    rw [t9] at he
    subst he
    have HF16 : Hid (Ft w q16 D Q X S15 (g9)) := Lib.hid (HF15.out.grown hb)
    have c16 := HF16.out.c
    clear HF15 c15
    clear hb
    go_wp2_with fail
    refine (crash_any D Q S15 g9 [] none 0 0 _ HF16.out.lw.dk (by simp [g9]) ⟨fun z hz => by simp at hz, fun h => by simp at h⟩ rfl (Nat.le_refl _) (Nat.zero_le _) (fun a e => by cases e)).mono ?_
    rintro e q17 ⟨rfl, hd, hc⟩
    rw [g10_is] at hd
    have HF17 : Hid (Ft w q17 D Q X S15 (g8)) := Lib.hid (HF16.out.same hd hc)
    have c17 := HF17.out.c
    clear HF16 c16
    clear hd hc
    go_wp2_with fail
    refine (told_any w D Q X S15 g8 3 _ (by omega) HF17.out (by simp [g8])).mono ?_
    rintro e q18 ⟨he, hb⟩
    rw [t8] at he
    subst he
    have HF18 : Hid (Ft w q18 D Q X S15 (g8)) := Lib.hid (HF17.out.grown hb)
    have c18 := HF18.out.c
    clear HF17 c17
    clear hb
    go_wp2_with fail
    refine (write_any D Q S15 g8 p0 3 A1 _ 512 _ (by omega) A1_length _ (bytes_src A1 _) (HF18.out.grown (bytes_below _ _)).lw.dk (HF18.out.grown (bytes_below _ _)).lw.pw (by simp [g8])).mono ?_
    intro e q19 h
    have h : Wrote D Q S15 (wrote g8 p0 3 A1) _ e q19 := h
    rw [g9_is] at h
    obtain ⟨rfl, hd, hp, hc⟩ := h
    have HF19 : Hid (Ft w q19 D Q X (Ext S15 (Lib.bytesWorld q18 5 (bstr A1)) q19) (g9)) := Lib.hid ((HF18.out.grown (bytes_below _ _)).step hd hp rfl hc)
    generalize (Ext S15 (Lib.bytesWorld q18 5 (bstr A1)) q19) = S19 at HF19
    have c19 := HF19.out.c
    clear HF18 c18
    clear hd hp hc
    go_wp2_with fail
    refine (flush_any D Q S19 g9 p0 _ HF19.out.lw.dk HF19.out.lw.pw (by simp [g9])).mono ?_
    intro e q20 h
    have h : Did D Q S19 (flushed g9 p0) _ e q20 := h
    rw [g12_is] at h
    obtain ⟨rfl, hd, hp, hc⟩ := h
    have HF20 : Hid (Ft w q20 D Q X S19 (g12)) := Lib.hid (HF19.out.stay hd hp rfl hc)
    have c20 := HF20.out.c
    clear HF19 c19
    clear hd hp hc
    go_wp2_with fail
    refine (told_any w D Q X S19 g12 3 _ (by omega) HF20.out (by simp [g12])).mono ?_
    rintro e q21 ⟨he, hb⟩
    rw [t12] at he
    subst he
    have HF21 : Hid (Ft w q21 D Q X S19 (g12)) := Lib.hid (HF20.out.grown hb)
    have c21 := HF21.out.c
    clear HF20 c20
    clear hb
    go_wp2_with fail
    refine (stick_any D Q S19 g12 3 _ (by omega) HF21.out.lw.dk HF21.out.lw.pw.blk.lt (by simp [g12])).mono ?_
    intro e q22 h
    have h : Hurt D Q S19 (ailed g12 3 512 stickF) _ e q22 := h
    rw [g13_is] at h
    obtain ⟨rfl, hd, hc⟩ := h
    have HF22 : Hid (Ft w q22 D Q X (Ext S19 q21 q22) (g13)) := Lib.hid (HF21.out.hurt hd hc)
    generalize (Ext S19 q21 q22) = S22 at HF22
    have c22 := HF22.out.c
    clear HF21 c21
    clear hd hc
    go_wp2_with fail
    refine (write_any D Q S22 g13 p0 3 A2 _ 512 _ (by omega) A2_length _ (bytes_src A2 _) (HF22.out.grown (bytes_below _ _)).lw.dk (HF22.out.grown (bytes_below _ _)).lw.pw (by simp [g13])).mono ?_
    intro e q23 h
    have h : Wrote D Q S22 (wrote g13 p0 3 A2) _ e q23 := h
    rw [g14_is] at h
    obtain ⟨rfl, hd, hp, hc⟩ := h
    have HF23 : Hid (Ft w q23 D Q X (Ext S22 (Lib.bytesWorld q22 5 (bstr A2)) q23) (g14)) := Lib.hid ((HF22.out.grown (bytes_below _ _)).step hd hp rfl hc)
    generalize (Ext S22 (Lib.bytesWorld q22 5 (bstr A2)) q23) = S23 at HF23
    have c23 := HF23.out.c
    clear HF22 c22
    clear hd hp hc
    go_wp2_with fail
    refine (flush_any D Q S23 g14 p0 _ HF23.out.lw.dk HF23.out.lw.pw (by simp [g14])).mono ?_
    intro e q24 h
    have h : Did D Q S23 (flushed g14 p0) _ e q24 := h
    rw [g15_is] at h
    obtain ⟨rfl, hd, hp, hc⟩ := h
    have HF24 : Hid (Ft w q24 D Q X S23 (g15)) := Lib.hid (HF23.out.stay hd hp rfl hc)
    have c24 := HF24.out.c
    clear HF23 c23
    clear hd hp hc
    go_wp2_with fail
    refine (told_any w D Q X S23 g15 3 _ (by omega) HF24.out (by simp [g15])).mono ?_
    rintro e q25 ⟨he, hb⟩
    rw [t15] at he
    subst he
    have HF25 : Hid (Ft w q25 D Q X S23 (g15)) := Lib.hid (HF24.out.grown hb)
    have c25 := HF25.out.c
    clear HF24 c24
    clear hb
    go_wp2_with fail
    refine (astray_any D Q S23 (g15) 100 (by omega) _ HF25.out.lw.dk).mono ?_
    rintro e q26 ⟨rfl, hd, hc⟩
    have HF26 : Hid (Ft w q26 D Q X S23 (g16)) := Lib.hid (HF25.out.same hd hc)
    have c26 := HF26.out.c
    clear HF25 c25
    clear hd hc
    go_wp2_with fail
    refine (write_any D Q S23 g16 p0 6 A1 _ 512 _ (by omega) A1_length _ (bytes_src A1 _) (HF26.out.grown (bytes_below _ _)).lw.dk (HF26.out.grown (bytes_below _ _)).lw.pw (by simp [g16])).mono ?_
    intro e q27 h
    have h : Wrote D Q S23 (wrote g16 p0 6 A1) _ e q27 := h
    rw [g17_is] at h
    obtain ⟨rfl, hd, hp, hc⟩ := h
    have HF27 : Hid (Ft w q27 D Q X (Ext S23 (Lib.bytesWorld q26 5 (bstr A1)) q27) (g15)) := Lib.hid ((HF26.out.grown (bytes_below _ _)).step hd hp rfl hc)
    generalize (Ext S23 (Lib.bytesWorld q26 5 (bstr A1)) q27) = S27 at HF27
    have c27 := HF27.out.c
    clear HF26 c26
    clear hd hp hc
    go_wp2_with fail
    refine (told_any w D Q X S27 g15 6 _ (by omega) HF27.out (by simp [g15])).mono ?_
    rintro e q28 ⟨he, hb⟩
    rw [t17] at he
    subst he
    have HF28 : Hid (Ft w q28 D Q X S27 (g15)) := Lib.hid (HF27.out.grown hb)
    have c28 := HF28.out.c
    clear HF27 c27
    clear hb
    go_wp2_with fail
    refine (rot_any D Q S27 g15 9 A1 _ 512 _ _ (by omega) A1_length (bytes_src A1 _) (HF28.out.grown (bytes_below _ _)).lw.dk (HF28.out.grown (bytes_below _ _)).lw.pw.blk.lt (by simp [g15])).mono ?_
    intro e q29 h
    have h : Hurt D Q S27 (ailed g15 9 512 (rotK A1)) _ e q29 := h
    rw [g18_is] at h
    obtain ⟨rfl, hd, hc⟩ := h
    have HF29 : Hid (Ft w q29 D Q X (Ext S27 (Lib.bytesWorld q28 5 (bstr A1)) q29) (g15)) := Lib.hid ((HF28.out.grown (bytes_below _ _)).hurt hd hc)
    generalize (Ext S27 (Lib.bytesWorld q28 5 (bstr A1)) q29) = S29 at HF29
    have c29 := HF29.out.c
    clear HF28 c28
    clear hd hc
    go_wp2_with fail
    refine (rot_any D Q S29 g15 1 [] none 0 0 _ (by omega) rfl (SrcA.nil _ _) HF29.out.lw.dk HF29.out.lw.pw.blk.lt (by simp [g15])).mono ?_
    intro e q30 h
    have h : Hurt D Q S29 (ailed g15 1 0 (rotK [])) _ e q30 := h
    rw [g19_is] at h
    obtain ⟨rfl, hd, hc⟩ := h
    have HF30 : Hid (Ft w q30 D Q X (Ext S29 q29 q30) (g15)) := Lib.hid (HF29.out.hurt hd hc)
    generalize (Ext S29 q29 q30) = S30 at HF30
    have c30 := HF30.out.c
    clear HF29 c29
    clear hd hc
    go_wp2_with fail
    refine (die_any D Q S30 g15 _ HF30.out.lw.dk).mono ?_
    rintro e q31 ⟨rfl, hd, hc⟩
    have HF31 : Hid (Ft w q31 D Q X S30 (g20)) := Lib.hid (HF30.out.same hd hc)
    have c31 := HF31.out.c
    clear HF30 c30
    clear hd hc
    go_wp2_with fail
    refine (read_any D Q S30 g20 p0 5 (by omega) _ HF31.out.lw.dk HF31.out.lw.pw (by simp [g20])).mono ?_
    rintro e q32 ⟨v, he, hv, hb⟩
    rw [r20.1] at he
    rw [r20.2.1] at hv
    obtain rfl := hv
    subst he
    have HF32 : Hid (Ft w q32 D Q X S30 (g20)) := Lib.hid (HF31.out.grown hb)
    have c32 := HF32.out.c
    clear HF31 c31
    clear hb
    go_wp2_with fail
    refine (look_any D Q S30 g20 5 (by omega) _ HF32.out.lw.dk (by simp [g20])).mono ?_
    rintro e q33 ⟨v, he, hv, hb⟩
    rw [r20.2.2] at he hv
    obtain rfl := hv
    subst he
    have HF33 : Hid (Ft w q33 D Q X S30 (g20)) := Lib.hid (HF32.out.grown hb)
    have c33 := HF33.out.c
    clear HF32 c32
    clear hb
    go_wp2_with fail
    refine (write_any D Q S30 g20 p0 5 A1 _ 512 _ (by omega) A1_length _ (bytes_src A1 _) (HF33.out.grown (bytes_below _ _)).lw.dk (HF33.out.grown (bytes_below _ _)).lw.pw (by simp [g20])).mono ?_
    intro e q34 h
    have h : Wrote D Q S30 (wrote g20 p0 5 A1) _ e q34 := h
    rw [g21_is] at h
    obtain ⟨rfl, hd, hp, hc⟩ := h
    have HF34 : Hid (Ft w q34 D Q X (Ext S30 (Lib.bytesWorld q33 5 (bstr A1)) q34) (g20)) := Lib.hid ((HF33.out.grown (bytes_below _ _)).step hd hp rfl hc)
    generalize (Ext S30 (Lib.bytesWorld q33 5 (bstr A1)) q34) = S34 at HF34
    have c34 := HF34.out.c
    clear HF33 c33
    clear hd hp hc
    go_wp2_with fail
    refine (flush_any D Q S34 g20 p0 _ HF34.out.lw.dk HF34.out.lw.pw (by simp [g20])).mono ?_
    intro e q35 h
    have h : Did D Q S34 (flushed g20 p0) _ e q35 := h
    rw [g22_is] at h
    obtain ⟨rfl, hd, hp, hc⟩ := h
    have HF35 : Hid (Ft w q35 D Q X S34 (g20)) := Lib.hid (HF34.out.stay hd hp rfl hc)
    have c35 := HF35.out.c
    clear HF34 c34
    clear hd hp hc
    go_wp2_with fail
    refine (dead_any D Q S34 g20 _ HF35.out.lw.dk).mono ?_
    rintro e q36 ⟨rfl, rfl⟩
    go_wp2_with fail
    refine (wakes_any _).mono ?_
    rintro e qz ⟨rfl, hb⟩
    have HZ := Lib.hid (HF35.out.lw.bel.trans (hb.mono HF35.out.lw.bel.size))
    clear hb
    go_wp2_with fail
    go_ret
    exact ⟨rfl, HZ.out⟩
end Go.Proofs.Ytneemllgimeacaa
