/- The document's disk: operations by their values; a write that comes to its block. -/
import Derived.Test.YtmgagalhpkieoaaGreatDoorM09
namespace Go.Proofs.YtmgagalhpkieoaaGreatDoor
open Go.RowKit

theorem ex_fa92 {ρ : Operand → Value} {o : Oper} {x : Operand} {b j : Nat} {w : World} (hj : j < 2) (ho : o.op = .fieldAddr 173 x j) (hx : ρ x = .pointer (some ⟨b, 0, none⟩)) : (execOp ρ o).run Tryz.prog w = .ok (.value (.pointer (some ⟨b, j, none⟩))) w := by
  unfold execOp
  simp only [ho]
  match j, hj with
  | 0, _ | 1, _ => go_simp
theorem ex_fa40 {ρ : Operand → Value} {o : Oper} {x : Operand} {b j : Nat} {w : World} (hj : j < 9) (ho : o.op = .fieldAddr 49 x j) (hx : ρ x = .pointer (some ⟨b, 0, none⟩)) : (execOp ρ o).run Tryz.prog w = .ok (.value (.pointer (some ⟨b, j, none⟩))) w := by
  unfold execOp
  simp only [ho]
  match j, hj with
  | 0, _ | 1, _ | 2, _ | 3, _ | 4, _ | 5, _ | 6, _ | 7, _ | 8, _ => go_simp
theorem ex_ldT {ρ : Operand → Value} {o : Oper} {x : Operand} {ad : Addr} {v : Value} {w : World} (ho : o.op = .load 9 x) (hx : ρ x = .pointer (some ad)) (hc : w.cell? ad = some v) : (execOp ρ o).run Tryz.prog w = .ok (.value v) w := by
  unfold execOp
  simp only [ho]
  go_simp
theorem ex_ld37 {ρ : Operand → Value} {o : Oper} {x : Operand} {ad : Addr} {v : Value} {w : World} (ho : o.op = .load 46 x) (hx : ρ x = .pointer (some ad)) (hc : w.cell? ad = some v) : (execOp ρ o).run Tryz.prog w = .ok (.value v) w := by
  unfold execOp
  simp only [ho]
  go_simp
theorem ex_ld38 {ρ : Operand → Value} {o : Oper} {x : Operand} {ad : Addr} {v : Value} {w : World} (ho : o.op = .load 47 x) (hx : ρ x = .pointer (some ad)) (hc : w.cell? ad = some v) : (execOp ρ o).run Tryz.prog w = .ok (.value v) w := by
  unfold execOp
  simp only [ho]
  go_simp
theorem bstr_take (l : d_Bs) (n : Nat) (_ : n ≤ l.length) : (bstr l).extract 0 n = bstr (l.take n) := by
  apply ByteArray.ext
  apply Array.toList_inj.1
  unfold bstr
  simp [List.extract]
theorem bstr_drop (l : d_Bs) (n : Nat) (_ : n ≤ l.length) : (bstr l).extract n l.length = bstr (l.drop n) := by
  apply ByteArray.ext
  apply Array.toList_inj.1
  unfold bstr
  simp [List.extract]
  exact List.take_of_length_le (by simp)
theorem ex_stake {ρ : Operand → Value} {o : Oper} {x y : Operand} {l : d_Bs} {n : Nat} {w : World} (ho : o.op = .slice 9 x none (some y) none) (hx : ρ x = .string (bstr l)) (hy : ρ y = .int .i64 (n : Int)) (hn : n ≤ l.length) :
    (execOp ρ o).run Tryz.prog w = .ok (.value (.string (bstr (l.take n)))) w := by
  have hsz := bstr_size l
  rw [← bstr_take l n hn]
  unfold execOp
  simp only [ho]
  go_simp
theorem ex_sdrop {ρ : Operand → Value} {o : Oper} {x y : Operand} {l : d_Bs} {n : Nat} {w : World} (ho : o.op = .slice 9 x (some y) none none) (hx : ρ x = .string (bstr l)) (hy : ρ y = .int .i64 (n : Int)) (hn : n ≤ l.length) :
    (execOp ρ o).run Tryz.prog w = .ok (.value (.string (bstr (l.drop n)))) w := by
  have hsz := bstr_size l
  rw [← bstr_drop l n hn]
  unfold execOp
  simp only [ho]
  go_simp
theorem ex_bld92 {ρ : Operand → Value} {o : Oper} {x y : Operand} {a : Nat} {l : d_Bs} {w : World} (ho : o.op = .build 173 #[(0, x), (1, y)]) (hx : ρ x = .int .u16 (a : Int)) (hy : ρ y = .string (bstr l)) :
    (execOp ρ o).run Tryz.prog w = .ok (.value (.agg (d_pcells (a, l)).toArray)) w := by
  unfold execOp
  simp only [ho]
  unfold d_pcells
  go_simp
theorem ex_one37 {ρ : Operand → Value} {o : Oper} {x : Operand} {p : Nat × d_Bs} {w : World} (ho : o.op = .buildSlice 46 1 #[(0, x)]) (hx : ρ x = .agg (d_pcells p).toArray) :
    (execOp ρ o).run Tryz.prog w = .ok (.value (.slice (some ⟨w.heap.size, 0, none⟩) 1 1)) (w.alloc (.cells (d_pcells p).toArray 173)) := by
  unfold execOp
  simp only [ho]
  unfold d_pcells at *
  go_simp
theorem ex_st37 {ρ : Operand → Value} {o : Oper} {x y : Operand} {b j n cap : Nat} {sp : Option Addr} {w : World} (ho : o.op = .store 46 x y) (hx : ρ x = .pointer (some ⟨b, j, none⟩)) (hy : ρ y = .slice sp n cap) {u : Value} (hc : w.cell? ⟨b, j, none⟩ = some u) (hf : w.frozen? ⟨b, j, none⟩ = false) :
    (execOp ρ o).run Tryz.prog w = .ok .skip (w.setCell ⟨b, j, none⟩ (.slice sp n cap)) := by
  unfold execOp
  simp only [ho]
  go_simp
theorem ex_st38 {ρ : Operand → Value} {o : Oper} {x y : Operand} {b j n cap : Nat} {sp : Option Addr} {w : World} (ho : o.op = .store 47 x y) (hx : ρ x = .pointer (some ⟨b, j, none⟩)) (hy : ρ y = .slice sp n cap) {u : Value} (hc : w.cell? ⟨b, j, none⟩ = some u) (hf : w.frozen? ⟨b, j, none⟩ = false) :
    (execOp ρ o).run Tryz.prog w = .ok .skip (w.setCell ⟨b, j, none⟩ (.slice sp n cap)) := by
  unfold execOp
  simp only [ho]
  go_simp

def rcame (t : Rsk) (a : Nat) (b : d_Bs) (n : Nat) : Rsk := { t with m := others t.m a ++ [(a, b.take n ++ (rblock t a).drop n)], bad := woN t.bad a }
theorem lastOf_mem : ∀ (l : List (Nat × d_Bs)) (r : Option d_Bs) (a : Nat) (b : d_Bs), l.foldl (fun r x => if x.1 = a then some x.2 else r) r = some b → r = some b ∨ ∃ x ∈ l, x.2 = b
  | [], _, _, _, h => .inl h
  | x :: l, r, a, b, h => by
    rcases lastOf_mem l _ a b h with h | ⟨y, hy, e⟩
    · simp only at h
      by_cases hx : x.1 = a
      · rw [if_pos hx] at h
        exact .inr ⟨x, by simp, by simpa using h⟩
      · rw [if_neg hx] at h
        exact .inl h
    · exact .inr ⟨y, by simp [hy], e⟩
theorem rblock_length {t : Rsk} (a : Nat) (h : ∀ x ∈ t.m, x.2.length = 512) : (rblock t a).length = 512 := by
  unfold rblock
  cases hl : lastOf t.m a with
  | none => exact List.length_replicate
  | some b =>
    rcases lastOf_mem _ _ _ _ hl with h1 | ⟨x, hx, rfl⟩
    · cases h1
    · exact h x hx
theorem own_down {w : World} {e B B' k n : Nat} {v : Value} {xs : List Value} (h : w.ownsRow B e k v n xs) (hB : B' ≤ B) : w.ownsRow B' e k v n xs := ⟨h.1, h.2.imp id fun ⟨g, cap, cur, h1, h2, h3⟩ => ⟨g, cap, cur, h1, Nat.le_trans hB h2, h3⟩⟩
theorem came_end {W W2 W6 w : World} {D q a n : Nat} {vm vc vb vs va : Value} {S : Nat → Prop} {t : Rsk} {b bb : d_Bs} (h2 : W.heap.size < W2.heap.size) (h6 : W2.heap.size ≤ W6.heap.size) (hq : q < W.heap.size) (h : RkIn w D q vm vc vb vs va (Ext (Ext S W2 W6) W6 w) { ({ t with m := others t.m a ++ [(a, bb)] } : Rsk) with bad := woN t.bad a }) (hbb : b.take n ++ (rblock t a).drop n = bb) :
    RkAt w D q (Ext S W w) (rcame t a b n) := by
  subst hbb
  refine ⟨vm, vc, vb, vs, va, h.mono (fun k hk => ?_) (fun hh => ?_) (fun k hk => ?_)⟩
  · rcases hk with (hk | hk) | hk
    · exact .inl hk
    · by_cases hl : k < w.heap.size
      · exact .inr ⟨by omega, hl⟩
      · exact absurd (h.lt k (.inl (.inr hk))) hl
    · exact .inr ⟨by omega, hk.2⟩
  · rcases hh with hh | hh
    · exact h.sq (.inl (.inl hh))
    · omega
  · rcases hk with hk | hk
    · exact h.lt k (.inl (.inl hk))
    · exact hk.2
set_option maxRecDepth 100000 in
set_option maxHeartbeats 4000000 in
theorem rcomes_any (D q : Nat) (S : Nat → Prop) (t : Rsk) (a n : Nat) (b : d_Bs) (ha : a < 65536) (hb : b.length = 512) (hn : n ≤ 512) (ht : ∀ x ∈ t.m, x.2.length = 512) (W : World) (h : RkAt W D q S t) (hs : Small t) (hq : q < W.heap.size) :
    Calls Tryz.prog 91 #[.pointer (some ⟨D, 0, none⟩), .agg (d_pcells (a, b)).toArray, .int .i64 (n : Int)] W fun e w' => e = .returned (.tuple #[]) ∧ RkAt w' D q (Ext S W w') (rcame t a b n) ∧ Chg (fun k => k = D) W w' := by
  have HK := Lib.hid h
  have HS := Lib.hid hs
  have HT := Lib.hid ht
  obtain ⟨vm, vc, vb, vs, va, h⟩ := h
  obtain ⟨-, -, c2, c3, c4, c5, -, -, -⟩ := h.c
  have hD := h.blk.lt
  have H := Lib.hid h
  clear h hs ht
  have hbl := rblock_length a HT.out
  have hbox : Blk (W.alloc (.cells (d_pcells (a, b)).toArray 173)) W.heap.size (d_pcells (a, b)) 173 := Blk.new W (d_pcells (a, b)) 173
  have hbelow : Below W.heap.size W (W.alloc (.cells (d_pcells (a, b)).toArray 173)) := (Below.refl _ _).alloc (Nat.le_refl _) _
  have hsz : (W.alloc (.cells (d_pcells (a, b)).toArray 173)).heap.size = W.heap.size + 1 := by simp
  unfold d_pcells at hbox hbelow hsz ⊢
  go_enter Tryz.func91, Tryz.ntmps91
  go_wp2_with fail
  generalize hW1 : W.alloc (.cells #[.int .u16 (a : Int), .string (bstr b)] 173) = W1 at hbox hbelow hsz
  have e1 : W.alloc (.cells #[.int .u16 (a : Int), .string (bstr b)] 173) = W1 := hW1
  clear hW1
  have HB1 := Lib.hid hbelow
  clear hbelow
  have hcb0 : ∀ X, Below W1.heap.size W1 X → X.cell? ⟨W.heap.size, 0, none⟩ = some (.int .u16 (a : Int)) := fun X hx => (hx.cell (p := ⟨W.heap.size, 0, none⟩) (by simp; omega)).trans (hbox.cell rfl)
  have hcb1 : ∀ X, Below W1.heap.size W1 X → X.cell? ⟨W.heap.size, 1, none⟩ = some (.string (bstr b)) := fun X hx => (hx.cell (p := ⟨W.heap.size, 1, none⟩) (by simp; omega)).trans (hbox.cell rfl)
  have HC0 := Lib.hid hcb0
  have HC1 := Lib.hid hcb1
  clear hcb0 hcb1
  refine gS (.take 0 (.take 1 (.take 2 (.take 3 (.take 4 (.take 5 (.take 6 (.take 8 (.step 7 (.take 9 (.take 10 (.take 11 (.nil))))))))))))) (fun X => Below W1.heap.size W1 X) (Below.refl _ _).drew ?_
  refine wpG_take _ (.pointer (some ⟨W.heap.size, 1, none⟩)) rfl (by rfl) (fun X hX => ex_fa92 (by omega) rfl rfl) ?_; try simp only [pS]
  refine wpG_take _ (.string (bstr b)) rfl (by rfl) (fun X hX => ex_ldT rfl rfl (HC1.out X hX)) ?_; try simp only [pS]
  refine wpG_take _ (.int .i64 (n : Int)) rfl (by rfl) (fun X hX => by rfl) ?_; try simp only [pS]
  refine wpG_take _ (.string (bstr (b.take n))) rfl (by rfl) (fun X hX => ex_stake rfl rfl rfl (by omega)) ?_; try simp only [pS]
  refine wpG_take _ (.pointer (some ⟨D, 0, none⟩)) rfl (by rfl) (fun X hX => by rfl) ?_; try simp only [pS]
  refine wpG_take _ (.pointer (some ⟨W.heap.size, 0, none⟩)) rfl (by rfl) (fun X hX => ex_fa92 (by omega) rfl rfl) ?_; try simp only [pS]
  refine wpG_take _ (.int .u16 (a : Int)) rfl (by rfl) (fun X hX => ex_ld41 rfl rfl (HC0.out X hX)) ?_; try simp only [pS]
  refine wpG_take _ (.int .i64 (n : Int)) rfl (by rfl) (fun X hX => by rfl) ?_; try simp only [pS]
  refine wpG_call _ rfl (by rfl) 97 #[.pointer (some ⟨D, 0, none⟩), .int .u16 (a : Int)] (fun _ => by go_simp) (fun u w3 => u = .string (bstr (rblock t a))) ((rblock_any D q S t a ha W1.drew ((HK.out.chg (F := fun _ => False) ((Chg.of_below HB1.out).drew) (fun _ _ h => h))) HS.out).mono fun e w' ⟨h1, h2⟩ => ⟨_, h1, (Below.refl _ W1).drew.trans h2, rfl⟩) ?_
  rintro u W2 hw2 rfl
  refine ⟨_, fun _ h => h, hw2, ?_⟩; try simp only [pS]
  refine wpG_take _ (.string (bstr ((rblock t a).drop n))) rfl (by rfl) (fun X hX => ex_sdrop rfl rfl rfl (by omega)) ?_; try simp only [pS]
  refine wpG_take _ (.string (bstr (b.take n ++ (rblock t a).drop n))) rfl (by rfl) (fun X hX => ex_addS (by simp; omega) rfl rfl rfl) ?_; try simp only [pS]
  refine wpG_take _ (.string (bstr (b.take n ++ (rblock t a).drop n))) rfl (by rfl) (fun X hX => by rfl) ?_; try simp only [pS]
  refine wpG_nil ?_
  have HW2 := Lib.hid hw2
  clear hw2
  have h2 := H.out.chg (F := fun _ => False) ((Chg.of_below HB1.out).trans' (Chg.of_below HW2.out)) (fun _ _ h => h)
  have hs2 : W.heap.size < W2.heap.size := by have := HW2.out.size; omega
  have hbox2 : Blk W2 W.heap.size (d_pcells (a, b)) 173 := hbox.below HW2.out (by omega)
  have H2 := Lib.hid h2
  clear h2 HC0 HC1
  obtain ⟨bb, hbb⟩ : ∃ bb, b.take n ++ (rblock t a).drop n = bb := ⟨_, rfl⟩
  rw [hbb]
  have HBB := Lib.hid hbb
  clear hbb
  have hq2 : q < W2.heap.size := by omega
  have hm2 : t.m.length < 1000000 := HS.out.m
  have hcm : ∀ X, Below W2.heap.size W2 X → X.cell? ⟨D, 2, none⟩ = some vm := fun X hx => (hx.cell (p := ⟨D, 2, none⟩) H2.out.blk.lt).trans H2.out.c.2.2.1
  have HCM := Lib.hid hcm
  clear hcm
  go_wp2_with fail
  refine gS (.take 0 (.take 1 (.take 2 (.take 3 (.take 5 (.take 6 (.take 8 (.take 9 (.take 10 (.take 11 (.fork 4 (.fork 7 (.step 12 (.step 13 (.take 14 (.take 15 (.step 16 (.nil)))))) 12 (.step 7 (.step 13 (.take 14 (.take 15 (.step 16 (.nil))))))) 12 (.step 4 (.step 7 (.step 13 (.take 14 (.take 15 (.step 16 (.nil)))))))))))))))))) (fun X => X.cell? ⟨W.heap.size, 0, none⟩ = some (.int .u16 (a : Int))) (hbox2.cell rfl) ?_
  refine wpG_take _ (.pointer (some ⟨D, 0, none⟩)) rfl (by rfl) (fun X hX => by rfl) ?_; try simp only [pS]
  refine wpG_take _ (.pointer (some ⟨D, 0, none⟩)) rfl (by rfl) (fun X hX => by rfl) ?_; try simp only [pS]
  refine wpG_take _ (.pointer (some ⟨D, 0, none⟩)) rfl (by rfl) (fun X hX => ex_nc rfl rfl) ?_; try simp only [pS]
  refine wpG_take _ (.pointer (some ⟨D, 2, none⟩)) rfl (by rfl) (fun X hX => ex_fa40 (by omega) rfl rfl) ?_; try simp only [pS]
  refine wpG_take _ (.pointer (some ⟨W.heap.size, 0, none⟩)) rfl (by rfl) (fun X hX => ex_fa92 (by omega) rfl rfl) ?_; try simp only [pS]
  refine wpG_take _ (.int .u16 (a : Int)) rfl (by rfl) (fun X hX => ex_ld41 rfl rfl hX) ?_; try simp only [pS]
  refine wpG_take _ (.pointer (some ⟨W.heap.size, 0, none⟩)) rfl (by rfl) (fun X hX => ex_fa92 (by omega) rfl rfl) ?_; try simp only [pS]
  refine wpG_take _ (.int .u16 (a : Int)) rfl (by rfl) (fun X hX => ex_ld41 rfl rfl hX) ?_; try simp only [pS]
  refine wpG_take _ (.string (bstr bb)) rfl (by rfl) (fun X hX => by rfl) ?_; try simp only [pS]
  refine wpG_take _ (.agg (d_pcells (a, bb)).toArray) rfl (by rfl) (fun X hX => ex_bld92 rfl rfl rfl) ?_; try simp only [pS]
  refine wpG_fork (d_wpG_mk _ rfl (by rfl) vm W2.drew (ex_ld37 rfl rfl (HCM.out _ (Below.refl W2.heap.size W2).drew)) (fun X => X.cell? ⟨W.heap.size, 0, none⟩ = some (.int .u16 (a : Int))) ((hbox2.below (Below.refl W2.heap.size W2).drew hs2).cell rfl) (fun _ h => h) ?_) (d_wpG_mk _ rfl (by rfl) (.slice (some ⟨(W2.drew).heap.size, 0, none⟩) 1 1) (W2.drew.alloc (.cells (d_pcells (a, bb)).toArray 173)) (ex_one37 rfl rfl) (fun X => X.cell? ⟨W.heap.size, 0, none⟩ = some (.int .u16 (a : Int))) ((hbox2.below ((Below.refl W2.heap.size W2).drew.alloc (Below.refl W2.heap.size W2).drew.size _) hs2).cell rfl) (fun _ h => h) ?_)
  · (try simp only [pS])
    refine wpG_fork ?_ (d_wpG_mk _ rfl (by rfl) (.slice (some ⟨(W2.drew).heap.size, 0, none⟩) 1 1) (W2.drew.alloc (.cells (d_pcells (a, bb)).toArray 173)) (ex_one37 rfl rfl) (fun X => X.cell? ⟨W.heap.size, 0, none⟩ = some (.int .u16 (a : Int))) ((hbox2.below ((Below.refl W2.heap.size W2).drew.alloc (Below.refl W2.heap.size W2).drew.size _) hs2).cell rfl) (fun _ h => h) ?_)
    · skip
      refine wpG_call _ rfl (by rfl) 92 #[vm, .int .u16 (a : Int)] (fun _ => by go_simp) (fun u w' => OwnP w' W2.drew.heap.size u (others t.m a) ∧ Below W2.drew.heap.size W2.drew w') ((rdrop_any t.m vm a ha hm2 W2.drew (own_ps (owns_chg H2.out.om (Chg.of_below (F := fun _ => False) (Below.refl W2.heap.size W2).drew) (fun _ _ h => h)))).mono fun e w' ⟨v, h1, h2, h3⟩ => ⟨v, h1, ((hbox2.below ((Below.refl W2.heap.size W2).drew.trans (h3.mono (Below.refl W2.heap.size W2).drew.size)) hs2).cell rfl), h2, h3⟩) ?_
      rintro v1 Z1 - ⟨ho1, hz1⟩
      refine ⟨_, fun _ h => h, ((hbox2.below ((Below.refl W2.heap.size W2).drew.trans (hz1.mono (Below.refl W2.heap.size W2).drew.size)) hs2).cell rfl), ?_⟩; try simp only [pS]
      refine d_wpG_mk _ rfl (by rfl) (.slice (some ⟨(Z1).heap.size, 0, none⟩) 1 1) (Z1.alloc (.cells (d_pcells (a, bb)).toArray 173)) (ex_one37 rfl rfl) (fun X => X.cell? ⟨W.heap.size, 0, none⟩ = some (.int .u16 (a : Int))) ((hbox2.below (((Below.refl W2.heap.size W2).drew.trans (hz1.mono (Below.refl W2.heap.size W2).drew.size)).alloc ((Below.refl W2.heap.size W2).drew.trans (hz1.mono (Below.refl W2.heap.size W2).drew.size)).size _) hs2).cell rfl) (fun _ h => h) ?_; try simp only [pS]
      obtain ⟨v9, w5, hr, ⟨sp9, n9, c9, rfl⟩, ⟨u9, hu9⟩, hf9, hb9, hrk, hch⟩ := came_m H2.out hq2 (((Below.refl W2.heap.size W2).drew.trans (hz1.mono (Below.refl W2.heap.size W2).drew.size)).alloc ((Below.refl W2.heap.size W2).drew.trans (hz1.mono (Below.refl W2.heap.size W2).drew.size)).size _) (ho1.alloc (.cells (d_pcells (a, bb)).toArray 173)) bb (Blk.new Z1 (d_pcells (a, bb)) 173) hm2 46
      have hbx := hbox2.chg hch (by have := H.out.blk.lt; omega)
      have hbx5 : Blk w5 W.heap.size (d_pcells (a, b)) 173 := hbox2.below hb9 hs2
      refine d_wpG_mk _ rfl (by rfl) (.slice sp9 n9 c9) w5 (ex_app37 rfl rfl rfl hr) (fun X => X.cell? ⟨W.heap.size, 0, none⟩ = some (.int .u16 (a : Int))) (hbx5.cell rfl) (fun _ h => h) ?_; try simp only [pS]
      refine wpG_take _ (.pointer (some ⟨D, 0, none⟩)) rfl (by rfl) (fun X hX => ex_nc rfl rfl) ?_; try simp only [pS]
      refine wpG_take _ (.pointer (some ⟨D, 2, none⟩)) rfl (by rfl) (fun X hX => ex_fa40 (by omega) rfl rfl) ?_; try simp only [pS]
      refine wpG_st _ rfl (by rfl) (w5.setCell ⟨D, 2, none⟩ (.slice sp9 n9 c9)) (ex_st37 rfl rfl rfl hu9 hf9) (fun X => X.cell? ⟨W.heap.size, 0, none⟩ = some (.int .u16 (a : Int))) (hbx.cell rfl) (hbx.cell rfl) (fun _ h => h) ?_
      refine wpG_nil ?_
      generalize w5.setCell ⟨D, 2, none⟩ (.slice sp9 n9 c9) = W6 at hrk hch hbx ⊢
      clear hr hu9 hf9 hb9 hbx5
      have HRK := Lib.hid hrk
      have HCH := Lib.hid hch
      have HBX := Lib.hid hbx
      have hq6 : q < W6.heap.size := Nat.lt_of_lt_of_le hq2 hch.size
      have hs6 : W.heap.size < W6.heap.size := Nat.lt_of_lt_of_le hs2 hch.size
      have HC6 := Lib.hid (show ∀ X, Below W6.heap.size W6 X → X.cell? ⟨D, 4, none⟩ = some vb from fun X hx => (hx.cell (p := ⟨D, 4, none⟩) HRK.out.blk.lt).trans HRK.out.c.2.2.2.2.1)
      clear hrk hch hbx
      go_wp2_with fail
      refine gS (.take 0 (.take 1 (.take 2 (.take 3 (.take 5 (.take 6 (.step 4 (.step 7 (.take 8 (.take 9 (.step 10 (.nil)))))))))))) (fun X => X.cell? ⟨W.heap.size, 0, none⟩ = some (.int .u16 (a : Int))) (HBX.out.cell rfl) ?_
      refine wpG_take _ (.pointer (some ⟨D, 0, none⟩)) rfl (by rfl) (fun X hX => by rfl) ?_; try simp only [pS]
      refine wpG_take _ (.pointer (some ⟨D, 0, none⟩)) rfl (by rfl) (fun X hX => by rfl) ?_; try simp only [pS]
      refine wpG_take _ (.pointer (some ⟨D, 0, none⟩)) rfl (by rfl) (fun X hX => ex_nc rfl rfl) ?_; try simp only [pS]
      refine wpG_take _ (.pointer (some ⟨D, 4, none⟩)) rfl (by rfl) (fun X hX => ex_fa40 (by omega) rfl rfl) ?_; try simp only [pS]
      refine wpG_take _ (.pointer (some ⟨W.heap.size, 0, none⟩)) rfl (by rfl) (fun X hX => ex_fa92 (by omega) rfl rfl) ?_; try simp only [pS]
      refine wpG_take _ (.int .u16 (a : Int)) rfl (by rfl) (fun X hX => ex_ld41 rfl rfl hX) ?_; try simp only [pS]
      refine d_wpG_mk _ rfl (by rfl) vb W6.drew (ex_ld38 rfl rfl (HC6.out _ (Below.refl W6.heap.size W6).drew)) (fun X => X.cell? ⟨W.heap.size, 0, none⟩ = some (.int .u16 (a : Int))) ((HBX.out.below (Below.refl W6.heap.size W6).drew hs6).cell rfl) (fun _ h => h) ?_; try simp only [pS]
      refine wpG_call _ rfl (by rfl) 93 #[vb, .int .u16 (a : Int)] (fun _ => by go_simp) (fun u w' => OwnN w' W6.heap.size u (woN t.bad a) ∧ Below W6.heap.size W6 w') ((rwithout_any t.bad vb a ha HS.out.b W6.drew (own_ns (owns_chg HRK.out.ob (Chg.of_below (F := fun _ => False) (Below.refl W6.heap.size W6).drew) (fun _ _ h => h)))).mono fun e w' ⟨v, h1, h2, h3⟩ => ⟨v, h1, ((HBX.out.below ((Below.refl W6.heap.size W6).drew.trans h3) hs6).cell rfl), h2, (Below.refl W6.heap.size W6).drew.trans h3⟩) ?_
      rintro v8 Z8 - ⟨ho8, hz8⟩
      refine ⟨_, fun _ h => h, ((HBX.out.below hz8 hs6).cell rfl), ?_⟩; try simp only [pS]
      refine wpG_take _ (.pointer (some ⟨D, 0, none⟩)) rfl (by rfl) (fun X hX => ex_nc rfl rfl) ?_; try simp only [pS]
      refine wpG_take _ (.pointer (some ⟨D, 4, none⟩)) rfl (by rfl) (fun X hX => ex_fa40 (by omega) rfl rfl) ?_; try simp only [pS]
      obtain ⟨⟨sp8, n8, c8, rfl⟩, ⟨u8, hu8⟩, hf8, hrk8, hch8⟩ := came_b HRK.out hq6 hz8 ho8
      have hbx8 := HBX.out.chg hch8 (by have := H.out.blk.lt; omega)
      refine wpG_st _ rfl (by rfl) (Z8.setCell ⟨D, 4, none⟩ (.slice sp8 n8 c8)) (ex_st38 rfl rfl rfl hu8 hf8) (fun X => X.cell? ⟨W.heap.size, 0, none⟩ = some (.int .u16 (a : Int))) (hbx8.cell rfl) (hbx8.cell rfl) (fun _ h => h) ?_
      refine wpG_nil ?_
      go_end0
      have hc6 := ((Chg.of_below (F := fun k => k = D) HB1.out).trans' (Chg.of_below HW2.out)).trans' HCH.out
      exact ⟨rfl, came_end hs2 HCH.out.size hq hrk8 HBB.out, hc6.trans' hch8⟩
    · (try simp only [pS])
      have hone : Blk (W2.drew.alloc (.cells (d_pcells (a, bb)).toArray 173)) W2.heap.size (d_pcells (a, bb)) 173 := Blk.new W2.drew (d_pcells (a, bb)) 173
      have hba : Below W2.heap.size W2 (W2.drew.alloc (.cells (d_pcells (a, bb)).toArray 173)) := ((Below.refl W2.heap.size W2).drew.alloc (Below.refl W2.heap.size W2).drew.size (.cells (d_pcells (a, bb)).toArray 173))
      have hsa : (W2.drew.alloc (.cells (d_pcells (a, bb)).toArray 173)).heap.size = W2.heap.size + 1 := by simp
      refine wpG_call _ rfl (by rfl) 92 #[vm, .int .u16 (a : Int)] (fun _ => by go_simp) (fun u w' => OwnP w' (W2.drew.alloc (.cells (d_pcells (a, bb)).toArray 173)).heap.size u (others t.m a) ∧ Below (W2.drew.alloc (.cells (d_pcells (a, bb)).toArray 173)).heap.size (W2.drew.alloc (.cells (d_pcells (a, bb)).toArray 173)) w') ((rdrop_any t.m vm a ha hm2 (W2.drew.alloc (.cells (d_pcells (a, bb)).toArray 173)) (own_ps (owns_chg H2.out.om (Chg.of_below (F := fun _ => False) hba) (fun _ _ h => h)))).mono fun e w' ⟨v, h1, h2, h3⟩ => ⟨v, h1, ((hbox2.below (hba.trans (h3.mono hba.size)) hs2).cell rfl), h2, h3⟩) ?_
      rintro v1 Z1 - ⟨ho1, hz1⟩
      refine ⟨_, fun _ h => h, ((hbox2.below (hba.trans (hz1.mono hba.size)) hs2).cell rfl), ?_⟩; try simp only [pS]
      obtain ⟨v9, w5, hr, ⟨sp9, n9, c9, rfl⟩, ⟨u9, hu9⟩, hf9, hb9, hrk, hch⟩ := came_m H2.out hq2 (hba.trans (hz1.mono hba.size)) (own_down ho1 hba.size) bb (hone.below hz1 (by omega)) hm2 46
      have hbx := hbox2.chg hch (by have := H.out.blk.lt; omega)
      have hbx5 : Blk w5 W.heap.size (d_pcells (a, b)) 173 := hbox2.below hb9 hs2
      refine d_wpG_mk _ rfl (by rfl) (.slice sp9 n9 c9) w5 (ex_app37 rfl rfl rfl hr) (fun X => X.cell? ⟨W.heap.size, 0, none⟩ = some (.int .u16 (a : Int))) (hbx5.cell rfl) (fun _ h => h) ?_; try simp only [pS]
      refine wpG_take _ (.pointer (some ⟨D, 0, none⟩)) rfl (by rfl) (fun X hX => ex_nc rfl rfl) ?_; try simp only [pS]
      refine wpG_take _ (.pointer (some ⟨D, 2, none⟩)) rfl (by rfl) (fun X hX => ex_fa40 (by omega) rfl rfl) ?_; try simp only [pS]
      refine wpG_st _ rfl (by rfl) (w5.setCell ⟨D, 2, none⟩ (.slice sp9 n9 c9)) (ex_st37 rfl rfl rfl hu9 hf9) (fun X => X.cell? ⟨W.heap.size, 0, none⟩ = some (.int .u16 (a : Int))) (hbx.cell rfl) (hbx.cell rfl) (fun _ h => h) ?_
      refine wpG_nil ?_
      generalize w5.setCell ⟨D, 2, none⟩ (.slice sp9 n9 c9) = W6 at hrk hch hbx ⊢
      clear hr hu9 hf9 hb9 hbx5
      have HRK := Lib.hid hrk
      have HCH := Lib.hid hch
      have HBX := Lib.hid hbx
      have hq6 : q < W6.heap.size := Nat.lt_of_lt_of_le hq2 hch.size
      have hs6 : W.heap.size < W6.heap.size := Nat.lt_of_lt_of_le hs2 hch.size
      have HC6 := Lib.hid (show ∀ X, Below W6.heap.size W6 X → X.cell? ⟨D, 4, none⟩ = some vb from fun X hx => (hx.cell (p := ⟨D, 4, none⟩) HRK.out.blk.lt).trans HRK.out.c.2.2.2.2.1)
      clear hrk hch hbx
      go_wp2_with fail
      refine gS (.take 0 (.take 1 (.take 2 (.take 3 (.take 5 (.take 6 (.step 4 (.step 7 (.take 8 (.take 9 (.step 10 (.nil)))))))))))) (fun X => X.cell? ⟨W.heap.size, 0, none⟩ = some (.int .u16 (a : Int))) (HBX.out.cell rfl) ?_
      refine wpG_take _ (.pointer (some ⟨D, 0, none⟩)) rfl (by rfl) (fun X hX => by rfl) ?_; try simp only [pS]
      refine wpG_take _ (.pointer (some ⟨D, 0, none⟩)) rfl (by rfl) (fun X hX => by rfl) ?_; try simp only [pS]
      refine wpG_take _ (.pointer (some ⟨D, 0, none⟩)) rfl (by rfl) (fun X hX => ex_nc rfl rfl) ?_; try simp only [pS]
      refine wpG_take _ (.pointer (some ⟨D, 4, none⟩)) rfl (by rfl) (fun X hX => ex_fa40 (by omega) rfl rfl) ?_; try simp only [pS]
      refine wpG_take _ (.pointer (some ⟨W.heap.size, 0, none⟩)) rfl (by rfl) (fun X hX => ex_fa92 (by omega) rfl rfl) ?_; try simp only [pS]
      refine wpG_take _ (.int .u16 (a : Int)) rfl (by rfl) (fun X hX => ex_ld41 rfl rfl hX) ?_; try simp only [pS]
      refine d_wpG_mk _ rfl (by rfl) vb W6.drew (ex_ld38 rfl rfl (HC6.out _ (Below.refl W6.heap.size W6).drew)) (fun X => X.cell? ⟨W.heap.size, 0, none⟩ = some (.int .u16 (a : Int))) ((HBX.out.below (Below.refl W6.heap.size W6).drew hs6).cell rfl) (fun _ h => h) ?_; try simp only [pS]
      refine wpG_call _ rfl (by rfl) 93 #[vb, .int .u16 (a : Int)] (fun _ => by go_simp) (fun u w' => OwnN w' W6.heap.size u (woN t.bad a) ∧ Below W6.heap.size W6 w') ((rwithout_any t.bad vb a ha HS.out.b W6.drew (own_ns (owns_chg HRK.out.ob (Chg.of_below (F := fun _ => False) (Below.refl W6.heap.size W6).drew) (fun _ _ h => h)))).mono fun e w' ⟨v, h1, h2, h3⟩ => ⟨v, h1, ((HBX.out.below ((Below.refl W6.heap.size W6).drew.trans h3) hs6).cell rfl), h2, (Below.refl W6.heap.size W6).drew.trans h3⟩) ?_
      rintro v8 Z8 - ⟨ho8, hz8⟩
      refine ⟨_, fun _ h => h, ((HBX.out.below hz8 hs6).cell rfl), ?_⟩; try simp only [pS]
      refine wpG_take _ (.pointer (some ⟨D, 0, none⟩)) rfl (by rfl) (fun X hX => ex_nc rfl rfl) ?_; try simp only [pS]
      refine wpG_take _ (.pointer (some ⟨D, 4, none⟩)) rfl (by rfl) (fun X hX => ex_fa40 (by omega) rfl rfl) ?_; try simp only [pS]
      obtain ⟨⟨sp8, n8, c8, rfl⟩, ⟨u8, hu8⟩, hf8, hrk8, hch8⟩ := came_b HRK.out hq6 hz8 ho8
      have hbx8 := HBX.out.chg hch8 (by have := H.out.blk.lt; omega)
      refine wpG_st _ rfl (by rfl) (Z8.setCell ⟨D, 4, none⟩ (.slice sp8 n8 c8)) (ex_st38 rfl rfl rfl hu8 hf8) (fun X => X.cell? ⟨W.heap.size, 0, none⟩ = some (.int .u16 (a : Int))) (hbx8.cell rfl) (hbx8.cell rfl) (fun _ h => h) ?_
      refine wpG_nil ?_
      go_end0
      have hc6 := ((Chg.of_below (F := fun k => k = D) HB1.out).trans' (Chg.of_below HW2.out)).trans' HCH.out
      exact ⟨rfl, came_end hs2 HCH.out.size hq hrk8 HBB.out, hc6.trans' hch8⟩
  · (try simp only [pS])
    refine d_wpG_mk _ rfl (by rfl) vm (W2.drew.alloc (.cells (d_pcells (a, bb)).toArray 173)) (ex_ld37 rfl rfl (HCM.out _ ((Below.refl W2.heap.size W2).drew.alloc (Below.refl W2.heap.size W2).drew.size (.cells (d_pcells (a, bb)).toArray 173)))) (fun X => X.cell? ⟨W.heap.size, 0, none⟩ = some (.int .u16 (a : Int))) ((hbox2.below ((Below.refl W2.heap.size W2).drew.alloc (Below.refl W2.heap.size W2).drew.size (.cells (d_pcells (a, bb)).toArray 173)) hs2).cell rfl) (fun _ h => h) ?_; try simp only [pS]
    have hone : Blk (W2.drew.alloc (.cells (d_pcells (a, bb)).toArray 173)) W2.heap.size (d_pcells (a, bb)) 173 := Blk.new W2.drew (d_pcells (a, bb)) 173
    have hba : Below W2.heap.size W2 (W2.drew.alloc (.cells (d_pcells (a, bb)).toArray 173)) := ((Below.refl W2.heap.size W2).drew.alloc (Below.refl W2.heap.size W2).drew.size (.cells (d_pcells (a, bb)).toArray 173))
    have hsa : (W2.drew.alloc (.cells (d_pcells (a, bb)).toArray 173)).heap.size = W2.heap.size + 1 := by simp
    refine wpG_call _ rfl (by rfl) 92 #[vm, .int .u16 (a : Int)] (fun _ => by go_simp) (fun u w' => OwnP w' (W2.drew.alloc (.cells (d_pcells (a, bb)).toArray 173)).heap.size u (others t.m a) ∧ Below (W2.drew.alloc (.cells (d_pcells (a, bb)).toArray 173)).heap.size (W2.drew.alloc (.cells (d_pcells (a, bb)).toArray 173)) w') ((rdrop_any t.m vm a ha hm2 (W2.drew.alloc (.cells (d_pcells (a, bb)).toArray 173)) (own_ps (owns_chg H2.out.om (Chg.of_below (F := fun _ => False) hba) (fun _ _ h => h)))).mono fun e w' ⟨v, h1, h2, h3⟩ => ⟨v, h1, ((hbox2.below (hba.trans (h3.mono hba.size)) hs2).cell rfl), h2, h3⟩) ?_
    rintro v1 Z1 - ⟨ho1, hz1⟩
    refine ⟨_, fun _ h => h, ((hbox2.below (hba.trans (hz1.mono hba.size)) hs2).cell rfl), ?_⟩; try simp only [pS]
    obtain ⟨v9, w5, hr, ⟨sp9, n9, c9, rfl⟩, ⟨u9, hu9⟩, hf9, hb9, hrk, hch⟩ := came_m H2.out hq2 (hba.trans (hz1.mono hba.size)) (own_down ho1 hba.size) bb (hone.below hz1 (by omega)) hm2 46
    have hbx := hbox2.chg hch (by have := H.out.blk.lt; omega)
    have hbx5 : Blk w5 W.heap.size (d_pcells (a, b)) 173 := hbox2.below hb9 hs2
    refine d_wpG_mk _ rfl (by rfl) (.slice sp9 n9 c9) w5 (ex_app37 rfl rfl rfl hr) (fun X => X.cell? ⟨W.heap.size, 0, none⟩ = some (.int .u16 (a : Int))) (hbx5.cell rfl) (fun _ h => h) ?_; try simp only [pS]
    refine wpG_take _ (.pointer (some ⟨D, 0, none⟩)) rfl (by rfl) (fun X hX => ex_nc rfl rfl) ?_; try simp only [pS]
    refine wpG_take _ (.pointer (some ⟨D, 2, none⟩)) rfl (by rfl) (fun X hX => ex_fa40 (by omega) rfl rfl) ?_; try simp only [pS]
    refine wpG_st _ rfl (by rfl) (w5.setCell ⟨D, 2, none⟩ (.slice sp9 n9 c9)) (ex_st37 rfl rfl rfl hu9 hf9) (fun X => X.cell? ⟨W.heap.size, 0, none⟩ = some (.int .u16 (a : Int))) (hbx.cell rfl) (hbx.cell rfl) (fun _ h => h) ?_
    refine wpG_nil ?_
    generalize w5.setCell ⟨D, 2, none⟩ (.slice sp9 n9 c9) = W6 at hrk hch hbx ⊢
    clear hr hu9 hf9 hb9 hbx5
    have HRK := Lib.hid hrk
    have HCH := Lib.hid hch
    have HBX := Lib.hid hbx
    have hq6 : q < W6.heap.size := Nat.lt_of_lt_of_le hq2 hch.size
    have hs6 : W.heap.size < W6.heap.size := Nat.lt_of_lt_of_le hs2 hch.size
    have HC6 := Lib.hid (show ∀ X, Below W6.heap.size W6 X → X.cell? ⟨D, 4, none⟩ = some vb from fun X hx => (hx.cell (p := ⟨D, 4, none⟩) HRK.out.blk.lt).trans HRK.out.c.2.2.2.2.1)
    clear hrk hch hbx
    go_wp2_with fail
    refine gS (.take 0 (.take 1 (.take 2 (.take 3 (.take 5 (.take 6 (.step 4 (.step 7 (.take 8 (.take 9 (.step 10 (.nil)))))))))))) (fun X => X.cell? ⟨W.heap.size, 0, none⟩ = some (.int .u16 (a : Int))) (HBX.out.cell rfl) ?_
    refine wpG_take _ (.pointer (some ⟨D, 0, none⟩)) rfl (by rfl) (fun X hX => by rfl) ?_; try simp only [pS]
    refine wpG_take _ (.pointer (some ⟨D, 0, none⟩)) rfl (by rfl) (fun X hX => by rfl) ?_; try simp only [pS]
    refine wpG_take _ (.pointer (some ⟨D, 0, none⟩)) rfl (by rfl) (fun X hX => ex_nc rfl rfl) ?_; try simp only [pS]
    refine wpG_take _ (.pointer (some ⟨D, 4, none⟩)) rfl (by rfl) (fun X hX => ex_fa40 (by omega) rfl rfl) ?_; try simp only [pS]
    refine wpG_take _ (.pointer (some ⟨W.heap.size, 0, none⟩)) rfl (by rfl) (fun X hX => ex_fa92 (by omega) rfl rfl) ?_; try simp only [pS]
    refine wpG_take _ (.int .u16 (a : Int)) rfl (by rfl) (fun X hX => ex_ld41 rfl rfl hX) ?_; try simp only [pS]
    refine d_wpG_mk _ rfl (by rfl) vb W6.drew (ex_ld38 rfl rfl (HC6.out _ (Below.refl W6.heap.size W6).drew)) (fun X => X.cell? ⟨W.heap.size, 0, none⟩ = some (.int .u16 (a : Int))) ((HBX.out.below (Below.refl W6.heap.size W6).drew hs6).cell rfl) (fun _ h => h) ?_; try simp only [pS]
    refine wpG_call _ rfl (by rfl) 93 #[vb, .int .u16 (a : Int)] (fun _ => by go_simp) (fun u w' => OwnN w' W6.heap.size u (woN t.bad a) ∧ Below W6.heap.size W6 w') ((rwithout_any t.bad vb a ha HS.out.b W6.drew (own_ns (owns_chg HRK.out.ob (Chg.of_below (F := fun _ => False) (Below.refl W6.heap.size W6).drew) (fun _ _ h => h)))).mono fun e w' ⟨v, h1, h2, h3⟩ => ⟨v, h1, ((HBX.out.below ((Below.refl W6.heap.size W6).drew.trans h3) hs6).cell rfl), h2, (Below.refl W6.heap.size W6).drew.trans h3⟩) ?_
    rintro v8 Z8 - ⟨ho8, hz8⟩
    refine ⟨_, fun _ h => h, ((HBX.out.below hz8 hs6).cell rfl), ?_⟩; try simp only [pS]
    refine wpG_take _ (.pointer (some ⟨D, 0, none⟩)) rfl (by rfl) (fun X hX => ex_nc rfl rfl) ?_; try simp only [pS]
    refine wpG_take _ (.pointer (some ⟨D, 4, none⟩)) rfl (by rfl) (fun X hX => ex_fa40 (by omega) rfl rfl) ?_; try simp only [pS]
    obtain ⟨⟨sp8, n8, c8, rfl⟩, ⟨u8, hu8⟩, hf8, hrk8, hch8⟩ := came_b HRK.out hq6 hz8 ho8
    have hbx8 := HBX.out.chg hch8 (by have := H.out.blk.lt; omega)
    refine wpG_st _ rfl (by rfl) (Z8.setCell ⟨D, 4, none⟩ (.slice sp8 n8 c8)) (ex_st38 rfl rfl rfl hu8 hf8) (fun X => X.cell? ⟨W.heap.size, 0, none⟩ = some (.int .u16 (a : Int))) (hbx8.cell rfl) (hbx8.cell rfl) (fun _ h => h) ?_
    refine wpG_nil ?_
    go_end0
    have hc6 := ((Chg.of_below (F := fun k => k = D) HB1.out).trans' (Chg.of_below HW2.out)).trans' HCH.out
    exact ⟨rfl, came_end hs2 HCH.out.size hq hrk8 HBB.out, hc6.trans' hch8⟩
end Go.Proofs.YtmgagalhpkieoaaGreatDoor
