/- A walk goes below a pointer. -/
import Derived.Test.YtjgjohdeeeoeoaaGreatDoorM16
namespace Go.Proofs.YtjgjohdeeeoeoaaGreatDoor
open Go.RowKit
attribute [local go_sem] Oper.semAt_some
theorem wp_joinP (R : Nat → World → Prop) {c : Code} {Q : Exit → Act → World → Prop} {a : Act} {w : World} (h : ∃ A : Nat → Act, c.wp Tryz.prog (fun e a w => e = .normal ∧ ∃ g, a = A g ∧ R g w) a w ∧ ∀ g W, R g W → Q .normal (A g) W) : c.wp Tryz.prog Q a w := by
  obtain ⟨A, h1, h2⟩ := h
  exact Code.wp_mono (fun e a w ⟨e1, g, e2, e3⟩ => by subst e1 e2; exact h2 g _ e3) h1
section
variable {ops : Array Oper} {Q : Exit → Act → World → Prop} {S : World → Prop}
theorem wpG_row {i : Nat} {r : Tr} {a : Act} {w : World} (o : Oper) (hi : ops.toList[i]? = some o) (hw : Region.wanted o (yielded ops a.tmps) = true) (ty : TypeId) (x y : Operand) (ho : o.op = .store ty x y) (b : Nat) (cells : Array Value) (hx : a.eval x = .pointer (some ⟨b, 0, none⟩)) (hy : a.eval y = .agg cells) {t : TypeId} {old : List Value} (hg : Blk w b old t) (hs : (Tryz.prog.info? ty).map (·.size) = some cells.size) (hl : old.length = cells.size) (h1 : cells.all (·.oneCell') = true)
    (S' : World → Prop) (hSS : ∀ w, S' w → S w) (hS : S' (w.setRow b cells)) (h : wpG Tryz.prog ops Q r S' (a.put o.dst undef) (w.setRow b cells)) : wpG Tryz.prog ops Q (.step i r) S a w := by
  refine wpG_bare o hi hw fun K hK => ?_
  exact wpList_store_row rfl ty x y ho b cells hx hy t old.toArray hg hs (by simpa using hl) h1 (wpG_list_nil (hK _ _ S' hSS hS h))
end
theorem fill_oneL {pl : Array (Nat × Nat)} {cells : Array Value} {i off size : Nat} {v : Value} (hp : pl[i]? = some (off, size)) (hv : v.cells.size = size) (hle : off + size ≤ cells.size) (rest : List (Nat × Value)) :
    Instr.fill (pl[·]?) cells ((i, v) :: rest) = Instr.fill (pl[·]?) (splice cells.toList off v.cells.toList).toArray rest := by
  have hf := fold_splice off v.cells.toList cells (by simp; omega)
  conv => lhs; unfold Instr.fill
  simp only [hp]
  rw [if_neg (by simp [hv]; omega)]
  congr 1
  rw [← hf]
  rw [← Array.foldl_toList]
  simp
theorem builtL (parts : List (Nat × Value)) : Tryz.prog.built 110 parts = Instr.fill ((#[(0, 1), (1, 41)] : Array (Nat × Nat))[·]?) (lcells (0, zeroP)).toArray parts := by kernel_rfl
section
variable {ρ : Operand → Value} {o : Oper} {x y : Operand} {w : World}
theorem ex_alN (ho : o.op = .alloc 170) : (execOp ρ o).run Tryz.prog w = .ok (.value (.pointer (some ⟨w.heap.size, 0, none⟩))) (w.alloc (.cells (ncells holes).toArray 170)) := by
  have e : (ncells holes).toArray = ((ncells holes).toArray) := rfl
  unfold execOp
  simp only [ho]
  go_simp
  rfl
theorem ex_ldI {ad : Addr} {v : Value} (ho : o.op = .load 114 x) (hx : ρ x = .pointer (some ad)) (hc : w.cell? ad = some v) : (execOp ρ o).run Tryz.prog w = .ok (.value v) w := by
  unfold execOp; simp only [ho]; go_simp
theorem ex_ldF {ad : Addr} {v : Value} (ho : o.op = .load 147 x) (hx : ρ x = .pointer (some ad)) (hc : w.cell? ad = some v) : (execOp ρ o).run Tryz.prog w = .ok (.value v) w := by
  unfold execOp; simp only [ho]; go_simp
theorem ex_faW {b j : Nat} (hj : j < 5) (ho : o.op = .fieldAddr 149 x j) (hx : ρ x = .pointer (some ⟨b, 0, none⟩)) : (execOp ρ o).run Tryz.prog w = .ok (.value (.pointer (some ⟨b, j, none⟩))) w := by
  unfold execOp
  simp only [ho]
  match j, hj with
  | 0, _ | 1, _ | 2, _ | 3, _ | 4, _ => go_simp
theorem ex_bldL {f : Nat} {p : Pt} (hp : p.OK) (ho : o.op = .build 110 #[(0, x), (1, y)]) (hx : ρ x = .int .u32 (f : Int)) (hy : ρ y = .agg (pcells p).toArray) : (execOp ρ o).run Tryz.prog w = .ok (.value (.agg (lcells (f, p)).toArray)) w := by
  have hl := pcells_length hp
  have hz : (lcells (0, zeroP)).toArray.size = 42 := by rw [List.size_toArray]; exact lcells_length zeroP_ok
  have hr : (Instr.build 110 #[(0, .int .u32 (f : Int)), (1, .agg (pcells p).toArray)]).run Tryz.prog w = .ok (.agg (lcells (f, p)).toArray) w := run_build w 110 _ _ (by
    rw [builtL]
    show Instr.fill _ _ [(0, .int .u32 (f : Int)), (1, .agg (pcells p).toArray)] = _
    rw [fill_oneL (i := 0) (off := 0) (size := 1) rfl rfl (by rw [hz]; omega)]
    have e1 : splice (lcells (0, zeroP)).toArray.toList 0 (Value.int .u32 (f : Int)).cells.toList = lcells (f, zeroP) := rfl
    rw [e1, fill_oneL (i := 1) (off := 1) (size := 41) rfl (by simp [Value.cells, hl]) (by rw [List.size_toArray, lcells_length zeroP_ok]; omega)]
    have e2 : splice (lcells (f, zeroP)).toArray.toList 1 (Value.agg (pcells p).toArray).cells.toList = lcells (f, p) := by
      unfold splice
      show (Value.int .u32 (f : Int) :: pcells zeroP).take 1 ++ pcells p ++ (Value.int .u32 (f : Int) :: pcells zeroP).drop (1 + (pcells p).length) = Value.int .u32 (f : Int) :: pcells p
      rw [List.drop_of_length_le (by simp [hl, pcells_length zeroP_ok])]
      simp
    rw [e2]
    rfl)
  unfold execOp
  simp only [ho]
  rw [show (Array.map (fun x : Nat × Operand => (x.1, ρ x.2)) #[(0, x), (1, y)]) = #[(0, .int .u32 (f : Int)), (1, .agg (pcells p).toArray)] by simp [hx, hy]]
  simp only [Sem.run_bind, hr, Result.andThen_ok, Sem.run_pure]
end
structure Bw where
  e : Nat
  s : Sh
  ns : List Pt
  ls : List Lf
def goB (f : Sh → List Pt → List Lf → Pt → Nat → Bw) (wide first fr tt : Nat) : List Pt → Nat → Sh → List Pt → List Lf → Bw
  | [], _, s, ns, ls => ⟨0, s, ns, ls⟩
  | q :: qs, i, s, ns, ls =>
    if first + i * wide + wide ≤ fr ∨ tt ≤ first + i * wide then goB f wide first fr tt qs (i + 1) s ns ls
    else if (f s ns ls q (first + i * wide)).e ≠ 0 then f s ns ls q (first + i * wide)
    else goB f wide first fr tt qs (i + 1) (f s ns ls q (first + i * wide)).s (f s ns ls q (first + i * wide)).ns (f s ns ls q (first + i * wide)).ls
def belowP (fr tt : Nat) : Nat → Sh → List Pt → List Lf → Pt → Nat → Bw
  | 0, s, ns, ls, p, first => if eqP p zeroP = true then ⟨0, s, ns, ls⟩ else ⟨0, s, ns, ls ++ [(first, p)]⟩
  | n + 1, s, ns, ls, p, first =>
    if eqP p zeroP = true then ⟨0, s, ns, ls⟩
    else if rnE s p ≠ 0 then ⟨rnE s p, rnS s p, ns, ls⟩
    else goB (belowP fr tt n) (8 ^ n) first fr tt (rnN s p) 0 (rnS s p) (ns ++ [p]) ls
def cB : Nat → Nat
  | 0 => 1
  | n + 1 => 1 + 8 * cB n
structure Lk (m : Nat) (s : Sh) (ns : List Pt) (ls : List Lf) : Prop where
  lim : Lim m s
  ns : ns.length ≤ m
  ls : ls.length ≤ m
theorem Lim.mono {a b : Nat} {s : Sh} (h : Lim a s) (hab : a ≤ b) (hb : b < 100000000) : Lim b s := ⟨Nat.le_trans h.rd hab, Nat.le_trans h.md hab, Nat.le_trans h.gn hab, hb, h.bl, h.bd, h.rm⟩
theorem Lk.mono {a b : Nat} {s : Sh} {ns : List Pt} {ls : List Lf} (h : Lk a s ns ls) (hab : a ≤ b) (hb : b < 100000000) : Lk b s ns ls := ⟨h.lim.mono hab hb, Nat.le_trans h.ns hab, Nat.le_trans h.ls hab⟩
theorem Lim.rnS {m : Nat} {s : Sh} {p : Pt} (h : Lim m s) (hm : m + 1 < 100000000) : Lim (m + 1) (rnS s p) := by
  unfold Go.Proofs.YtjgjohdeeeoeoaaGreatDoor.rnS
  split
  · exact h.mono (by omega) hm
  · exact ⟨by have := h.rd; simp [rdS]; omega, Nat.le_trans h.md (by omega), Nat.le_trans h.gn (by omega), hm, h.bl, h.bd, h.rm⟩
def BwPost (L : Nat → Nat) (w : World) (D Wk Bx : Nat) (md : Bool) (fr tt : Nat) (r : Bw) (m : Nat) (e : Ending) (w' : World) : Prop :=
  e = .returned (.int .i64 (r.e : Int)) ∧ WkPost L w D Wk Bx md fr tt r.s r.ns r.ls w' ∧ Lk m r.s r.ns r.ls
theorem cfL (md : Bool) (args : Array Value) (w : World) : (callFunc (if md then 74 else 91) args).run Tryz.prog w = .ok (.enter (if md then 74 else 91) args) w := by
  cases md <;> go_simp
set_option maxRecDepth 100000 in
set_option maxHeartbeats 8000000 in
theorem below0_any {w : World} {L : Nat → Nat} {D Wk Bx fr tt : Nat} {md : Bool} {s : Sh} {ns : List Pt} {ls : List Lf} {m : Nat} (p : Pt) (hp : p.OK) (first : Nat) (h : WkAt w L D Wk Bx md fr tt s ns ls) (hk : Lk m s ns ls) (hm : m + 1 < 100000000) (hf : first < 1000) :
    Calls Tryz.prog 75 #[.pointer (some ⟨Wk, 0, none⟩), .agg (pcells p).toArray, .int .u8 0, .int .u32 (first : Int)] w (BwPost L w D Wk Bx md fr tt (belowP fr tt 0 s ns ls p first) (m + 1)) := by
  have HPO := Lib.hid hp
  have hw1 : Below w.heap.size w (w.alloc (.cells (pcells p).toArray 28)) := (Below.refl _ _).alloc (Nat.le_refl _) _
  have HB : Hid (Blk (w.alloc (.cells (pcells p).toArray 28)) w.heap.size (pcells p) 28) := Lib.hid (Blk.new _ _ _)
  have H1 := Lib.hid (h.below hw1)
  have HG0 : Hid (L w.heap.size = 0) := Lib.hid (by obtain ⟨v, hs⟩ := h.sh; exact hs.not (Nat.le_refl _))
  have HX : Hid (Lf.OK (first, p)) := Lib.hid ⟨by show first < _; omega, hp⟩
  have HK := Lib.hid hk
  have HM := Lib.hid hm
  obtain ⟨r, hr⟩ : ∃ r, belowP fr tt 0 s ns ls p first = r := ⟨_, rfl⟩
  have HR : Hid (r = if eqP p zeroP = true then ⟨0, s, ns, ls⟩ else ⟨0, s, ns, ls ++ [(first, p)]⟩) := Lib.hid (by rw [← hr]; rfl)
  rw [hr]
  generalize hPost : BwPost L w D Wk Bx md fr tt r (m + 1) = Post
  have HP : Hid (∀ w', WkPost L (w.alloc (.cells (pcells p).toArray 28)) D Wk Bx md fr tt r.s r.ns r.ls w' → Lk (m + 1) r.s r.ns r.ls → Post (.returned (.int .i64 (r.e : Int))) w') := Lib.hid fun w' h2 h3 => by rw [← hPost]; exact ⟨rfl, WkPost.pre h hw1 h2, h3⟩
  clear hp h hk hm hf hw1 hPost hr
  go_enter Tryz.func75, Tryz.ntmps75
  go_upto_region 1 with fail
  obtain ⟨G, hG⟩ : ∃ G, w.heap.size = G := ⟨_, rfl⟩
  rw [hG] at HB HG0 ⊢
  generalize (w.alloc (.cells (pcells p).toArray 28)) = W at HB H1 HP ⊢
  go_wp2_with (first | (refine wpL_val rfl (ex_ldP HPO.out HB.out rfl rfl) ?_) | fail)
  refine (trHole_any p HPO.out W).mono ?_
  rintro e W2 ⟨rfl, hb2⟩
  have HB2 := Lib.hid (HB.out.below hb2 HB.out.lt)
  have H2 := Lib.hid (H1.out.below hb2)
  have HW2 := Lib.hid hb2
  clear hb2 HB
  cases hz : eqP p zeroP
  · rw [hz] at HR
    obtain rfl : r = ⟨0, s, ns, ls ++ [(first, p)]⟩ := HR.out
    clear HR
    go_upto_region 4 with fail
    have c4 : ∀ X, WkAt X L D Wk Bx md fr tt s ns ls → X.cell? ⟨Wk, 4, none⟩ = some (leafF md Bx) := fun X hX => by
      obtain ⟨nv, k1, _⟩ := hX.wk
      exact k1.cell rfl
    have HLC := leafC_any (first, p) HX.out H2.out.drew (by have := HK.out.ls; have := HM.out; omega)
    have hcf := cfL md
    have HEND : Hid (∀ X, WkPost L W2.drew D Wk Bx md fr tt s ns (ls ++ [(first, p)]) X → Post (.returned (.int .i64 ((0 : Nat) : Int))) X) := Lib.hid (fun X hX => HP.out X (WkPost.pre H1.out (HW2.out.trans ((Below.refl _ _).drew)) hX) ⟨HK.out.lim.mono (by omega) HM.out, by have := HK.out.ns; omega, by have := HK.out.ls; simp; omega⟩)
    have hBox : ∀ X, WkPost L W2.drew D Wk Bx md fr tt s ns (ls ++ [(first, p)]) X → Blk X G (pcells p) 28 := fun X ⟨L', k1, k2⟩ => k2.blk HB2.out.drew HG0.out
    have hC4 : ∀ X, WkPost L W2.drew D Wk Bx md fr tt s ns (ls ++ [(first, p)]) X → X.cell? ⟨Wk, 4, none⟩ = some (leafF md Bx) := fun X ⟨L', k1, k2⟩ => by
      obtain ⟨nv, j1, _⟩ := k1.wk
      exact j1.cell rfl
    obtain ⟨lfn, hlfn⟩ : ∃ f, (if md then 74 else 91) = f := ⟨_, rfl⟩
    have c4' : W2.drew.cell? ⟨Wk, 4, none⟩ = some (.func (.func lfn) #[] #[.pointer (some ⟨Bx, 0, none⟩)]) := by rw [c4 _ H2.out.drew, ← hlfn]; rfl
    have hC4' : ∀ X, WkPost L W2.drew D Wk Bx md fr tt s ns (ls ++ [(first, p)]) X → X.cell? ⟨Wk, 4, none⟩ = some (.func (.func lfn) #[] #[.pointer (some ⟨Bx, 0, none⟩)]) := fun X hX => by rw [hC4 X hX, ← hlfn]; rfl
    rw [hlfn] at HLC hcf
    clear c4 hC4 HP
    refine gS (.take 0 (.take 1 (.take 2 (.take 3 (.take 4 (.take 5 (.take 6 (.step 7 (.nil))))))))) (fun X => X.cell? ⟨Wk, 4, none⟩ = some (.func (.func lfn) #[] #[.pointer (some ⟨Bx, 0, none⟩)]) ∧ Blk X G (pcells p) 28) (⟨c4', HB2.out.drew⟩) ?_
    refine gT (.pointer (some ⟨Wk, 0, none⟩)) ?_; try simp only [pS]
    refine gT (.pointer (some ⟨Wk, 0, none⟩)) ?_; try simp only [pS]
    refine wpG_take _ (.pointer (some ⟨Wk, 4, none⟩)) rfl (by rfl) (fun X hX => ex_faW (by omega) rfl rfl) ?_; try simp only [pS]
    refine wpG_take _ (.func (.func lfn) #[] #[.pointer (some ⟨Bx, 0, none⟩)]) rfl (by rfl) (fun X hX => ex_ldF rfl rfl hX.1) ?_; try simp only [pS]
    refine gT (.int .u32 (first : Int)) ?_; try simp only [pS]
    refine wpG_take _ (.agg (pcells p).toArray) rfl (by rfl) (fun X hX => ex_ldP HPO.out hX.2 rfl rfl) ?_; try simp only [pS]
    refine wpG_take _ (.agg (lcells (first, p)).toArray) rfl (by rfl) (fun X hX => ex_bldL HPO.out rfl rfl rfl) ?_; try simp only [pS]
    refine wpG_call _ rfl (by rfl) lfn #[.agg (lcells (first, p)).toArray, .pointer (some ⟨Bx, 0, none⟩)] (fun X => by have hcf2 := hcf #[.agg (lcells (first, p)).toArray, .pointer (some ⟨Bx, 0, none⟩)] X; go_simp) (fun u X => u = .tuple #[] ∧ WkPost L W2.drew D Wk Bx md fr tt s ns (ls ++ [(first, p)]) X) (HLC.mono fun e X ⟨e1, e2⟩ => ⟨_, e1, ⟨hC4' X e2, hBox X e2⟩, rfl, e2⟩) ?_
    rintro u X3 hs3 ⟨rfl, hX3⟩
    refine ⟨fun X => X.cell? ⟨Wk, 4, none⟩ = some (.func (.func lfn) #[] #[.pointer (some ⟨Bx, 0, none⟩)]) ∧ Blk X G (pcells p) 28, fun _ h => h, hs3, ?_⟩; try simp only [pS]
    refine wpG_nil ?_
    have HE := Lib.hid (HEND.out _ hX3)
    clear HEND hX3 hBox hC4' c4' HLC hcf
    go_wp2_with fail
    first | exact HE.out | (go_ret; exact HE.out)
  · rw [hz] at HR
    obtain rfl : r = ⟨0, s, ns, ls⟩ := HR.out
    have HE := Lib.hid (HP.out W2 (WkPost.of_below H1.out HW2.out) (HK.out.mono (by omega) HM.out))
    clear HR HP
    go_wp2_with fail
    first | exact HE.out | (go_ret; exact HE.out)
end Go.Proofs.YtjgjohdeeeoeoaaGreatDoor
