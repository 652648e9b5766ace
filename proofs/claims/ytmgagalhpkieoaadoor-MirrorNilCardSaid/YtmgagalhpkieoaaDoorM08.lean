/- Rot, Bad, Stick; a disk made. -/
import Derived.Test.YtmgagalhpkieoaaDoorM07
namespace Go.Proofs.YtmgagalhpkieoaaDoor
open Go.RowKit

section
variable {ops : Array Oper} {Q : Exit → Act → World → Prop} {S : World → Prop}
theorem wpG_copyA {i : Nat} {r : Tr} {a : Act} {w : World} (o : Oper) (hi : ops.toList[i]? = some o) (hw : Region.wanted o (yielded ops a.tmps) = true) (d s : Operand)
    (ho : o.op = .call { callee := .builtin .copy, args := #[d, s], argTypes := #[29, 29] }) {g cap : Nat} {sp : Option Addr} {k : Bk} {b : d_Bs} (hd : a.eval d = .slice (some ⟨g, 0, none⟩) 512 512) (hs : a.eval s = .slice sp 512 cap)
    (hk : k.b.length = 512) (hb : b.length = 512) (hg : Blk w g (bcells k) 97) (hsrc : SrcA w sp b)
    (h : ∀ w', Blk w' g (bcells (over k b 512)) 97 → Chg (fun i => i = g) w w' → S w' ∧ wpG Tryd.prog ops Q r S (a.put o.dst (goInt (b.map V8).length)) w') : wpG Tryd.prog ops Q (.step i r) S a w := by
  refine wpG_bare o hi hw fun K hK => ?_
  obtain ⟨gb, ob, rfl, _, hcl⟩ := hsrc (by omega)
  refine wpList_copy_own rfl d s 29 29 ho 5 Tryd.underlying29 sizeB g 0 512 512 ⟨gb, ob, none⟩ 512 cap hd hs (bcells k).toArray 97 hg (b.map V8) (by simp [hb]) (src_cell hcl) (by simp [bcells_length hk, hb]) (one_v8 _) ?_
  have e : splice (bcells k) 0 (b.map V8) = bcells (over k b 512) := by
    have := splice_over hk hb (Nat.le_refl 512)
    rw [List.take_of_length_le (by omega)] at this
    exact this
  have hx := h (w.setRow g (splice (bcells k) 0 (b.map V8)).toArray) (by rw [← e]; exact hg.row _) ((Chg.refl (fun i => i = g) _).setRow (.inl rfl) _)
  exact wpG_list_nil (hK _ _ S (fun _ h => h) hx.1 hx.2)
end
def rotK (b : d_Bs) (k : Bk) : Bk := if b.length = 512 then ⟨b, k.bad, k.stuck⟩ else k
theorem rotK_over {b : d_Bs} {k : Bk} (hb : b.length = 512) (hk : k.b.length = 512) : over k b 512 = rotK b k := by
  unfold over rotK
  rw [if_pos hb, List.take_of_length_le (by omega), List.drop_of_length_le (by omega), List.append_nil]
theorem rotf_any (B X cap : Nat) (sp : Option Addr) (b : d_Bs) (k : Bk) (w : World) (hb : b.length = 512) (hk : k.b.length = 512) (hB : Blk w B (bcells k) 97) (hS : SrcA w sp b) (hX : w.cell? ⟨X, 0, none⟩ = some (.slice sp 512 cap)) :
    Calls Tryd.prog 37 #[.pointer (some ⟨B, 0, none⟩), .pointer (some ⟨X, 0, none⟩)] w fun e w' => e = .returned (.tuple #[]) ∧ Blk w' B (bcells (rotK b k)) 97 ∧ Chg (fun i => i = B) w w' := by
  have HB := Lib.hid hB
  have HS := Lib.hid hS
  have HX := Lib.hid hX
  clear hB hS hX
  go_enter Tryd.func37, Tryd.ntmps37
  refine wp_region_sched (.take 0 (.take 1 (.take 2 (.take 3 (.step 4 (.step 5 (.nil))))))) (by kernel_rfl) (by kernel_rfl) (fun d _ _ _ _ h => by cases d <;> exact h) (fun _ => True) trivial ?_
  refine wpG_take _ (.pointer (some ⟨B, 0, none⟩)) rfl (by rfl) (fun Y hY => by rfl) ?_
  (try simp only [Act.put, List.setIfInBounds_toArray, List.set_cons_zero, List.set_cons_succ])
  refine wpG_take _ (.pointer (some ⟨B, 0, none⟩)) rfl (by rfl) (fun Y hY => ex_nc rfl rfl) ?_
  (try simp only [Act.put, List.setIfInBounds_toArray, List.set_cons_zero, List.set_cons_succ])
  refine wpG_take _ (.pointer (some ⟨B, 0, none⟩)) rfl (by rfl) (fun Y hY => ex_fa89 rfl rfl) ?_
  (try simp only [Act.put, List.setIfInBounds_toArray, List.set_cons_zero, List.set_cons_succ])
  refine wpG_take _ (.slice (some ⟨B, 0, none⟩) 512 512) rfl (by rfl) (fun Y hY => ex_sl87 rfl rfl) ?_
  (try simp only [Act.put, List.setIfInBounds_toArray, List.set_cons_zero, List.set_cons_succ])
  refine d_wpG_mk _ rfl (by rfl) (.slice sp 512 cap) w.drew (ex_ld42 rfl rfl HX.out) (fun _ => True) trivial (fun _ h => h) ?_
  (try simp only [Act.put, List.setIfInBounds_toArray, List.set_cons_zero, List.set_cons_succ])
  refine wpG_copyA _ rfl (by rfl) (.tmp 6) (.tmp 7) rfl rfl rfl hk hb (Blk.drew HB.out) (SrcA.drew HS.out) ?_
  intro w' h1 h2
  refine ⟨trivial, ?_⟩
  (try simp only [Act.put, List.setIfInBounds_toArray, List.set_cons_zero, List.set_cons_succ])
  refine wpG_nil ?_
  have HB' := Lib.hid h1
  have HC' := Lib.hid h2
  clear h1 h2
  go_wp2_with fail
  go_end0
  refine ⟨rfl, ?_, (Chg.refl _ w).drew.trans' HC'.out⟩
  rw [← rotK_over hb hk]
  exact HB'.out
theorem bcells_bad (k : Bk) (h : k.b.length = 512) (x : Bool) : (bcells k).set 512 (.bool x) = bcells { k with bad := x } := by
  unfold bcells
  rw [List.set_append_right _ _ (by simp [h])]
  simp [h]
theorem bcells_stuck (k : Bk) (h : k.b.length = 512) (x : Bool) : (bcells k).set 513 (.bool x) = bcells { k with stuck := x } := by
  unfold bcells
  rw [List.set_append_right _ _ (by simp [h])]
  simp [h]
theorem stickf_any (B : Nat) (k : Bk) (w : World) (hk : k.b.length = 512) (hB : Blk w B (bcells k) 97) :
    Calls Tryd.prog 40 #[.pointer (some ⟨B, 0, none⟩)] w fun e w' => e = .returned (.tuple #[]) ∧ Blk w' B (bcells { k with stuck := true }) 97 ∧ Chg (fun i => i = B) w w' := by
  have HB := Lib.hid hB
  have c := hB.stuck hk
  have f := hB.free 513
  clear hB
  go_enter Tryd.func40, Tryd.ntmps40
  go_wp2_with fail
  go_end0
  exact ⟨rfl, by rw [← bcells_stuck _ hk]; exact HB.out.set 513 _, d_chg1 513 _⟩
theorem cf52 (args : Array Value) (w : World) : (callFunc 37 args).run Tryd.prog w = .ok (.enter 37 args) w := by go_simp
theorem cf54 (args : Array Value) (w : World) : (callFunc 40 args).run Tryd.prog w = .ok (.enter 40 args) w := by go_simp
/-- What a fault leaves. -/
def Hurt (D Q : Nat) (S : Nat → Prop) (r : Int × Dsk) (w : World) (e : Ending) (w' : World) : Prop :=
  e = .returned (.int .i64 r.1) ∧ DkAt w' D Q (Ext S w w') r.2 ∧ Chg S w w'
set_option maxRecDepth 100000 in
theorem stick_any (D Q : Nat) (S : Nat → Prop) (s : Dsk) (ad : Nat) (w : World) (ha : ad < 65536) (h : DkAt w D Q S s) (hq : Q < w.heap.size) (hcn : s.cache.length < 1000000) :
    Calls Tryd.prog 20 #[.pointer (some ⟨D, 0, none⟩), .int .u16 (ad : Int)] w (Hurt D Q S (ailed s ad 512 (fun k => { k with stuck := true })) w) := by
  have H := Lib.hid h
  have HCN := Lib.hid hcn
  clear h hcn
  go_enter Tryd.func20, Tryd.ntmps20
  go_wp2_with (first | (go_at_call 36; refine (ail_any D Q S s ad 512 40 #[] (fun k => { k with stuck := true }) (fun _ => True) _ ha H.out hq HCN.out (fun _ h => h) cf54 (fun _ _ => trivial) (fun B k w _ _ hk hB => stickf_any B k w hk hB)).mono ?_; rintro e w1 ⟨rfl, hd, hc⟩; have HD := Lib.hid hd; have HC := Lib.hid hc; clear hd hc) | fail)
  go_ret
  exact ⟨rfl, HD.out, HC.out⟩
set_option maxRecDepth 100000 in
set_option maxHeartbeats 1000000 in
theorem rot_any (D Q : Nat) (S : Nat → Prop) (s : Dsk) (ad : Nat) (b : d_Bs) (sp : Option Addr) (n cap : Nat) (w : World) (ha : ad < 65536) (hbn : b.length = n) (hS : SrcA w sp b) (h : DkAt w D Q S s) (hq : Q < w.heap.size) (hcn : s.cache.length < 1000000) :
    Calls Tryd.prog 17 #[.pointer (some ⟨D, 0, none⟩), .int .u16 (ad : Int), .slice sp n cap] w (Hurt D Q S (ailed s ad n (rotK b)) w) := by
  have hc1 : Chg (fun _ => False) w (w.alloc (.cells #[.slice sp n cap] 29)) := Chg.of_below ((Below.refl _ _).alloc (Nat.le_refl _) _)
  have H1 := Lib.hid (h.chg hc1 (fun _ _ h => h))
  have HX := Lib.hid (show (w.alloc (.cells #[.slice sp n cap] 29)).cell? ⟨w.heap.size, 0, none⟩ = some (.slice sp n cap) from (Blk.new w [.slice sp n cap] 29).cell rfl)
  have HS1 : Hid (SrcA (w.alloc (.cells #[.slice sp n cap] 29)) sp b) := Lib.hid (hS.grown ((Below.refl _ _).alloc (Nat.le_refl _) _))
  have HC1 := Lib.hid hc1
  have HBN := Lib.hid hbn
  have HCN := Lib.hid hcn
  have HNQ := Lib.hid h.nq
  have hq1 : Q < (w.alloc (.cells #[.slice sp n cap] 29)).heap.size := by simp; omega
  have HQ1 := Lib.hid hq1
  have HKP : Hid (∀ w', Below (w.alloc (.cells #[.slice sp n cap] 29)).heap.size (w.alloc (.cells #[.slice sp n cap] 29)) w' → SrcA w' sp b ∧ w'.cell? ⟨w.heap.size, 0, none⟩ = some (.slice sp n cap)) := Lib.hid (fun w' hb => ⟨HS1.out.grown hb, (hb.cell (p := ⟨w.heap.size, 0, none⟩) (by simp)).trans HX.out⟩)
  clear hc1 hS h hcn hq1
  go_enter Tryd.func17, Tryd.ntmps17
  go_wp2_with fail
  refine (ail_any D Q S s ad n 37 #[.pointer (some ⟨w.heap.size, 0, none⟩)] (rotK b) (fun W => SrcA W sp b ∧ W.cell? ⟨w.heap.size, 0, none⟩ = some (.slice sp n cap)) _ ha H1.out HQ1.out HCN.out (fun k hk => ?_) cf52 HKP.out (fun B k W hn hK hk hB => ?_)).mono ?_
  · unfold rotK
    split
    · assumption
    · exact hk
  · subst hn
    exact rotf_any B w.heap.size cap sp b k W HBN.out hk hB hK.1 hK.2
  · rintro e w1 ⟨rfl, hd, hc⟩
    have HD := Lib.hid hd
    have HC := Lib.hid hc
    clear hd hc
    go_wp2_with fail
    go_ret
    refine ⟨rfl, HD.out.mono (Ext.trans (by simp)) (fun hh => ?_) (fun k hk => ?_), (HC1.out.mono (fun _ h => h.elim)).trans' HC.out⟩
    · rcases hh with hh | hh
      · exact HNQ.out hh
      · omega
    · rcases hk with hk | hk
      · exact Nat.lt_of_lt_of_le (H1.out.lt k hk) HC.out.size
      · exact hk.2
theorem ail_nil (a n : Int) (v : Value) (w : World) : Calls Tryd.prog 36 #[.pointer none, .int .u16 a, .int .i64 n, v] w fun e w' => e = .returned (.int .i64 2) ∧ w = w' := by
  go_enter Tryd.func36, Tryd.ntmps36
  go_wp2_with fail
  go_ret
  exact ⟨rfl, rfl⟩
theorem stick_nil (a : Int) (w : World) : Calls Tryd.prog 20 #[.pointer none, .int .u16 a] w fun e w' => e = .returned (.int .i64 2) ∧ w = w' := by
  go_enter Tryd.func20, Tryd.ntmps20
  go_wp2_with (first | (go_at_call 36; refine (ail_nil _ _ _ _).mono ?_; rintro e w' ⟨rfl, rfl⟩) | fail)
  go_ret
  exact ⟨rfl, rfl⟩
theorem rot_nil (a : Int) (sp : Option Addr) (n c : Nat) (w : World) : Calls Tryd.prog 17 #[.pointer none, .int .u16 a, .slice sp n c] w fun e w' => e = .returned (.int .i64 2) ∧ Below w.heap.size w w' := by
  go_enter Tryd.func17, Tryd.ntmps17
  go_wp2_with (first | (go_at_call 36; refine (ail_nil _ _ _ _).mono ?_; rintro e w' ⟨rfl, rfl⟩) | fail)
  go_ret
  exact ⟨rfl, (Below.refl _ _).alloc (Nat.le_refl _) _⟩
theorem idle_nopower (D : Nat) (w : World) (c0 : w.cell? ⟨D, 0, none⟩ = some (.pointer none)) : Calls Tryd.prog 43 #[.pointer (some ⟨D, 0, none⟩)] w fun e w' => e = .returned (.int .i64 2) ∧ w = w' := by
  go_enter Tryd.func43, Tryd.ntmps43
  go_wp2
  go_ret
  exact ⟨rfl, rfl⟩
theorem idle_cells (D Q : Nat) (p : Pw) (hon : p.on = true) (w : World) (c0 : w.cell? ⟨D, 0, none⟩ = some (.pointer (some ⟨Q, 0, none⟩))) (c4 : w.cell? ⟨D, 4, none⟩ = some (.bool false)) (hp : PwAt w Q p) : Calls Tryd.prog 43 #[.pointer (some ⟨D, 0, none⟩)] w fun e w' => e = .returned (.int .i64 0) ∧ w = w' := by
  have HP := Lib.hid hp
  clear hp
  go_enter Tryd.func43, Tryd.ntmps43
  go_wp2_with (go_at_call 60; refine (d_is_any _ _ _ HP.out).mono ?_; rw [hon]; rintro e w' ⟨rfl, rfl⟩)
  go_ret
  exact ⟨rfl, rfl⟩
set_option maxRecDepth 100000 in
theorem new_nil (n : Int) (w : World) : Calls Tryd.prog 23 #[.int .i64 n, .pointer none] w fun e w' => e = .returned (.tuple #[.pointer none, .int .i64 2]) ∧ Below w.heap.size w w' := by
  have hmm := @ run_makeMap Tryd.prog
  go_enter Tryd.func23, Tryd.ntmps23
  go_wp2_with (first | (go_at_call 43; refine (idle_nopower _ _ (by simp)).mono ?_; rintro e w' ⟨rfl, rfl⟩) | fail)
  go_ret2
  exact ⟨rfl, ((Below.refl _ _).alloc (Nat.le_refl _) _).alloc (by simp) _⟩
/-- The world in which a disk was laid. -/
theorem new_world (n : Int) (Q : Nat) (p : Pw) (w : World) (hp : PwAt w Q p) : PwAt ((w.alloc (.map #[] 0)).alloc (.cells #[.pointer (some ⟨Q, 0, none⟩), .int .i64 n, .map (some w.heap.size), .slice none 0 0, .bool false, .bool false, .bool false, .int .u16 0] 111)) Q p :=
  ⟨(hp.blk.alloc _).alloc _, hp.lo, hp.hi⟩
set_option maxRecDepth 100000 in
theorem new_bad (n : Int) (Q : Nat) (p : Pw) (hon : p.on = true) (w : World) (hp : PwAt w Q p) (hn : n < 1 ∨ 4096 < n) : Calls Tryd.prog 23 #[.int .i64 n, .pointer (some ⟨Q, 0, none⟩)] w fun e w' => e = .returned (.tuple #[.pointer none, .int .i64 1]) ∧ Below w.heap.size w w' := by
  have hmm := @ run_makeMap Tryd.prog
  have HP := Lib.hid hp
  clear hp
  by_cases h1 : n < 1
  · clear hn
    go_enter Tryd.func23, Tryd.ntmps23
    go_wp2_with (first | (go_at_call 43; refine (idle_cells _ Q p hon _ (by simp) (by simp) (by simpa using new_world n Q p w HP.out)).mono ?_; rintro e w' ⟨rfl, rfl⟩) | fail)
    go_ret2
    exact ⟨rfl, ((Below.refl _ _).alloc (Nat.le_refl _) _).alloc (by simp) _⟩
  · have h2 : 4096 < n := by omega
    clear hn
    go_enter Tryd.func23, Tryd.ntmps23
    go_wp2_with (first | (go_at_call 43; refine (idle_cells _ Q p hon _ (by simp) (by simp) (by simpa using new_world n Q p w HP.out)).mono ?_; rintro e w' ⟨rfl, rfl⟩) | fail)
    go_ret2
    exact ⟨rfl, ((Below.refl _ _).alloc (Nat.le_refl _) _).alloc (by simp) _⟩
set_option maxRecDepth 100000 in
theorem new_ok (n : Nat) (Q : Nat) (p : Pw) (hon : p.on = true) (w : World) (hp : PwAt w Q p) (h1 : 1 ≤ n) (h2 : n ≤ 4096) : Calls Tryd.prog 23 #[.int .i64 (n : Int), .pointer (some ⟨Q, 0, none⟩)] w fun e w' => ∃ D S, e = .returned (.tuple #[.pointer (some ⟨D, 0, none⟩), .int .i64 0]) ∧ DkAt w' D Q S (fresh n) ∧ (∀ k, S k → w.heap.size ≤ k) ∧ Below w.heap.size w w' := by
  have hmm := @ run_makeMap Tryd.prog
  have HP := Lib.hid hp
  have hq := hp.blk.lt
  clear hp
  have h3 : ¬ ((n : Int) < 1) := by omega
  have h4 : ¬ (4096 < (n : Int)) := by omega
  go_enter Tryd.func23, Tryd.ntmps23
  go_wp2_with (first | (go_at_call 43; refine (idle_cells _ Q p hon _ (by simp) (by simp) (by simpa using new_world n Q p w HP.out)).mono ?_; rintro e w' ⟨rfl, rfl⟩) | fail)
  go_ret2
  refine ⟨_, _, rfl, DkAt.fresh (M := w.heap.size) (D := w.heap.size + 1) ?_ ((MapAt.made w).kept (Below.heap_alloc _ _ _ (by simp))) (by omega) (by omega) (by omega), fun k hk => by rcases hk with rfl | rfl <;> omega, ((Below.refl _ _).alloc (Nat.le_refl _) _).alloc (by simp) _⟩
  exact Blk.new' _ _ _ _ _ (by simp) rfl
end Go.Proofs.YtmgagalhpkieoaaDoor
/- Bytes, again and again, to a block. -/
namespace Go.Proofs.YtmgagalhpkieoaaDoor
open Go.RowKit

def fullAt (b : d_Bs) (i : Nat) : BitVec 8 := if b.length = 0 then 0 else b.getD (i % b.length) 0
def fullN (b : d_Bs) (k : Nat) : d_Bs := (List.range k).map (fullAt b)
def d_full (b : d_Bs) : d_Bs := fullN b 512
theorem fullN_length (b : d_Bs) (k : Nat) : (fullN b k).length = k := by simp [fullN]
theorem full_length (b : d_Bs) : (d_full b).length = 512 := fullN_length b 512
theorem fullN_succ (b : d_Bs) (k : Nat) : fullN b (k + 1) = fullN b k ++ [fullAt b k] := by simp [fullN, List.range_succ]
def d_FullRel (b : d_Bs) (k : Nat) (w : World) (s : Value) (wr : World) : Prop := OwnB wr w.heap.size s (fullN b k) ∧ Below w.heap.size w wr
theorem one_at8 (w : World) (v : Value) (t : TypeId) : ∀ j u, [v][j]? = some u → (w.alloc (.cells #[v] t)).cell? ((⟨w.heap.size, 0, none⟩ : Addr).add j) = some u := by
  intro j u hj
  match j, hj with
  | 0, hj => simp at hj; subst hj; simp [Addr.add]
theorem d_FullRel.next {b : d_Bs} {k : Nat} {w wr w2 : World} {v v' : Value} {x : BitVec 8} {t : TypeId} (h : d_FullRel b k w v wr) (hx : x = fullAt b k) (ho : w2.ownsRow w.heap.size 5 1 v' ((fullN b k).length + 1) ((fullN b k).map V8 ++ [V8 x])) (hg : (wr.alloc (.cells #[V8 x] t)).grownBy w2 v.ownBlock) : d_FullRel b (k + 1) w v' w2 := by
  subst hx
  refine ⟨?_, (h.2.alloc h.2.size _).grown hg (by have := h.2.size; simp; omega) (fun j hj => (h.1.lt j hj).1)⟩
  unfold OwnB
  rw [fullN_succ, List.map_append, List.length_append]
  exact ho
set_option maxRecDepth 100000 in
set_option maxHeartbeats 1000000 in
theorem full_any (b : d_Bs) (sp : Option Addr) (n cap : Nat) (hbn : b.length = n) (hn : n < 1000000) (w : World) (hS : SrcA w sp b) :
    Calls Tryd.prog 18 #[.slice sp n cap] w fun e w' => ∃ v, e = .returned v ∧ OwnB w' w.heap.size v (d_full b) ∧ Below w.heap.size w w' := by
  obtain ⟨i0, hi, hz0, hz1, hz2⟩ := info_parts infoB
  have HS := Lib.hid hS
  have HBN := Lib.hid hbn
  clear hS hbn
  have HR := Lib.hid (show d_FullRel b 0 w (.slice none 0 0) w from ⟨World.ownsRow_nil _ _ _ _, Below.refl _ _⟩)
  go_enter Tryd.func18, Tryd.ntmps18
  go_wp2_with fail
  go_loopw [3] (fun s wr => ∃ k : Nat, k ≤ 512 ∧ d_FullRel b k w s wr) (fun s _ => 512 - (match s with | .slice _ l _ => l | _ => 0))
  case atStart => exact ⟨0, by omega, HR.out⟩
  case round =>
    clear HR
    obtain ⟨k, hk, hR⟩ := hrel
    obtain ⟨sp1, cap1, rfl, hc1, hm1, _, _, _⟩ := hR.1.form
    rw [fullN_length] at hc1 hR ⊢
    have HR := Lib.hid hR
    have ho : wr.ownsRow w.heap.size 5 1 (.slice sp1 k cap1) (fullN b k).length ((fullN b k).map V8) := hR.1
    have HO := Lib.hid ho
    clear ho hR
    by_cases hlt : k < 512
    · by_cases h0 : n = 0
      · subst h0
        have hx : (0 : BitVec 8) = fullAt b k := by unfold fullAt; rw [if_pos HBN.out]
        have HX := Lib.hid hx
        clear hx
        have z1 := hz1
        clear hz1
        have HZ1 := Lib.hid z1
        clear z1
        go_wp2_with (first | (at_builtin; refine wpList_append_own _ rfl _ _ 29 rfl w.heap.size 5 i0 (.int .u8 0) 1 1 Tryd.underlying29 hi hz0 HZ1.out hz2 rfl (by decide) (.slice sp1 k cap1) (fullN b k).length ((fullN b k).map V8) rfl (HO.out.alloc _) ⟨wr.heap.size, 0, none⟩ 1 1 [V8 0] rfl rfl (one_at8 _ _ _) (one_v8 [0]) (by rw [fullN_length]; unfold maxLen; omega) (by rw [fullN_length]; omega) (by have := HR.out.2.size; simp; omega) ?_; intro v2 w2 ho2 hg2 hn2; have HR2 := Lib.hid (HR.out.next HX.out ho2 hg2); clear ho2 hg2 hn2) | fail)
        obtain ⟨sp2, cap2, e2, _, _, _, _, _⟩ := HR2.out.1.form
        go_roundw
        case rel => exact ⟨k + 1, by omega, HR2.out⟩
        case measure => rw [e2]; simp [fullN_length]; omega
      · have hpos : 0 < n := by omega
        have hm : ((k : Int).tmod (n : Int)) = ((k % n : Nat) : Int) := by
          rw [Int.tmod_eq_emod_of_nonneg (by omega)]; simp
        have hlt2 : k % n < n := Nat.mod_lt _ hpos
        obtain ⟨g, o, rfl, hg, hcl⟩ := HS.out (by rw [HBN.out]; omega)
        have hcell := (HR.out.2.cell (p := ⟨g, o + k % n, none⟩) hg).trans (hcl (k % n) (by rw [HBN.out]; exact hlt2))
        obtain ⟨x, hx⟩ : ∃ x, b.getD (k % n) 0 = x := ⟨_, rfl⟩
        rw [hx] at hcell
        have hxx : x = fullAt b k := by unfold fullAt; rw [if_neg (by rw [HBN.out]; omega), HBN.out, hx]
        have HX := Lib.hid hxx
        clear hx hxx hcl hg
        obtain ⟨q, hq⟩ : ∃ q, k % n = q := ⟨_, rfl⟩
        rw [hq] at hm hlt2 hcell
        have HQ := Lib.hid hq
        clear hq
        have hwq := IntWalk.i64_in (q : Int) (by omega)
        have z1 := hz1
        clear hz1
        have HZ1 := Lib.hid z1
        clear z1
        go_wp2_with (first | (at_builtin; refine wpList_append_own _ rfl _ _ 29 rfl w.heap.size 5 i0 (.int .u8 0) 1 1 Tryd.underlying29 hi hz0 HZ1.out hz2 rfl (by decide) (.slice sp1 k cap1) (fullN b k).length ((fullN b k).map V8) rfl (HO.out.alloc _) ⟨wr.heap.size, 0, none⟩ 1 1 [V8 x] rfl rfl (one_at8 _ _ _) (one_v8 [x]) (by rw [fullN_length]; unfold maxLen; omega) (by rw [fullN_length]; omega) (by have := HR.out.2.size; simp; omega) ?_; intro v2 w2 ho2 hg2 hn2; have HR2 := Lib.hid (HR.out.next HX.out ho2 hg2); clear ho2 hg2 hn2) | fail)
        obtain ⟨sp2, cap2, e2, _, _, _, _, _⟩ := HR2.out.1.form
        go_roundw
        case rel => exact ⟨k + 1, by omega, HR2.out⟩
        case measure => rw [e2]; simp [fullN_length]; omega
    · obtain rfl : k = 512 := by omega
      go_wp2_with fail
      go_ret
      exact ⟨_, rfl, HR.out.1, HR.out.2⟩
end Go.Proofs.YtmgagalhpkieoaaDoor
/- What a law knows of a disk, of power, and of bytes of its own. -/
namespace Go.Proofs.YtmgagalhpkieoaaDoor
open Go.RowKit

/-- Bytes of the law's own, out of F. -/
def Mine (w : World) (F : Nat → Prop) (v : Value) (b : d_Bs) : Prop :=
  ∃ X cap, v = .slice (some ⟨X, 0, none⟩) b.length cap ∧ b.length ≤ cap ∧ cap ≤ maxLen ∧ SrcA w (some ⟨X, 0, none⟩) b ∧ ¬ F X ∧ X < w.heap.size
theorem SrcA.at {w w' : World} {X : Nat} {b : d_Bs} (h : SrcA w (some ⟨X, 0, none⟩) b) (hs : w.heap.size ≤ w'.heap.size) (hb : w'.heap[X]? = w.heap[X]?) : SrcA w' (some ⟨X, 0, none⟩) b := fun h0 => by
  obtain ⟨g, o, e, hg, hc⟩ := h h0
  cases e
  exact ⟨_, _, rfl, Nat.lt_of_lt_of_le hg hs, fun j hj => (World.cell?_of_block (w := w) hb).trans (hc j hj)⟩
theorem Mine.next {w w' : World} {F F' : Nat → Prop} {v : Value} {b : d_Bs} (h : Mine w F v b) (hc : Chg F w w') (hF : ∀ k, F' k → F k ∨ w.heap.size ≤ k) : Mine w' F' v b := by
  obtain ⟨X, cap, e, h1, h2, h3, h4, h5⟩ := h
  exact ⟨X, cap, e, h1, h2, h3.at hc.size (hc.block X h5 h4), fun hf => by rcases hF X hf with h | h; exact h4 h; omega, Nat.lt_of_lt_of_le h5 hc.size⟩
theorem Mine.grown {w w' : World} {F : Nat → Prop} {v : Value} {b : d_Bs} (h : Mine w F v b) (hc : Below w.heap.size w w') : Mine w' F v b := h.next (Chg.of_below hc) (fun _ h => .inl h)
theorem Mine.of_own {w : World} {F : Nat → Prop} {B : Nat} {v : Value} {b : d_Bs} (h : OwnB w B v b) (hb : 0 < b.length) (hF : ∀ k, F k → k < B) : Mine w F v b := by
  obtain ⟨sp, cap, rfl, h1, h2, h3, h4, h5⟩ := h.form
  obtain ⟨g, o, rfl, hg, hc⟩ := h3 hb
  have ho : o = 0 := by
    rcases h.2 with ⟨e, h0⟩ | ⟨g', cap', cur, e, _⟩
    · omega
    · cases e; rfl
  subst ho
  have h6 : B ≤ g := (h5 _ rfl).1
  exact ⟨g, cap, rfl, h1, h2, h3, fun hf => by have := hF _ hf; omega, hg⟩
structure Lw (B : Nat) (w0 w : World) (D Q : Nat) (S : Nat → Prop) (s : Dsk) (p : Pw) : Prop where
  dk : DkAt w D Q S s
  pw : PwAt w Q p
  bs : ∀ k, S k → B ≤ k
  bq : B ≤ Q
  bb : B ≤ w0.heap.size
  bel : Below B w0 w
def Fo (S : Nat → Prop) (Q : Nat) (k : Nat) : Prop := S k ∨ k = Q
theorem Lw.step {B : Nat} {w0 w w' : World} {D Q : Nat} {S : Nat → Prop} {s s' : Dsk} {p p' : Pw} (h : Lw B w0 w D Q S s p) (hd : DkAt w' D Q (Ext S w w') s') (hp : PwAt w' Q p') (hc : Chg (Fo S Q) w w') : Lw B w0 w' D Q (Ext S w w') s' p' :=
  ⟨hd, hp, fun k hk => by rcases hk with hk | hk; exact h.bs k hk; exact Nat.le_trans (Nat.le_trans h.bb h.bel.size) hk.1, h.bq, h.bb, h.bel.trans (hc.below (fun k hk => by rcases hk with hk | rfl; exact h.bs k hk; exact h.bq) (Nat.le_trans h.bb h.bel.size))⟩
theorem Lw.stay {B : Nat} {w0 w w' : World} {D Q : Nat} {S : Nat → Prop} {s s' : Dsk} {p p' : Pw} (h : Lw B w0 w D Q S s p) (hd : DkAt w' D Q S s') (hp : PwAt w' Q p') (hc : Chg (Fo S Q) w w') : Lw B w0 w' D Q S s' p' :=
  ⟨hd, hp, h.bs, h.bq, h.bb, h.bel.trans (hc.below (fun k hk => by rcases hk with hk | rfl; exact h.bs k hk; exact h.bq) (Nat.le_trans h.bb h.bel.size))⟩
theorem Lw.grown {B : Nat} {w0 w w' : World} {D Q : Nat} {S : Nat → Prop} {s : Dsk} {p : Pw} (h : Lw B w0 w D Q S s p) (hb : Below w.heap.size w w') : Lw B w0 w' D Q S s p :=
  ⟨h.dk.chg (Chg.of_below (F := fun _ => False) hb) (fun _ _ h => h), h.pw.chg (Chg.of_below (F := fun _ => False) hb) (fun h => h), h.bs, h.bq, h.bb, h.bel.trans (hb.mono (Nat.le_trans h.bb h.bel.size))⟩
theorem Lw.fo {B : Nat} {w0 w : World} {D Q : Nat} {S : Nat → Prop} {s : Dsk} {p : Pw} (h : Lw B w0 w D Q S s p) : ∀ k, Fo S Q k → k < w.heap.size := fun k hk => by rcases hk with hk | rfl; exact h.dk.lt k hk; exact h.pw.blk.lt
theorem fo_ext {S : Nat → Prop} {Q : Nat} {w w' : World} : ∀ k, Fo (Ext S w w') Q k → Fo S Q k ∨ w.heap.size ≤ k := fun k hk => by
  rcases hk with hk | hk
  · rcases hk with hk | hk
    · exact .inl (.inl hk)
    · exact .inr hk.1
  · exact .inl (.inr hk)
def p0 : Pw := ⟨true, -1⟩
theorem p0_step : p0.step = (true, p0) := by simp [p0, Pw.step]

/-- What the waking disk comes to. -/
def wk1 (A : d_Bs) : Dsk := (wrote (fresh 9) p0 3 A).2.1
def wk2 (A : d_Bs) : Dsk := (flushed (wk1 A) p0).2.1
def wk3 (A B : d_Bs) : Dsk := (wrote (wk2 A) p0 3 B).2.1
def wk4 (A B : d_Bs) : Dsk := crashed (wk3 A B) [6]
theorem wk1_is {A : d_Bs} (h : A.length = 512) : wrote (fresh 9) p0 3 A = (0, ⟨9, fun _ => blank, [(3, A)], false, false, none⟩, p0) := by
  simp [wrote, idle, fresh, p0, Pw.step, kept, h]
theorem wk2_is {A : d_Bs} (h : A.length = 512) : flushed (wk1 A) p0 = (0, ⟨9, Upd (fun _ => blank) 3 ⟨A, false, false⟩, [], false, false, none⟩, p0) := by
  have e : wk1 A = ⟨9, fun _ => blank, [(3, A)], false, false, none⟩ := by unfold wk1; rw [wk1_is h]
  rw [e]
  simp [flushed, idle, p0, Pw.step, settled, come1, blank, List.take_of_length_le (Nat.le_of_eq h), zeros_length, List.drop_of_length_le]
theorem wk3_is {A B : d_Bs} (h : A.length = 512) (h' : B.length = 512) : wrote (wk2 A) p0 3 B = (0, ⟨9, Upd (fun _ => blank) 3 ⟨A, false, false⟩, [(3, B)], false, false, none⟩, p0) := by
  have e : wk2 A = ⟨9, Upd (fun _ => blank) 3 ⟨A, false, false⟩, [], false, false, none⟩ := by unfold wk2; rw [wk2_is h]
  rw [e]
  simp [wrote, idle, p0, Pw.step, kept, h']
theorem wk4_is {A B : d_Bs} (h : A.length = 512) (h' : B.length = 512) : wk4 A B = ⟨9, Upd (Upd (fun _ => blank) 3 ⟨A, false, false⟩) 3 ⟨B.take 4 ++ A.drop 4, false, false⟩, [], false, false, none⟩ := by
  have e : wk3 A B = ⟨9, Upd (fun _ => blank) 3 ⟨A, false, false⟩, [(3, B)], false, false, none⟩ := by unfold wk3; rw [wk3_is h h']
  unfold wk4
  rw [e]
  simp [crashed, settled, come1, pickOf, left, Upd]
theorem wk4_reads {A B : d_Bs} (h : A.length = 512) (h' : B.length = 512) : readE (wk4 A B) p0 3 = 0 ∧ readB (wk4 A B) p0 3 = some (B.take 4 ++ A.drop 4) ∧ readE (wk4 A B) p0 9 = 1 ∧ readB (wk4 A B) p0 9 = none := by
  rw [wk4_is h h']
  simp [readE, readB, idle, p0, tells, lastOf, Upd]

section
variable {ops : Array Oper} {Q : Exit → Act → World → Prop}
theorem ex_cv {ρ : Operand → Value} {o : Oper} {x : Operand} {sp : Option Addr} {n cap : Nat} {l : d_Bs} {w : World} (ho : o.op = .convert 29 9 x) (hx : ρ x = .slice sp n cap) (hn : l.length = n) (hs : SrcA w sp l) : (execOp ρ o).run Tryd.prog w = .ok (.value (.string (bstr l))) w := by
  subst hn
  have hr := conv_str (cap := cap) hs
  unfold execOp
  simp only [ho]
  simp [hx, hr, Result.andThen]
end
theorem SrcA.d_take {w : World} {sp : Option Addr} {l : d_Bs} (h : SrcA w sp l) (k : Nat) : SrcA w sp (l.take k) := fun h0 => by
  have hl : 0 < l.length := by simp at h0; omega
  obtain ⟨g, o, e, hg, hc⟩ := h hl
  refine ⟨g, o, e, hg, fun j hj => ?_⟩
  have hj' : j < l.length := by simp at hj; omega
  rw [hc j hj']
  have hjk : j < k := by simp at hj; omega
  simp [List.getD_eq_getElem?_getD, List.getElem?_take, hjk]
theorem SrcA.drop {w : World} {g : Nat} {l : d_Bs} (h : SrcA w (some ⟨g, 0, none⟩) l) (k : Nat) : SrcA w (some ⟨g, k, none⟩) (l.drop k) := fun h0 => by
  have hl : 0 < l.length := by simp at h0; omega
  obtain ⟨g', o, e, hg, hc⟩ := h hl
  cases e
  refine ⟨_, _, rfl, hg, fun j hj => ?_⟩
  have hj' : k + j < l.length := by simp at hj; omega
  have := hc (k + j) hj'
  rw [Nat.zero_add] at this
  rw [this]
  simp [List.getD_eq_getElem?_getD]
theorem ex_addS {ρ : Operand → Value} {o : Oper} {x y : Operand} {l m : d_Bs} {w : World} (hlm : l.length + m.length ≤ 1000000) (ho : o.op = .binOp .add 9 x y 9) (hx : ρ x = .string (bstr l)) (hy : ρ y = .string (bstr m)) : (execOp ρ o).run Tryd.prog w = .ok (.value (.string (bstr (l ++ m)))) w := by
  rw [← bstr_add]
  unfold execOp
  simp only [ho]
  go_simp
  rw [bstr_size, bstr_size]
  omega
end Go.Proofs.YtmgagalhpkieoaaDoor
