/- Rot, Bad, Stick; a disk made. -/
import Derived.Test.YtneemllgimeacaaAl
namespace Go.Proofs.Ytneemllgimeacaa
open Go.RowKit

section
variable {ops : Array Oper} {Q : Exit → Act → World → Prop} {S : World → Prop}
theorem wpG_copyA {i : Nat} {r : Tr} {a : Act} {w : World} (o : Oper) (hi : ops.toList[i]? = some o) (hw : Region.wanted o (yielded ops a.tmps) = true) (d s : Operand)
    (ho : o.op = .call { callee := .builtin .copy, args := #[d, s], argTypes := #[42, 42] }) {g cap : Nat} {sp : Option Addr} {k : Bk} {b : Bs} (hd : a.eval d = .slice (some ⟨g, 0, none⟩) 512 512) (hs : a.eval s = .slice sp 512 cap)
    (hk : k.b.length = 512) (hb : b.length = 512) (hg : Blk w g (bcells k) 89) (hsrc : SrcA w sp b)
    (h : ∀ w', Blk w' g (bcells (over k b 512)) 89 → Chg (fun i => i = g) w w' → S w' ∧ wpG Try.prog ops Q r S (a.put o.dst (goInt (b.map V8).length)) w') : wpG Try.prog ops Q (.step i r) S a w := by
  refine wpG_bare o hi hw fun K hK => ?_
  obtain ⟨gb, ob, rfl, _, hcl⟩ := hsrc (by omega)
  refine wpList_copy_own rfl d s 42 42 ho 5 Try.underlying42 sizeB g 0 512 512 ⟨gb, ob, none⟩ 512 cap hd hs (bcells k).toArray 89 hg (b.map V8) (by simp [hb]) (src_cell hcl) (by simp [bcells_length hk, hb]) (one_v8 _) ?_
  have e : splice (bcells k) 0 (b.map V8) = bcells (over k b 512) := by
    have := splice_over hk hb (Nat.le_refl 512)
    rw [List.take_of_length_le (by omega)] at this
    exact this
  have hx := h (w.setRow g (splice (bcells k) 0 (b.map V8)).toArray) (by rw [← e]; exact hg.row _) ((Chg.refl (fun i => i = g) _).setRow (.inl rfl) _)
  exact wpG_list_nil (hK _ _ S (fun _ h => h) hx.1 hx.2)
end
def rotK (b : Bs) (k : Bk) : Bk := if b.length = 512 then ⟨b, k.bad, k.stuck⟩ else k
theorem rotK_over {b : Bs} {k : Bk} (hb : b.length = 512) (hk : k.b.length = 512) : over k b 512 = rotK b k := by
  unfold over rotK
  rw [if_pos hb, List.take_of_length_le (by omega), List.drop_of_length_le (by omega), List.append_nil]
theorem rotf_any (B X cap : Nat) (sp : Option Addr) (b : Bs) (k : Bk) (w : World) (hb : b.length = 512) (hk : k.b.length = 512) (hB : Blk w B (bcells k) 89) (hS : SrcA w sp b) (hX : w.cell? ⟨X, 0, none⟩ = some (.slice sp 512 cap)) :
    Calls Try.prog 52 #[.pointer (some ⟨B, 0, none⟩), .pointer (some ⟨X, 0, none⟩)] w fun e w' => e = .returned (.tuple #[]) ∧ Blk w' B (bcells (rotK b k)) 89 ∧ Chg (fun i => i = B) w w' := by
  have HB := Lib.hid hB
  have HS := Lib.hid hS
  have HX := Lib.hid hX
  clear hB hS hX
  go_enter Try.func52, Try.ntmps52
  refine wp_region_sched (.take 0 (.take 1 (.take 2 (.take 3 (.step 4 (.step 5 (.nil))))))) (by kernel_rfl) (by kernel_rfl) (fun d _ _ _ _ h => by cases d <;> exact h) (fun _ => True) trivial ?_
  refine wpG_take _ (.pointer (some ⟨B, 0, none⟩)) rfl (by rfl) (fun Y hY => by rfl) ?_
  (try simp only [Act.put, List.setIfInBounds_toArray, List.set_cons_zero, List.set_cons_succ])
  refine wpG_take _ (.pointer (some ⟨B, 0, none⟩)) rfl (by rfl) (fun Y hY => ex_nc rfl rfl) ?_
  (try simp only [Act.put, List.setIfInBounds_toArray, List.set_cons_zero, List.set_cons_succ])
  refine wpG_take _ (.pointer (some ⟨B, 0, none⟩)) rfl (by rfl) (fun Y hY => ex_fa89 rfl rfl) ?_
  (try simp only [Act.put, List.setIfInBounds_toArray, List.set_cons_zero, List.set_cons_succ])
  refine wpG_take _ (.slice (some ⟨B, 0, none⟩) 512 512) rfl (by rfl) (fun Y hY => ex_sl87 rfl rfl) ?_
  (try simp only [Act.put, List.setIfInBounds_toArray, List.set_cons_zero, List.set_cons_succ])
  refine wpG_mk _ rfl (by rfl) (.slice sp 512 cap) w.drew (ex_ld42 rfl rfl HX.out) (fun _ => True) trivial (fun _ h => h) ?_
  (try simp only [Act.put, List.setIfInBounds_toArray, List.set_cons_zero, List.set_cons_succ])
  refine wpG_copyA _ rfl (by rfl) (.tmp 6) (.tmp 7) rfl rfl rfl hk hb (Blk.drew HB.out) (SrcA.drew HS.out) ?_
  intro w' h1 h2
  refine ⟨trivial, ?_⟩
  (try simp only [Act.put, List.setIfInBounds_toArray, List.set_cons_zero, List.set_cons_succ])
  refine wpG_nil ?_
  have HB' := Lib.hid h1
  have HC' := Lib.hid h2
  clear h1 h2
  go_wp2_with fail
  go_end0
  refine ⟨rfl, ?_, (Chg.refl _ w).drew.trans' HC'.out⟩
  rw [← rotK_over hb hk]
  exact HB'.out
theorem bcells_bad (k : Bk) (h : k.b.length = 512) (x : Bool) : (bcells k).set 512 (.bool x) = bcells { k with bad := x } := by
  unfold bcells
  rw [List.set_append_right _ _ (by simp [h])]
  simp [h]
theorem bcells_stuck (k : Bk) (h : k.b.length = 512) (x : Bool) : (bcells k).set 513 (.bool x) = bcells { k with stuck := x } := by
  unfold bcells
  rw [List.set_append_right _ _ (by simp [h])]
  simp [h]
theorem badf_any (B : Nat) (k : Bk) (w : World) (hk : k.b.length = 512) (hB : Blk w B (bcells k) 89) :
    Calls Try.prog 53 #[.pointer (some ⟨B, 0, none⟩)] w fun e w' => e = .returned (.tuple #[]) ∧ Blk w' B (bcells { k with bad := true }) 89 ∧ Chg (fun i => i = B) w w' := by
  have HB := Lib.hid hB
  have c := hB.bad hk
  have f := hB.free 512
  clear hB
  go_enter Try.func53, Try.ntmps53
  go_wp2_with fail
  go_end0
  exact ⟨rfl, by rw [← bcells_bad _ hk]; exact HB.out.set 512 _, chg1 512 _⟩
theorem stickf_any (B : Nat) (k : Bk) (w : World) (hk : k.b.length = 512) (hB : Blk w B (bcells k) 89) :
    Calls Try.prog 54 #[.pointer (some ⟨B, 0, none⟩)] w fun e w' => e = .returned (.tuple #[]) ∧ Blk w' B (bcells { k with stuck := true }) 89 ∧ Chg (fun i => i = B) w w' := by
  have HB := Lib.hid hB
  have c := hB.stuck hk
  have f := hB.free 513
  clear hB
  go_enter Try.func54, Try.ntmps54
  go_wp2_with fail
  go_end0
  exact ⟨rfl, by rw [← bcells_stuck _ hk]; exact HB.out.set 513 _, chg1 513 _⟩
theorem cf52 (args : Array Value) (w : World) : (callFunc 52 args).run Try.prog w = .ok (.enter 52 args) w := by go_simp
theorem cf53 (args : Array Value) (w : World) : (callFunc 53 args).run Try.prog w = .ok (.enter 53 args) w := by go_simp
theorem cf54 (args : Array Value) (w : World) : (callFunc 54 args).run Try.prog w = .ok (.enter 54 args) w := by go_simp
/-- What a fault leaves. -/
def Hurt (D Q : Nat) (S : Nat → Prop) (r : Int × Dsk) (w : World) (e : Ending) (w' : World) : Prop :=
  e = .returned (.int .i64 r.1) ∧ DkAt w' D Q (Ext S w w') r.2 ∧ Chg S w w'
set_option maxRecDepth 100000 in
theorem bad_any (D Q : Nat) (S : Nat → Prop) (s : Dsk) (ad : Nat) (w : World) (ha : ad < 65536) (h : DkAt w D Q S s) (hq : Q < w.heap.size) (hcn : s.cache.length < 1000000) :
    Calls Try.prog 28 #[.pointer (some ⟨D, 0, none⟩), .int .u16 (ad : Int)] w (Hurt D Q S (ailed s ad 512 (fun k => { k with bad := true })) w) := by
  have H := Lib.hid h
  have HCN := Lib.hid hcn
  clear h hcn
  go_enter Try.func28, Try.ntmps28
  go_wp2_with (first | (go_at_call 51; refine (ail_any D Q S s ad 512 53 #[] (fun k => { k with bad := true }) (fun _ => True) _ ha H.out hq HCN.out (fun _ h => h) cf53 (fun _ _ => trivial) (fun B k w _ _ hk hB => badf_any B k w hk hB)).mono ?_; rintro e w1 ⟨rfl, hd, hc⟩; have HD := Lib.hid hd; have HC := Lib.hid hc; clear hd hc) | fail)
  go_ret
  exact ⟨rfl, HD.out, HC.out⟩
set_option maxRecDepth 100000 in
theorem stick_any (D Q : Nat) (S : Nat → Prop) (s : Dsk) (ad : Nat) (w : World) (ha : ad < 65536) (h : DkAt w D Q S s) (hq : Q < w.heap.size) (hcn : s.cache.length < 1000000) :
    Calls Try.prog 29 #[.pointer (some ⟨D, 0, none⟩), .int .u16 (ad : Int)] w (Hurt D Q S (ailed s ad 512 (fun k => { k with stuck := true })) w) := by
  have H := Lib.hid h
  have HCN := Lib.hid hcn
  clear h hcn
  go_enter Try.func29, Try.ntmps29
  go_wp2_with (first | (go_at_call 51; refine (ail_any D Q S s ad 512 54 #[] (fun k => { k with stuck := true }) (fun _ => True) _ ha H.out hq HCN.out (fun _ h => h) cf54 (fun _ _ => trivial) (fun B k w _ _ hk hB => stickf_any B k w hk hB)).mono ?_; rintro e w1 ⟨rfl, hd, hc⟩; have HD := Lib.hid hd; have HC := Lib.hid hc; clear hd hc) | fail)
  go_ret
  exact ⟨rfl, HD.out, HC.out⟩
set_option maxRecDepth 100000 in
set_option maxHeartbeats 1000000 in
theorem rot_any (D Q : Nat) (S : Nat → Prop) (s : Dsk) (ad : Nat) (b : Bs) (sp : Option Addr) (n cap : Nat) (w : World) (ha : ad < 65536) (hbn : b.length = n) (hS : SrcA w sp b) (h : DkAt w D Q S s) (hq : Q < w.heap.size) (hcn : s.cache.length < 1000000) :
    Calls Try.prog 27 #[.pointer (some ⟨D, 0, none⟩), .int .u16 (ad : Int), .slice sp n cap] w (Hurt D Q S (ailed s ad n (rotK b)) w) := by
  have hc1 : Chg (fun _ => False) w (w.alloc (.cells #[.slice sp n cap] 42)) := Chg.of_below ((Below.refl _ _).alloc (Nat.le_refl _) _)
  have H1 := Lib.hid (h.chg hc1 (fun _ _ h => h))
  have HX := Lib.hid (show (w.alloc (.cells #[.slice sp n cap] 42)).cell? ⟨w.heap.size, 0, none⟩ = some (.slice sp n cap) from (Blk.new w [.slice sp n cap] 42).cell rfl)
  have HS1 : Hid (SrcA (w.alloc (.cells #[.slice sp n cap] 42)) sp b) := Lib.hid (hS.grown ((Below.refl _ _).alloc (Nat.le_refl _) _))
  have HC1 := Lib.hid hc1
  have HBN := Lib.hid hbn
  have HCN := Lib.hid hcn
  have HNQ := Lib.hid h.nq
  have hq1 : Q < (w.alloc (.cells #[.slice sp n cap] 42)).heap.size := by simp; omega
  have HQ1 := Lib.hid hq1
  have HKP : Hid (∀ w', Below (w.alloc (.cells #[.slice sp n cap] 42)).heap.size (w.alloc (.cells #[.slice sp n cap] 42)) w' → SrcA w' sp b ∧ w'.cell? ⟨w.heap.size, 0, none⟩ = some (.slice sp n cap)) := Lib.hid (fun w' hb => ⟨HS1.out.grown hb, (hb.cell (p := ⟨w.heap.size, 0, none⟩) (by simp)).trans HX.out⟩)
  clear hc1 hS h hcn hq1
  go_enter Try.func27, Try.ntmps27
  go_wp2_with fail
  refine (ail_any D Q S s ad n 52 #[.pointer (some ⟨w.heap.size, 0, none⟩)] (rotK b) (fun W => SrcA W sp b ∧ W.cell? ⟨w.heap.size, 0, none⟩ = some (.slice sp n cap)) _ ha H1.out HQ1.out HCN.out (fun k hk => ?_) cf52 HKP.out (fun B k W hn hK hk hB => ?_)).mono ?_
  · unfold rotK
    split
    · assumption
    · exact hk
  · subst hn
    exact rotf_any B w.heap.size cap sp b k W HBN.out hk hB hK.1 hK.2
  · rintro e w1 ⟨rfl, hd, hc⟩
    have HD := Lib.hid hd
    have HC := Lib.hid hc
    clear hd hc
    go_wp2_with fail
    go_ret
    refine ⟨rfl, HD.out.mono (Ext.trans (by simp)) (fun hh => ?_) (fun k hk => ?_), (HC1.out.mono (fun _ h => h.elim)).trans' HC.out⟩
    · rcases hh with hh | hh
      · exact HNQ.out hh
      · omega
    · rcases hk with hk | hk
      · exact Nat.lt_of_lt_of_le (H1.out.lt k hk) HC.out.size
      · exact hk.2
theorem ail_nil (a n : Int) (v : Value) (w : World) : Calls Try.prog 51 #[.pointer none, .int .u16 a, .int .i64 n, v] w fun e w' => e = .returned (.int .i64 2) ∧ w = w' := by
  go_enter Try.func51, Try.ntmps51
  go_wp2_with fail
  go_ret
  exact ⟨rfl, rfl⟩
theorem bad_nil (a : Int) (w : World) : Calls Try.prog 28 #[.pointer none, .int .u16 a] w fun e w' => e = .returned (.int .i64 2) ∧ w = w' := by
  go_enter Try.func28, Try.ntmps28
  go_wp2_with (first | (go_at_call 51; refine (ail_nil _ _ _ _).mono ?_; rintro e w' ⟨rfl, rfl⟩) | fail)
  go_ret
  exact ⟨rfl, rfl⟩
theorem stick_nil (a : Int) (w : World) : Calls Try.prog 29 #[.pointer none, .int .u16 a] w fun e w' => e = .returned (.int .i64 2) ∧ w = w' := by
  go_enter Try.func29, Try.ntmps29
  go_wp2_with (first | (go_at_call 51; refine (ail_nil _ _ _ _).mono ?_; rintro e w' ⟨rfl, rfl⟩) | fail)
  go_ret
  exact ⟨rfl, rfl⟩
theorem rot_nil (a : Int) (sp : Option Addr) (n c : Nat) (w : World) : Calls Try.prog 27 #[.pointer none, .int .u16 a, .slice sp n c] w fun e w' => e = .returned (.int .i64 2) ∧ Below w.heap.size w w' := by
  go_enter Try.func27, Try.ntmps27
  go_wp2_with (first | (go_at_call 51; refine (ail_nil _ _ _ _).mono ?_; rintro e w' ⟨rfl, rfl⟩) | fail)
  go_ret
  exact ⟨rfl, (Below.refl _ _).alloc (Nat.le_refl _) _⟩
theorem idle_nopower (D : Nat) (w : World) (c0 : w.cell? ⟨D, 0, none⟩ = some (.pointer none)) : Calls Try.prog 36 #[.pointer (some ⟨D, 0, none⟩)] w fun e w' => e = .returned (.int .i64 2) ∧ w = w' := by
  go_enter Try.func36, Try.ntmps36
  go_wp2
  go_ret
  exact ⟨rfl, rfl⟩
theorem idle_cells (D Q : Nat) (p : Pw) (hon : p.on = true) (w : World) (c0 : w.cell? ⟨D, 0, none⟩ = some (.pointer (some ⟨Q, 0, none⟩))) (c4 : w.cell? ⟨D, 4, none⟩ = some (.bool false)) (hp : PwAt w Q p) : Calls Try.prog 36 #[.pointer (some ⟨D, 0, none⟩)] w fun e w' => e = .returned (.int .i64 0) ∧ w = w' := by
  have HP := Lib.hid hp
  clear hp
  go_enter Try.func36, Try.ntmps36
  go_wp2_with (go_at_call 14; refine (is_any _ _ _ HP.out).mono ?_; rw [hon]; rintro e w' ⟨rfl, rfl⟩)
  go_ret
  exact ⟨rfl, rfl⟩
set_option maxRecDepth 100000 in
theorem new_nil (n : Int) (w : World) : Calls Try.prog 11 #[.int .i64 n, .pointer none] w fun e w' => e = .returned (.tuple #[.pointer none, .int .i64 2]) ∧ Below w.heap.size w w' := by
  have hmm := @run_makeMap Try.prog
  go_enter Try.func11, Try.ntmps11
  go_wp2_with (first | (go_at_call 36; refine (idle_nopower _ _ (by simp)).mono ?_; rintro e w' ⟨rfl, rfl⟩) | fail)
  go_ret2
  exact ⟨rfl, ((Below.refl _ _).alloc (Nat.le_refl _) _).alloc (by simp) _⟩
/-- The world in which a disk was laid. -/
theorem new_world (n : Int) (Q : Nat) (p : Pw) (w : World) (hp : PwAt w Q p) : PwAt ((w.alloc (.map #[] 0)).alloc (.cells #[.pointer (some ⟨Q, 0, none⟩), .int .i64 n, .map (some w.heap.size), .slice none 0 0, .bool false, .bool false, .bool false, .int .u16 0] 75)) Q p :=
  ⟨(hp.blk.alloc _).alloc _, hp.lo, hp.hi⟩
set_option maxRecDepth 100000 in
theorem new_bad (n : Int) (Q : Nat) (p : Pw) (hon : p.on = true) (w : World) (hp : PwAt w Q p) (hn : n < 1 ∨ 4096 < n) : Calls Try.prog 11 #[.int .i64 n, .pointer (some ⟨Q, 0, none⟩)] w fun e w' => e = .returned (.tuple #[.pointer none, .int .i64 1]) ∧ Below w.heap.size w w' := by
  have hmm := @run_makeMap Try.prog
  have HP := Lib.hid hp
  clear hp
  by_cases h1 : n < 1
  · clear hn
    go_enter Try.func11, Try.ntmps11
    go_wp2_with (first | (go_at_call 36; refine (idle_cells _ Q p hon _ (by simp) (by simp) (by simpa using new_world n Q p w HP.out)).mono ?_; rintro e w' ⟨rfl, rfl⟩) | fail)
    go_ret2
    exact ⟨rfl, ((Below.refl _ _).alloc (Nat.le_refl _) _).alloc (by simp) _⟩
  · have h2 : 4096 < n := by omega
    clear hn
    go_enter Try.func11, Try.ntmps11
    go_wp2_with (first | (go_at_call 36; refine (idle_cells _ Q p hon _ (by simp) (by simp) (by simpa using new_world n Q p w HP.out)).mono ?_; rintro e w' ⟨rfl, rfl⟩) | fail)
    go_ret2
    exact ⟨rfl, ((Below.refl _ _).alloc (Nat.le_refl _) _).alloc (by simp) _⟩
set_option maxRecDepth 100000 in
theorem new_ok (n : Nat) (Q : Nat) (p : Pw) (hon : p.on = true) (w : World) (hp : PwAt w Q p) (h1 : 1 ≤ n) (h2 : n ≤ 4096) : Calls Try.prog 11 #[.int .i64 (n : Int), .pointer (some ⟨Q, 0, none⟩)] w fun e w' => ∃ D S, e = .returned (.tuple #[.pointer (some ⟨D, 0, none⟩), .int .i64 0]) ∧ DkAt w' D Q S (fresh n) ∧ (∀ k, S k → w.heap.size ≤ k) ∧ Below w.heap.size w w' := by
  have hmm := @run_makeMap Try.prog
  have HP := Lib.hid hp
  have hq := hp.blk.lt
  clear hp
  have h3 : ¬ ((n : Int) < 1) := by omega
  have h4 : ¬ (4096 < (n : Int)) := by omega
  go_enter Try.func11, Try.ntmps11
  go_wp2_with (first | (go_at_call 36; refine (idle_cells _ Q p hon _ (by simp) (by simp) (by simpa using new_world n Q p w HP.out)).mono ?_; rintro e w' ⟨rfl, rfl⟩) | fail)
  go_ret2
  refine ⟨_, _, rfl, DkAt.fresh (M := w.heap.size) (D := w.heap.size + 1) ?_ ((MapAt.made w).kept (Below.heap_alloc _ _ _ (by simp))) (by omega) (by omega) (by omega), fun k hk => by rcases hk with rfl | rfl <;> omega, ((Below.refl _ _).alloc (Nat.le_refl _) _).alloc (by simp) _⟩
  exact Blk.new' _ _ _ _ _ (by simp) rfl
end Go.Proofs.Ytneemllgimeacaa
