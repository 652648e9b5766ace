/- The cache settled: each write comes to its block, as far as is said. -/
import Derived.Test.YtmgagalhpkieoaaGreatDoorM04
namespace Go.Proofs.YtmgagalhpkieoaaGreatDoor
open Go.RowKit

def come1 (m : Nat → Bk) (a : Nat) (b : d_Bs) (n : Int) : Nat → Bk := if n = -1 then m else Upd m a ⟨b.take n.toNat ++ (m a).b.drop n.toNat, false, (m a).stuck⟩
def settled (c : Nat → Int) (l : List (Nat × d_Bs)) (m : Nat → Bk) : Nat → (Nat → Bk)
  | 0 => m
  | k + 1 => match l[k]? with | some x => come1 (settled c l m k) x.1 x.2 (c k) | none => settled c l m k
theorem settled_succ {c : Nat → Int} {l : List (Nat × d_Bs)} {m : Nat → Bk} {k : Nat} {x : Nat × d_Bs} (h : l[k]? = some x) : settled c l m (k + 1) = come1 (settled c l m k) x.1 x.2 (c k) := by
  simp [settled, h]
theorem Taken.turned {F S : Nat → Prop} {w w' : World} {v : Value} {L : List (Nat × Nat × d_Bs)} (h : Taken w v S L) (hc : Chg F w w') (hn : ∀ k cs, F k → ¬ Blk w k cs 5) (hn2 : ∀ k cs, F k → ¬ Blk w k cs 187) : Taken w' v S L := by
  refine ⟨h.1.turned hc hn, ?_⟩
  rcases h.2 with h3 | ⟨h3, g, h4, h5⟩
  · exact .inl h3
  · refine .inr ⟨owns_chg h3 hc (fun g' hg' hf => ?_), g, h4, h5⟩
    obtain ⟨cs, hb⟩ := owns_blk h3 hg'
    exact hn2 _ _ hf hb
theorem Taken.form {S : Nat → Prop} {w : World} {v : Value} {L : List (Nat × Nat × d_Bs)} (h : Taken w v S L) : ∃ sp cap, v = .slice sp L.length cap ∧ L.length ≤ cap := by
  rcases h.2 with ⟨sp, rfl, rfl⟩ | ⟨h3, _⟩
  · exact ⟨sp, 0, rfl, by simp⟩
  · rcases h3.2 with ⟨rfl, e⟩ | ⟨g, cap, cur, rfl, _, _, hc, _⟩
    · exact ⟨none, 0, by rw [e], by omega⟩
    · exact ⟨_, cap, rfl, hc⟩
def SetRel (D Q M : Nat) (v0 : Value) (to : Nat) (S : Nat → Prop) (s : Dsk) (L : List (Nat × Nat × d_Bs)) (c : Nat → Int) (v : Value) (w1 : World) (i : Value) (wr : World) : Prop :=
  ∃ k : Nat, k ≤ L.length ∧ i = .int .i64 (k : Int) ∧ DkIn wr D Q M v0 to S { s with mem := settled c s.cache s.mem k, cache := [] } ∧ Taken wr v S L ∧ Chg S w1 wr
theorem SetRel.next {D Q M : Nat} {v0 : Value} {to : Nat} {S : Nat → Prop} {s : Dsk} {L : List (Nat × Nat × d_Bs)} {c : Nat → Int} {v : Value} {w1 wr w' : World} {k : Nat} (hk : k < L.length) (hd : DkIn wr D Q M v0 to S { s with mem := settled c s.cache s.mem k, cache := [] }) (ht : Taken wr v S L) (hc : Chg S w1 wr)
    (h : Chg (fun i => i = M) wr w') (hm : MapAt w' M (settled c s.cache s.mem (k + 1))) : SetRel D Q M v0 to S s L c v w1 (.int .i64 ((k + 1 : Nat) : Int)) w' := by
  have hnoM : ∀ (t : Nat) j cs, j = M → ¬ Blk wr j cs t := fun t j cs e hb => by subst e; exact hd.map.noBlk hb
  refine ⟨k + 1, hk, rfl, ⟨hd.blk.chg h (fun e => hnoM _ _ _ e hd.blk), hm, hd.cache.turned h (hnoM 5) (fun j cs e hb => hnoM 187 j cs.toList e (by unfold Blk; simpa using hb)), hd.sd, hd.sm, hd.sq, fun j hj => Nat.lt_of_lt_of_le (hd.lt j hj) h.size, hd.tlt, hd.teq, hd.nlt⟩, ht.turned h (hnoM 5) (hnoM 187), hc.trans h (fun i e => .inl (by rw [e]; exact hd.sm))⟩
structure Mid (wr X : World) (D M B5 B7 gb : Nat) (dc : List Value) (a : Nat) (b : d_Bs) (mem : Nat → Bk) (kk : Bk) : Prop where
  chg : Chg (fun i => i = M) wr X
  dsk : Blk X D dc 142
  map : MapAt X M mem
  row : Blk X B5 (wcells a gb) 187
  src : Blk X gb (b.map V8) 5
  blk : Blk X B7 (bcells kk) 156
theorem Mid.turn {wr X X' : World} {D M B5 B7 gb : Nat} {dc : List Value} {a : Nat} {b : d_Bs} {mem : Nat → Bk} {kk kk' : Bk} (h : Mid wr X D M B5 B7 gb dc a b mem kk) (hB : wr.heap.size ≤ B7) (hc : Chg (fun i => i = B7) X X') (hb : Blk X' B7 (bcells kk') 156) : Mid wr X' D M B5 B7 gb dc a b mem kk' :=
  ⟨h.chg.trans hc (fun i e => .inr (by omega)), h.dsk.chg hc (fun e => by subst e; exact absurd (h.dsk.same h.blk) (by decide)), h.map.chg hc (fun e => by subst e; exact h.map.noBlk h.blk),
    h.row.chg hc (fun e => by subst e; exact absurd (h.row.same h.blk) (by decide)), h.src.chg hc (fun e => by subst e; exact absurd (h.src.same h.blk) (by decide)), hb⟩
theorem bcells_good (k : Bk) (h : k.b.length = 512) : (bcells k).set 512 (.bool false) = bcells { k with bad := false } := by
  unfold bcells
  rw [List.set_append_right _ _ (by simp [h])]
  simp [h]
set_option maxRecDepth 100000 in
set_option maxHeartbeats 4000000 in
theorem settle_any (D Q : Nat) (S : Nat → Prop) (s : Dsk) (w : World) (f : Nat) (caps : Array Value) (Kp : World → Prop) (c : Nat → Int) (h : DkAt w D Q S s) (hcn : s.cache.length < 1000000) (hK : Kp w) (hKp : ∀ w w', Kp w → Chg S w w' → Kp w')
    (hc0 : ∀ i, c i = -1 ∨ (0 ≤ c i ∧ c i ≤ 512)) (hcf : ∀ (args : Array Value) (w : World), (callFunc f args).run Tryz.prog w = .ok (.enter f args) w) (hcall : ∀ (i : Nat) (w : World), i < 1000000 → Kp w → Calls Tryz.prog f (#[.int .i64 (i : Int)] ++ caps) w fun e w' => e = .returned (.int .i64 (c i)) ∧ w = w') :
    Calls Tryz.prog 67 #[.pointer (some ⟨D, 0, none⟩), fval f caps] w fun e w' => e = .returned (.tuple #[]) ∧ DkAt w' D Q S { s with mem := settled c s.cache s.mem s.cache.length, cache := [] } ∧ Chg S w w' := by
  have H := Lib.hid h
  have HK := Lib.hid hK
  have HKP := Lib.hid hKp
  have HC0 := Lib.hid hc0
  have HCALL := Lib.hid hcall
  clear h hK hKp hc0 hcall
  unfold fval
  go_enter Tryz.func67, Tryz.ntmps67
  go_wp2_with (first | (go_at_call 102; refine (drain_any D Q S s _ H.out).mono ?_; rintro e w1 ⟨v, L, rfl, hL, hT, hd1, hw1⟩; obtain ⟨sp, cap, hv, hcap⟩ := hT.form; subst hv; have HL := Lib.hid hL; have HT := Lib.hid hT; have HD1 := Lib.hid hd1; have HW1 := Lib.hid hw1; clear hL hT hd1 hw1) | fail)
  have hlen : L.length = s.cache.length := by rw [← HL.out, List.length_map]
  have HLEN := Lib.hid hlen
  rw [← hlen] at hcn
  obtain ⟨N, hN⟩ : ∃ N, L.length = N := ⟨_, rfl⟩
  have HN := Lib.hid hN
  rw [hN] at hcn hcap ⊢
  clear hlen hN
  obtain ⟨M, v0, to, hd⟩ := HD1.out
  have HD := Lib.hid hd
  clear hd HD1
  have HR := Lib.hid (show SetRel D Q M v0 to S s L c (.slice sp N cap) w1 (.int .i64 0) w1 from ⟨0, Nat.zero_le _, rfl, HD.out, by rw [← HN.out]; exact HT.out, Chg.refl _ _⟩)
  go_loopw [11] (fun i wr => SetRel D Q M v0 to S s L c (.slice sp N cap) w1 i wr) (fun i _ => N - (intOf i).toNat)
  case atStart => exact HR.out
  case round =>
    clear HR HD HT
    obtain ⟨k, hk, rfl, hd, hT, hcw⟩ := hrel
    by_cases hlt : k < N
    · have hkL : k < L.length := by have := HN.out; omega
      obtain ⟨x, hx⟩ : ∃ x, L[k]? = some x := ⟨_, List.getElem?_eq_getElem hkL⟩
      have hT2 : wr.ownsRow 0 187 2 (.slice sp N cap) L.length (crow L) ∧ ∃ g, (Value.slice sp N cap).ownBlock = some g ∧ S g := by
        rcases hT.2 with ⟨_, _, h⟩ | h
        · subst h; simp at hkL
        · exact h
      obtain ⟨e4, g, e5, e6⟩ := hT2
      obtain ⟨rfl, d0, d1⟩ := row_at e4 e5 hx
      obtain ⟨hx1, hx2, hx3, hx4⟩ := hT.1 x (List.mem_of_getElem? hx)
      have hcx : s.cache[k]? = some (x.1, x.2.2) := by rw [← HL.out, List.getElem?_map, hx]; rfl
      obtain ⟨-, -, c2, -⟩ := hd.c
      obtain ⟨a, gb, b⟩ := x
      simp only at d0 d1 hx1 hx2 hx3 hx4 hcx
      have HCX := Lib.hid hcx
      have HDr := Lib.hid hd
      have HTr := Lib.hid hT
      have HCW := Lib.hid hcw
      have HX3 := Lib.hid hx3
      have HX2 := Lib.hid hx2
      clear hcx hd hT hcw hx e4 e5 e6 hx4 hkL hx3 hx2
      obtain ⟨n, hn⟩ : ∃ n, c k = n := ⟨_, rfl⟩
      have HNN := Lib.hid hn
      have hn0 := HC0.out k
      rw [hn] at hn0
      clear hn
      have hkm : k < 1000000 := by omega
      have hwk := IntWalk.i64_in ((k : Int) + 1) (by omega)
      by_cases h1 : n = -1
      · subst h1
        clear hn0
        go_wp2_with (first
          | (refine (HCALL.out k _ hkm (HKP.out _ _ (HKP.out _ _ (HKP.out _ _ HK.out HW1.out) HCW.out) (Chg.of_below ((Below.refl _ _).alloc (Nat.le_refl _) _)))).mono ?_; rw [HNN.out]; rintro e w' ⟨rfl, rfl⟩)
          | fail)
        go_roundw
        case rel =>
          refine SetRel.next (by have := HN.out; omega) HDr.out HTr.out HCW.out (Chg.of_below ((Below.refl _ _).alloc (Nat.le_refl _) _)) ?_
          rw [settled_succ HCX.out, HNN.out]
          simp only [come1, if_true]
          exact HDr.out.map.kept (Below.heap_alloc _ _ _ HDr.out.map.lt)
        case measure => simp [intOf]; omega
      · obtain ⟨m, rfl⟩ : ∃ m : Nat, n = (m : Int) := ⟨n.toNat, by omega⟩
        have hm : m ≤ 512 := by omega
        have hne : (((m : Int)) == -1) = false := by simp
        clear hn0 h1
        go_wp2_with (first
          | (refine (HCALL.out k _ hkm (HKP.out _ _ (HKP.out _ _ (HKP.out _ _ HK.out HW1.out) HCW.out) (Chg.of_below ((Below.refl _ _).alloc (Nat.le_refl _) _)))).mono ?_; rw [HNN.out]; rintro e w' ⟨rfl, rfl⟩)
          | fail)
        obtain ⟨mem, hmem⟩ : ∃ mem, settled c s.cache s.mem k = mem := ⟨_, rfl⟩
        obtain ⟨B5, hB5⟩ : ∃ B5, wr.heap.size = B5 := ⟨_, rfl⟩
        have hX5 : Mid wr (wr.alloc (.cells #[Value.int .u16 (a : Int), Value.slice (some ⟨gb, 0, none⟩) 512 512] 187)) D M B5 B5 gb (dcells Q M v0 to { s with mem := settled c s.cache s.mem k, cache := [] }) a b mem blank ∨ (Chg (fun i => i = M) wr (wr.alloc (.cells #[Value.int .u16 (a : Int), Value.slice (some ⟨gb, 0, none⟩) 512 512] 187)) ∧ Blk (wr.alloc (.cells #[Value.int .u16 (a : Int), Value.slice (some ⟨gb, 0, none⟩) 512 512] 187)) B5 (wcells a gb) 187 ∧ (wr.alloc (.cells #[Value.int .u16 (a : Int), Value.slice (some ⟨gb, 0, none⟩) 512 512] 187)).heap.size = B5 + 1 ∧ MapAt (wr.alloc (.cells #[Value.int .u16 (a : Int), Value.slice (some ⟨gb, 0, none⟩) 512 512] 187)) M mem ∧ Blk (wr.alloc (.cells #[Value.int .u16 (a : Int), Value.slice (some ⟨gb, 0, none⟩) 512 512] 187)) D (dcells Q M v0 to { s with mem := settled c s.cache s.mem k, cache := [] }) 142 ∧ Blk (wr.alloc (.cells #[Value.int .u16 (a : Int), Value.slice (some ⟨gb, 0, none⟩) 512 512] 187)) gb (b.map V8) 5) :=
          .inr ⟨Chg.of_below ((Below.refl _ _).alloc (Nat.le_refl _) _), by rw [← hB5]; exact Blk.new wr (wcells a gb) 187, by rw [← hB5]; simp, by rw [← hmem]; exact HDr.out.map.kept (Below.heap_alloc _ _ _ HDr.out.map.lt), HDr.out.blk.alloc _, HX3.out.alloc _⟩
        have HMEM := Lib.hid hmem
        have HB5 := Lib.hid hB5
        rw [hB5]
        generalize (wr.alloc (.cells #[Value.int .u16 (a : Int), Value.slice (some ⟨gb, 0, none⟩) 512 512] 187)) = X at hX5 ⊢
        have hX5' := hX5.resolve_left (fun h => absurd (h.row.same h.blk) (by decide))
        clear hX5
        obtain ⟨hx5, hb5, hsz5, hmX, hdX, hgX⟩ := hX5'
        have hkb : (mem a).b.length = 512 := by obtain ⟨_, _, _, hh⟩ := hmX; exact hh a
        have HKB := Lib.hid hkb
        have HX := Lib.hid (show _ ∧ _ ∧ _ ∧ _ ∧ _ ∧ _ from ⟨hx5, hb5, hsz5, hmX, hdX, hgX⟩)
        clear hx5 hb5 hsz5 hmX hdX hgX hkb hmem hB5 c2 d0 d1
        refine wp_region_sched (.take 0 (.take 1 (.take 2 (.take 3 (.take 4 (.take 5 (.fork 6 (.step 7 (.step 8 (.nil))) 7 (.step 6 (.step 8 (.nil)))))))))) (by kernel_rfl) (by kernel_rfl) (fun d _ _ _ _ h => by cases d <;> exact h)
          (fun Y => Y.cell? ⟨D, 2, none⟩ = some (.map (some M)) ∧ Y.cell? ⟨B5, 0, none⟩ = some (.int .u16 (a : Int))) ⟨HX.out.2.2.2.2.1.cell rfl, HX.out.2.1.cell rfl⟩ ?_
        refine wpG_take _ (.pointer (some ⟨D, 0, none⟩)) rfl (by rfl) (fun Y hY => by rfl) ?_; try simp only [pS]
        refine wpG_take _ (.pointer (some ⟨D, 0, none⟩)) rfl (by rfl) (fun Y hY => ex_nc rfl rfl) ?_; try simp only [pS]
        refine wpG_take _ (.pointer (some ⟨D, 2, none⟩)) rfl (by rfl) (fun Y hY => ex_fa (by omega) rfl rfl) ?_; try simp only [pS]
        refine wpG_take _ (.map (some M)) rfl (by rfl) (fun Y hY => ex_ld72 rfl rfl hY.1) ?_; try simp only [pS]
        refine wpG_take _ (.pointer (some ⟨B5, 0, none⟩)) rfl (by rfl) (fun Y hY => ex_fa100 (by omega) rfl rfl) ?_; try simp only [pS]
        refine wpG_take _ (.int .u16 (a : Int)) rfl (by rfl) (fun Y hY => ex_ld41 rfl rfl hY.2) ?_; try simp only [pS]
        have h6 : Blk (X.drew.alloc (.cells (bcells blank).toArray 156)) X.heap.size (bcells blank) 156 := Blk.new X.drew _ _
        have h7 : MapAt (X.drew.alloc (.cells (bcells blank).toArray 156)) M mem := MapAt.kept (w := X) HX.out.2.2.2.1 (Below.heap_alloc X.drew _ _ HX.out.2.2.2.1.lt)
        have h8 : Mid wr ((X.drew.alloc (.cells (bcells blank).toArray 156)).setRow X.heap.size (bcells (mem a)).toArray) D M B5 X.heap.size gb (dcells Q M v0 to { s with mem := settled c s.cache s.mem k, cache := [] }) a b mem (mem a) := by
          have hm0 : Mid wr (X.drew.alloc (.cells (bcells blank).toArray 156)) D M B5 X.heap.size gb (dcells Q M v0 to { s with mem := settled c s.cache s.mem k, cache := [] }) a b mem blank :=
            ⟨HX.out.1.drew.alloc _, Blk.alloc (w := X.drew) HX.out.2.2.2.2.1 _, h7, Blk.alloc (w := X.drew) HX.out.2.1 _, Blk.alloc (w := X.drew) HX.out.2.2.2.2.2 _, h6⟩
          exact hm0.turn (by have h1 := HX.out.2.2.1; have h2 := HB5.out; omega) ((Chg.refl (fun i => i = X.heap.size) _).setRow (.inl rfl) _) (h6.row _)
        have hst : (X.drew.alloc (.cells (bcells blank).toArray 156)).heap.size = B5 + 2 := by simp [HX.out.2.2.1]
        have hs1 : (X.drew.alloc (.cells (bcells blank).toArray 156)).cell? ⟨D, 2, none⟩ = some (.map (some M)) ∧ (X.drew.alloc (.cells (bcells blank).toArray 156)).cell? ⟨B5, 0, none⟩ = some (.int .u16 (a : Int)) :=
          ⟨(Blk.alloc (w := X.drew) HX.out.2.2.2.2.1 _).cell rfl, (Blk.alloc (w := X.drew) HX.out.2.1 _).cell rfl⟩
        refine wpG_fork (d_wpG_mk _ rfl (by rfl) (BV (mem a)) X.drew (ex_look rfl rfl rfl (MapAt.kept (w := X) HX.out.2.2.2.1 rfl) hx1) _ ⟨Blk.cell (w := X.drew) HX.out.2.2.2.2.1 rfl, Blk.cell (w := X.drew) HX.out.2.1 rfl⟩ (fun _ h => h) ?_) (d_wpG_mk _ rfl (by rfl) (.pointer (some ⟨X.heap.size, 0, none⟩)) (X.drew.alloc (.cells (bcells blank).toArray 156)) (ex_alloc89 rfl) _ hs1 (fun _ h => h) ?_); try simp only [pS]
        refine d_wpG_mk _ rfl (by rfl) (.pointer (some ⟨X.heap.size, 0, none⟩)) (X.drew.alloc (.cells (bcells blank).toArray 156)) (ex_alloc89 rfl) _ hs1 (fun _ h => h) ?_; try simp only [pS]
        rotate_left; try simp only [pS]
        refine d_wpG_mk _ rfl (by rfl) (BV (mem a)) (X.drew.alloc (.cells (bcells blank).toArray 156)) (ex_look rfl rfl rfl h7 hx1) _ hs1 (fun _ h => h) ?_; try simp only [pS]
        all_goals
          refine wpG_st _ rfl (by rfl) ((X.drew.alloc (.cells (bcells blank).toArray 156)).setRow X.heap.size (bcells (mem a)).toArray) (ex_store89 rfl rfl rfl HKB.out zeros_length h6) _ ⟨h8.dsk.cell rfl, h8.row.cell rfl⟩ ⟨h8.dsk.cell rfl, h8.row.cell rfl⟩ (fun _ h => h) ?_
          refine wpG_nil ?_
          have hsz8 : ((X.drew.alloc (.cells (bcells blank).toArray 156)).setRow X.heap.size (bcells (mem a)).toArray).heap.size = B5 + 2 := by simp [HX.out.2.2.1]
          generalize ((X.drew.alloc (.cells (bcells blank).toArray 156)).setRow X.heap.size (bcells (mem a)).toArray) = X8 at h8 hsz8 ⊢
          rw [HX.out.2.2.1] at h8 ⊢
          clear h6 h7 hst hs1
          have H8 := Lib.hid h8
          have HS8 := Lib.hid hsz8
          clear h8 hsz8
          go_wp2_with fail
          refine wp_region_sched (.take 0 (.take 1 (.take 2 (.take 3 (.take 4 (.take 5 (.take 6 (.step 7 (.nil))))))))) (by kernel_rfl) (by kernel_rfl) (fun d _ _ _ _ h => by cases d <;> exact h)
            (fun Y => Y.cell? ⟨B5, 1, none⟩ = some (.slice (some ⟨gb, 0, none⟩) 512 512)) (H8.out.row.cell rfl) ?_
          refine wpG_take _ (.pointer (some ⟨B5 + 1, 0, none⟩)) rfl (by rfl) (fun Y hY => ex_fa89 rfl rfl) ?_; try simp only [pS]
          refine wpG_take _ (.slice (some ⟨B5 + 1, 0, none⟩) 512 512) rfl (by rfl) (fun Y hY => ex_sl87 rfl rfl) ?_; try simp only [pS]
          refine wpG_take _ (.pointer (some ⟨B5, 1, none⟩)) rfl (by rfl) (fun Y hY => ex_fa100 (by omega) rfl rfl) ?_; try simp only [pS]
          refine wpG_take _ (.slice (some ⟨gb, 0, none⟩) 512 512) rfl (by rfl) (fun Y hY => ex_ld42 rfl rfl hY) ?_; try simp only [pS]
          refine wpG_take _ (.int .i64 (m : Int)) rfl (by rfl) (fun Y hY => by rfl) ?_; try simp only [pS]
          refine wpG_take _ (.int .i64 (m : Int)) rfl (by rfl) (fun Y hY => by rfl) ?_; try simp only [pS]
          refine wpG_take _ (.slice (some ⟨gb, 0, none⟩) m m) rfl (by rfl) (fun Y hY => ex_sl42 rfl rfl rfl rfl hm) ?_; try simp only [pS]
          refine wpG_copy _ rfl (by rfl) (.tmp 29) (.tmp 34) rfl rfl rfl (fun _ => rfl) hm HKB.out HX2.out (Blk.drew H8.out.blk) (Blk.drew H8.out.src) ?_
          intro X9 hb9 hw9 hsz9
          have h9 : Mid wr X9 D M B5 (B5 + 1) gb (dcells Q M v0 to { s with mem := settled c s.cache s.mem k, cache := [] }) a b mem (over (mem a) b m) :=
            H8.out.turn (by have := HB5.out; omega) ((Chg.refl _ X8).drew.trans' hw9) hb9
          refine ⟨h9.row.cell rfl, ?_⟩; try simp only [pS]
          refine wpG_nil ?_
          have hov : (over (mem a) b m).b.length = 512 := over_length HKB.out HX2.out hm
          have HOV := Lib.hid hov
          have H9 := Lib.hid h9
          have cb := hb9.bad hov
          have fb := hb9.free 512
          clear h9 hb9 hw9 hsz9 hov
          go_wp2_with fail
          have h10 : Mid wr (X9.setCell ⟨B5 + 1, 512, none⟩ (.bool false)) D M B5 (B5 + 1) gb (dcells Q M v0 to { s with mem := settled c s.cache s.mem k, cache := [] }) a b mem { over (mem a) b m with bad := false } :=
            H9.out.turn (by have := HB5.out; omega) (d_chg1 512 (.bool false)) (by rw [← bcells_good _ HOV.out]; exact H9.out.blk.set 512 _)
          generalize (X9.setCell ⟨B5 + 1, 512, none⟩ (.bool false)) = X10 at h10 ⊢
          clear cb fb H9 H8
          obtain ⟨W', hrun, hmap', hgr⟩ := (MapAt.kept (w := X10) (w' := X10.drew) h10.map rfl).put hx1 (k := { over (mem a) b m with bad := false }) HOV.out
          have hcW : Chg (fun i => i = M) X10 W' := (Chg.refl _ X10).drew.trans (grown_chg hgr) (fun i hi => .inl hi)
          have hnoM : ∀ (t : Nat) j cs, Blk X10 j cs t → ¬ j = M := fun t j cs hb e => by subst e; exact h10.map.noBlk hb
          have hdW := h10.dsk.chg hcW (hnoM _ _ _ h10.dsk)
          have hrW := h10.row.chg hcW (hnoM _ _ _ h10.row)
          have hbW := h10.blk.chg hcW (hnoM _ _ _ h10.blk)
          refine wp_region_sched (.take 0 (.take 1 (.take 2 (.take 3 (.take 4 (.take 5 (.take 6 (.step 7 (.nil))))))))) (by kernel_rfl) (by kernel_rfl) (fun d _ _ _ _ h => by cases d <;> exact h)
            (fun Y => Y.cell? ⟨D, 2, none⟩ = some (.map (some M)) ∧ Y.cell? ⟨B5, 0, none⟩ = some (.int .u16 (a : Int)) ∧ Blk Y (B5 + 1) (bcells { over (mem a) b m with bad := false }) 156) ⟨h10.dsk.cell rfl, h10.row.cell rfl, h10.blk⟩ ?_
          refine wpG_take _ (.pointer (some ⟨D, 0, none⟩)) rfl (by rfl) (fun Y hY => by rfl) ?_; try simp only [pS]
          refine wpG_take _ (.pointer (some ⟨D, 0, none⟩)) rfl (by rfl) (fun Y hY => ex_nc rfl rfl) ?_; try simp only [pS]
          refine wpG_take _ (.pointer (some ⟨D, 2, none⟩)) rfl (by rfl) (fun Y hY => ex_fa (by omega) rfl rfl) ?_; try simp only [pS]
          refine wpG_take _ (.map (some M)) rfl (by rfl) (fun Y hY => ex_ld72 rfl rfl hY.1) ?_; try simp only [pS]
          refine wpG_take _ (.pointer (some ⟨B5, 0, none⟩)) rfl (by rfl) (fun Y hY => ex_fa100 (by omega) rfl rfl) ?_; try simp only [pS]
          refine wpG_take _ (.int .u16 (a : Int)) rfl (by rfl) (fun Y hY => ex_ld41 rfl rfl hY.2.1) ?_; try simp only [pS]
          refine wpG_take _ (BV { over (mem a) b m with bad := false }) rfl (by rfl) (fun Y hY => ex_load89 rfl rfl HOV.out hY.2.2) ?_; try simp only [pS]
          refine wpG_st _ rfl (by rfl) W' (ex_put rfl rfl rfl rfl hrun) _ ⟨hdW.cell rfl, hrW.cell rfl, hbW⟩ ⟨hdW.cell rfl, hrW.cell rfl, hbW⟩ (fun _ h => h) ?_
          refine wpG_nil ?_
          have hR : SetRel D Q M v0 to S s L c (.slice (some ⟨g, 0, none⟩) N cap) w1 (.int .i64 ((k + 1 : Nat) : Int)) W' := by
            refine SetRel.next (by have := HN.out; omega) HDr.out HTr.out HCW.out (h10.chg.trans' hcW) ?_
            rw [settled_succ HCX.out, HNN.out, HMEM.out]
            have e : come1 mem a b (m : Int) = Upd mem a { over (mem a) b m with bad := false } := by
              unfold come1
              rw [if_neg (by omega)]
              rfl
            rw [e]
            exact hmap'
          have HRR := Lib.hid hR
          clear hR hdW hrW hbW hcW hgr hmap' hrun h10 hnoM
          go_wp2_with fail
          go_roundw
          case rel => exact HRR.out
          case measure => simp [intOf]; omega
    · obtain rfl : k = N := by have := HN.out; omega
      have HDr := Lib.hid hd
      have HCW := Lib.hid hcw
      clear hd hT hcw hlt hk
      go_wp2_with fail
      go_end0
      refine ⟨rfl, ⟨M, v0, to, ?_⟩, HW1.out.trans' HCW.out⟩
      have h1 := HDr.out
      rw [← HN.out, HLEN.out] at h1
      exact h1
end Go.Proofs.YtmgagalhpkieoaaGreatDoor
/- A disk made, looked at, read, written, flushed. -/
namespace Go.Proofs.YtmgagalhpkieoaaGreatDoor
open Go.RowKit

def look (s : Dsk) (a : Nat) : Option d_Bs := if s.dead then none else if a < s.n then tells s a else none
def readE (s : Dsk) (p : Pw) (a : Nat) : Int := if idle s p ≠ 0 then idle s p else if a < s.n then (if (tells s a).isSome then 0 else 6) else 1
def readB (s : Dsk) (p : Pw) (a : Nat) : Option d_Bs := if idle s p ≠ 0 then none else if a < s.n then tells s a else none
theorem look_any (D Q : Nat) (S : Nat → Prop) (s : Dsk) (ad : Nat) (ha : ad < 65536) (w : World) (h : DkAt w D Q S s) (hcn : s.cache.length < 1000000) :
    Calls Tryz.prog 28 #[.pointer (some ⟨D, 0, none⟩), .int .u16 (ad : Int)] w fun e w' => ∃ v, e = .returned (.tuple #[v, .bool (look s ad).isSome]) ∧ ToldB w w' v (look s ad) ∧ Below w.heap.size w w' := by
  have H := Lib.hid h
  have HCN := Lib.hid hcn
  clear h hcn
  unfold look
  by_cases hd : s.dead = true
  · rw [hd]
    simp only [if_true]
    go_enter Tryz.func28, Tryz.ntmps28
    go_wp2_with (first | (go_at_call 27; refine (dead_any D Q S s _ H.out).mono ?_; rw [hd]; rintro e w' ⟨rfl, rfl⟩) | fail)
    go_ret2
    exact ⟨_, rfl, rfl, Below.refl _ _⟩
  · have hd' : s.dead = false := by simpa using hd
    rw [hd']
    simp only [Bool.false_eq_true, if_false]
    clear hd
    by_cases hn : ad < s.n
    · rw [if_pos hn]
      have hde : decide (ad < s.n) = true := by simpa using hn
      clear hn
      go_enter Tryz.func28, Tryz.ntmps28
      go_wp2_with (first | (go_at_call 27; refine (dead_any D Q S s _ H.out).mono ?_; rw [hd']; rintro e w' ⟨rfl, rfl⟩) | (go_at_call 71; refine (d_has_any D Q S s ad ha _ H.out).mono ?_; rw [hde]; rintro e w' ⟨rfl, rfl⟩) | (go_at_call 72; refine (tell_any D Q S s ad ha _ H.out HCN.out).mono ?_; rintro e w' ⟨v, rfl, hv, hw⟩; have HV := Lib.hid hv; have HW := Lib.hid hw; clear hv hw) | fail)
      go_ret2
      exact ⟨_, rfl, HV.out, HW.out⟩
    · rw [if_neg hn]
      have hde : decide (ad < s.n) = false := by simpa using hn
      clear hn
      go_enter Tryz.func28, Tryz.ntmps28
      go_wp2_with (first | (go_at_call 27; refine (dead_any D Q S s _ H.out).mono ?_; rw [hd']; rintro e w' ⟨rfl, rfl⟩) | (go_at_call 71; refine (d_has_any D Q S s ad ha _ H.out).mono ?_; rw [hde]; rintro e w' ⟨rfl, rfl⟩) | fail)
      go_ret2
      exact ⟨_, rfl, rfl, Below.refl _ _⟩
theorem idle_cases (s : Dsk) (p : Pw) : idle s p = 0 ∨ idle s p = 3 := by unfold idle; split; exact .inr rfl; split; exact .inl rfl; exact .inr rfl
theorem read_any (D Q : Nat) (S : Nat → Prop) (s : Dsk) (p : Pw) (ad : Nat) (ha : ad < 65536) (w : World) (h : DkAt w D Q S s) (hp : PwAt w Q p) (hcn : s.cache.length < 1000000) :
    Calls Tryz.prog 109 #[.pointer (some ⟨D, 0, none⟩), .int .u16 (ad : Int)] w fun e w' => ∃ v, e = .returned (.tuple #[v, .int .i64 (readE s p ad)]) ∧ ToldB w w' v (readB s p ad) ∧ Below w.heap.size w w' := by
  have H := Lib.hid h
  have HP := Lib.hid hp
  have HCN := Lib.hid hcn
  clear h hcn hp
  unfold readE readB
  rcases idle_cases s p with hi | hi
  · rw [hi]
    simp only [ne_eq, not_true_eq_false, if_false]
    by_cases hn : ad < s.n
    · rw [if_pos hn, if_pos hn]
      have hde : decide (ad < s.n) = true := by simpa using hn
      clear hn
      obtain ⟨t, ht⟩ : ∃ t, tells s ad = t := ⟨_, rfl⟩
      rw [ht]
      cases t with
      | none =>
        have HT := Lib.hid ht
        clear ht
        go_enter Tryz.func109, Tryz.ntmps109
        go_wp2_with (first | (go_at_call 65; refine (idle_any D Q S s p _ H.out HP.out).mono ?_; rw [hi]; rintro e w' ⟨rfl, rfl⟩) | (go_at_call 71; refine (d_has_any D Q S s ad ha _ H.out).mono ?_; rw [hde]; rintro e w' ⟨rfl, rfl⟩) | (go_at_call 72; refine (tell_any D Q S s ad ha _ H.out HCN.out).mono ?_; rw [HT.out]; rintro e w' ⟨v, rfl, hv, hw⟩; have HV := Lib.hid hv; have HW := Lib.hid hw; clear hv hw) | fail)
        go_ret2
        exact ⟨_, rfl, rfl, HW.out⟩
      | some b =>
        have HT := Lib.hid ht
        clear ht
        go_enter Tryz.func109, Tryz.ntmps109
        go_wp2_with (first | (go_at_call 65; refine (idle_any D Q S s p _ H.out HP.out).mono ?_; rw [hi]; rintro e w' ⟨rfl, rfl⟩) | (go_at_call 71; refine (d_has_any D Q S s ad ha _ H.out).mono ?_; rw [hde]; rintro e w' ⟨rfl, rfl⟩) | (go_at_call 72; refine (tell_any D Q S s ad ha _ H.out HCN.out).mono ?_; rw [HT.out]; rintro e w' ⟨v, rfl, hv, hw⟩; have HV := Lib.hid hv; have HW := Lib.hid hw; clear hv hw) | fail)
        go_ret2
        exact ⟨_, rfl, HV.out, HW.out⟩
    · rw [if_neg hn, if_neg hn]
      have hde : decide (ad < s.n) = false := by simpa using hn
      clear hn
      go_enter Tryz.func109, Tryz.ntmps109
      go_wp2_with (first | (go_at_call 65; refine (idle_any D Q S s p _ H.out HP.out).mono ?_; rw [hi]; rintro e w' ⟨rfl, rfl⟩) | (go_at_call 71; refine (d_has_any D Q S s ad ha _ H.out).mono ?_; rw [hde]; rintro e w' ⟨rfl, rfl⟩) | fail)
      go_ret2
      exact ⟨_, rfl, rfl, Below.refl _ _⟩
  · rw [hi]
    rw [if_pos (by decide), if_pos (by decide)]
    go_enter Tryz.func109, Tryz.ntmps109
    go_wp2_with (first | (go_at_call 65; refine (idle_any D Q S s p _ H.out HP.out).mono ?_; rw [hi]; rintro e w' ⟨rfl, rfl⟩) | fail)
    go_ret2
    exact ⟨_, rfl, rfl, Below.refl _ _⟩
def fresh (n : Nat) : Dsk := ⟨n, fun _ => blank, [], false, false, none⟩
theorem DkAt.fresh {w : World} {D Q M n : Nat} (hb : Blk w D (dcells Q M (.slice none 0 0) 0 (fresh n)) 142) (hm : MapAt w M (fun _ => blank)) (hq : Q ≠ D) (hq2 : Q ≠ M) (hn : n ≤ 65536) : DkAt w D Q (fun k => k = D ∨ k = M) (fresh n) :=
  ⟨M, .slice none 0 0, 0, hb, hm, ⟨[], rfl, fun x hx => by simp at hx, .inl ⟨none, rfl, rfl⟩⟩, .inl rfl, .inr rfl, fun h => by rcases h with h | h; exact hq h; exact hq2 h, fun k hk => by rcases hk with rfl | rfl; exact hb.lt; exact hm.lt, by omega, fun t e => by simp [Go.Proofs.YtmgagalhpkieoaaGreatDoor.fresh] at e, hn⟩
end Go.Proofs.YtmgagalhpkieoaaGreatDoor
