/- Bytes, again and again, to a block. -/
import Derived.Test.YtmgagalhpkieoaaGreatDoorM07
namespace Go.Proofs.YtmgagalhpkieoaaGreatDoor
open Go.RowKit

def fullAt (b : d_Bs) (i : Nat) : BitVec 8 := if b.length = 0 then 0 else b.getD (i % b.length) 0
def fullN (b : d_Bs) (k : Nat) : d_Bs := (List.range k).map (fullAt b)
def d_full (b : d_Bs) : d_Bs := fullN b 512
theorem fullN_length (b : d_Bs) (k : Nat) : (fullN b k).length = k := by simp [fullN]
theorem full_length (b : d_Bs) : (d_full b).length = 512 := fullN_length b 512
theorem fullN_succ (b : d_Bs) (k : Nat) : fullN b (k + 1) = fullN b k ++ [fullAt b k] := by simp [fullN, List.range_succ]
def d_FullRel (b : d_Bs) (k : Nat) (w : World) (s : Value) (wr : World) : Prop := OwnB wr w.heap.size s (fullN b k) ∧ Below w.heap.size w wr
theorem one_at8 (w : World) (v : Value) (t : TypeId) : ∀ j u, [v][j]? = some u → (w.alloc (.cells #[v] t)).cell? ((⟨w.heap.size, 0, none⟩ : Addr).add j) = some u := by
  intro j u hj
  match j, hj with
  | 0, hj => simp at hj; subst hj; simp [Addr.add]
theorem d_FullRel.next {b : d_Bs} {k : Nat} {w wr w2 : World} {v v' : Value} {x : BitVec 8} {t : TypeId} (h : d_FullRel b k w v wr) (hx : x = fullAt b k) (ho : w2.ownsRow w.heap.size 5 1 v' ((fullN b k).length + 1) ((fullN b k).map V8 ++ [V8 x])) (hg : (wr.alloc (.cells #[V8 x] t)).grownBy w2 v.ownBlock) : d_FullRel b (k + 1) w v' w2 := by
  subst hx
  refine ⟨?_, (h.2.alloc h.2.size _).grown hg (by have := h.2.size; simp; omega) (fun j hj => (h.1.lt j hj).1)⟩
  unfold OwnB
  rw [fullN_succ, List.map_append, List.length_append]
  exact ho
set_option maxRecDepth 100000 in
set_option maxHeartbeats 1000000 in
theorem full_any (b : d_Bs) (sp : Option Addr) (n cap : Nat) (hbn : b.length = n) (hn : n < 1000000) (w : World) (hS : SrcA w sp b) :
    Calls Tryz.prog 32 #[.slice sp n cap] w fun e w' => ∃ v, e = .returned v ∧ OwnB w' w.heap.size v (d_full b) ∧ Below w.heap.size w w' := by
  obtain ⟨i0, hi, hz0, hz1, hz2⟩ := info_parts infoB
  have HS := Lib.hid hS
  have HBN := Lib.hid hbn
  clear hS hbn
  have HR := Lib.hid (show d_FullRel b 0 w (.slice none 0 0) w from ⟨World.ownsRow_nil _ _ _ _, Below.refl _ _⟩)
  go_enter Tryz.func32, Tryz.ntmps32
  go_wp2_with fail
  go_loopw [3] (fun s wr => ∃ k : Nat, k ≤ 512 ∧ d_FullRel b k w s wr) (fun s _ => 512 - (match s with | .slice _ l _ => l | _ => 0))
  case atStart => exact ⟨0, by omega, HR.out⟩
  case round =>
    clear HR
    obtain ⟨k, hk, hR⟩ := hrel
    obtain ⟨sp1, cap1, rfl, hc1, hm1, _, _, _⟩ := hR.1.form
    rw [fullN_length] at hc1 hR ⊢
    have HR := Lib.hid hR
    have ho : wr.ownsRow w.heap.size 5 1 (.slice sp1 k cap1) (fullN b k).length ((fullN b k).map V8) := hR.1
    have HO := Lib.hid ho
    clear ho hR
    by_cases hlt : k < 512
    · by_cases h0 : n = 0
      · subst h0
        have hx : (0 : BitVec 8) = fullAt b k := by unfold fullAt; rw [if_pos HBN.out]
        have HX := Lib.hid hx
        clear hx
        have z1 := hz1
        clear hz1
        have HZ1 := Lib.hid z1
        clear z1
        go_wp2_with (first | (at_builtin; refine wpList_append_own _ rfl _ _ 59 rfl w.heap.size 5 i0 (.int .u8 0) 1 1 Tryz.underlying59 hi hz0 HZ1.out hz2 rfl (by decide) (.slice sp1 k cap1) (fullN b k).length ((fullN b k).map V8) rfl (HO.out.alloc _) ⟨wr.heap.size, 0, none⟩ 1 1 [V8 0] rfl rfl (one_at8 _ _ _) (one_v8 [0]) (by rw [fullN_length]; unfold maxLen; omega) (by rw [fullN_length]; omega) (by have := HR.out.2.size; simp; omega) ?_; intro v2 w2 ho2 hg2 hn2; have HR2 := Lib.hid (HR.out.next HX.out ho2 hg2); clear ho2 hg2 hn2) | fail)
        obtain ⟨sp2, cap2, e2, _, _, _, _, _⟩ := HR2.out.1.form
        go_roundw
        case rel => exact ⟨k + 1, by omega, HR2.out⟩
        case measure => rw [e2]; simp [fullN_length]; omega
      · have hpos : 0 < n := by omega
        have hm : ((k : Int).tmod (n : Int)) = ((k % n : Nat) : Int) := by
          rw [Int.tmod_eq_emod_of_nonneg (by omega)]; simp
        have hlt2 : k % n < n := Nat.mod_lt _ hpos
        obtain ⟨g, o, rfl, hg, hcl⟩ := HS.out (by rw [HBN.out]; omega)
        have hcell := (HR.out.2.cell (p := ⟨g, o + k % n, none⟩) hg).trans (hcl (k % n) (by rw [HBN.out]; exact hlt2))
        obtain ⟨x, hx⟩ : ∃ x, b.getD (k % n) 0 = x := ⟨_, rfl⟩
        rw [hx] at hcell
        have hxx : x = fullAt b k := by unfold fullAt; rw [if_neg (by rw [HBN.out]; omega), HBN.out, hx]
        have HX := Lib.hid hxx
        clear hx hxx hcl hg
        obtain ⟨q, hq⟩ : ∃ q, k % n = q := ⟨_, rfl⟩
        rw [hq] at hm hlt2 hcell
        have HQ := Lib.hid hq
        clear hq
        have hwq := IntWalk.i64_in (q : Int) (by omega)
        have z1 := hz1
        clear hz1
        have HZ1 := Lib.hid z1
        clear z1
        go_wp2_with (first | (at_builtin; refine wpList_append_own _ rfl _ _ 59 rfl w.heap.size 5 i0 (.int .u8 0) 1 1 Tryz.underlying59 hi hz0 HZ1.out hz2 rfl (by decide) (.slice sp1 k cap1) (fullN b k).length ((fullN b k).map V8) rfl (HO.out.alloc _) ⟨wr.heap.size, 0, none⟩ 1 1 [V8 x] rfl rfl (one_at8 _ _ _) (one_v8 [x]) (by rw [fullN_length]; unfold maxLen; omega) (by rw [fullN_length]; omega) (by have := HR.out.2.size; simp; omega) ?_; intro v2 w2 ho2 hg2 hn2; have HR2 := Lib.hid (HR.out.next HX.out ho2 hg2); clear ho2 hg2 hn2) | fail)
        obtain ⟨sp2, cap2, e2, _, _, _, _, _⟩ := HR2.out.1.form
        go_roundw
        case rel => exact ⟨k + 1, by omega, HR2.out⟩
        case measure => rw [e2]; simp [fullN_length]; omega
    · obtain rfl : k = 512 := by omega
      go_wp2_with fail
      go_ret
      exact ⟨_, rfl, HR.out.1, HR.out.2⟩
end Go.Proofs.YtmgagalhpkieoaaGreatDoor
/- What a law knows of a disk, of power, and of bytes of its own. -/
namespace Go.Proofs.YtmgagalhpkieoaaGreatDoor
open Go.RowKit

/-- Bytes of the law's own, out of F. -/
def Mine (w : World) (F : Nat → Prop) (v : Value) (b : d_Bs) : Prop :=
  ∃ X cap, v = .slice (some ⟨X, 0, none⟩) b.length cap ∧ b.length ≤ cap ∧ cap ≤ maxLen ∧ SrcA w (some ⟨X, 0, none⟩) b ∧ ¬ F X ∧ X < w.heap.size
theorem SrcA.at {w w' : World} {X : Nat} {b : d_Bs} (h : SrcA w (some ⟨X, 0, none⟩) b) (hs : w.heap.size ≤ w'.heap.size) (hb : w'.heap[X]? = w.heap[X]?) : SrcA w' (some ⟨X, 0, none⟩) b := fun h0 => by
  obtain ⟨g, o, e, hg, hc⟩ := h h0
  cases e
  exact ⟨_, _, rfl, Nat.lt_of_lt_of_le hg hs, fun j hj => (World.cell?_of_block (w := w) hb).trans (hc j hj)⟩
theorem Mine.next {w w' : World} {F F' : Nat → Prop} {v : Value} {b : d_Bs} (h : Mine w F v b) (hc : Chg F w w') (hF : ∀ k, F' k → F k ∨ w.heap.size ≤ k) : Mine w' F' v b := by
  obtain ⟨X, cap, e, h1, h2, h3, h4, h5⟩ := h
  exact ⟨X, cap, e, h1, h2, h3.at hc.size (hc.block X h5 h4), fun hf => by rcases hF X hf with h | h; exact h4 h; omega, Nat.lt_of_lt_of_le h5 hc.size⟩
theorem Mine.grown {w w' : World} {F : Nat → Prop} {v : Value} {b : d_Bs} (h : Mine w F v b) (hc : Below w.heap.size w w') : Mine w' F v b := h.next (Chg.of_below hc) (fun _ h => .inl h)
structure Lw (B : Nat) (w0 w : World) (D Q : Nat) (S : Nat → Prop) (s : Dsk) (p : Pw) : Prop where
  dk : DkAt w D Q S s
  pw : PwAt w Q p
  bs : ∀ k, S k → B ≤ k
  bq : B ≤ Q
  bb : B ≤ w0.heap.size
  bel : Below B w0 w
def Fo (S : Nat → Prop) (Q : Nat) (k : Nat) : Prop := S k ∨ k = Q
theorem Lw.step {B : Nat} {w0 w w' : World} {D Q : Nat} {S : Nat → Prop} {s s' : Dsk} {p p' : Pw} (h : Lw B w0 w D Q S s p) (hd : DkAt w' D Q (Ext S w w') s') (hp : PwAt w' Q p') (hc : Chg (Fo S Q) w w') : Lw B w0 w' D Q (Ext S w w') s' p' :=
  ⟨hd, hp, fun k hk => by rcases hk with hk | hk; exact h.bs k hk; exact Nat.le_trans (Nat.le_trans h.bb h.bel.size) hk.1, h.bq, h.bb, h.bel.trans (hc.below (fun k hk => by rcases hk with hk | rfl; exact h.bs k hk; exact h.bq) (Nat.le_trans h.bb h.bel.size))⟩
theorem Lw.stay {B : Nat} {w0 w w' : World} {D Q : Nat} {S : Nat → Prop} {s s' : Dsk} {p p' : Pw} (h : Lw B w0 w D Q S s p) (hd : DkAt w' D Q S s') (hp : PwAt w' Q p') (hc : Chg (Fo S Q) w w') : Lw B w0 w' D Q S s' p' :=
  ⟨hd, hp, h.bs, h.bq, h.bb, h.bel.trans (hc.below (fun k hk => by rcases hk with hk | rfl; exact h.bs k hk; exact h.bq) (Nat.le_trans h.bb h.bel.size))⟩
theorem Lw.grown {B : Nat} {w0 w w' : World} {D Q : Nat} {S : Nat → Prop} {s : Dsk} {p : Pw} (h : Lw B w0 w D Q S s p) (hb : Below w.heap.size w w') : Lw B w0 w' D Q S s p :=
  ⟨h.dk.chg (Chg.of_below (F := fun _ => False) hb) (fun _ _ h => h), h.pw.chg (Chg.of_below (F := fun _ => False) hb) (fun h => h), h.bs, h.bq, h.bb, h.bel.trans (hb.mono (Nat.le_trans h.bb h.bel.size))⟩
def p0 : Pw := ⟨true, -1⟩
/-- What the waking disk comes to. -/
def wk1 (A : d_Bs) : Dsk := (wrote (fresh 9) p0 3 A).2.1
def wk2 (A : d_Bs) : Dsk := (flushed (wk1 A) p0).2.1
def wk3 (A B : d_Bs) : Dsk := (wrote (wk2 A) p0 3 B).2.1
section
variable {ops : Array Oper} {Q : Exit → Act → World → Prop}
end
theorem SrcA.drop {w : World} {g : Nat} {l : d_Bs} (h : SrcA w (some ⟨g, 0, none⟩) l) (k : Nat) : SrcA w (some ⟨g, k, none⟩) (l.drop k) := fun h0 => by
  have hl : 0 < l.length := by simp at h0; omega
  obtain ⟨g', o, e, hg, hc⟩ := h hl
  cases e
  refine ⟨_, _, rfl, hg, fun j hj => ?_⟩
  have hj' : k + j < l.length := by simp at hj; omega
  have := hc (k + j) hj'
  rw [Nat.zero_add] at this
  rw [this]
  simp [List.getD_eq_getElem?_getD]
end Go.Proofs.YtmgagalhpkieoaaGreatDoor
/- The document's lists: has, without, last, drop. -/
namespace Go.Proofs.YtmgagalhpkieoaaGreatDoor
open Go.RowKit

/-- Numbers that lie in memory. -/
def NsAt (w : World) (v : Value) (l : List Nat) : Prop :=
  ∃ sp cap, v = .slice sp l.length cap ∧ l.length ≤ cap ∧ cap ≤ maxLen ∧ (0 < l.length → ∃ g, sp = some ⟨g, 0, none⟩ ∧ g < w.heap.size ∧ ∀ (j x : Nat), l[j]? = some x → w.cell? ⟨g, j, none⟩ = some (.int .u16 (x : Int)))
/-- Blocks that lie in memory. -/
def PsAt (w : World) (v : Value) (l : List (Nat × d_Bs)) : Prop :=
  ∃ sp cap, v = .slice sp l.length cap ∧ l.length ≤ cap ∧ cap ≤ maxLen ∧ (0 < l.length → ∃ g, sp = some ⟨g, 0, none⟩ ∧ g < w.heap.size ∧ ∀ (j : Nat) (x : Nat × d_Bs), l[j]? = some x → w.cell? ⟨g, j * 2, none⟩ = some (.int .u16 (x.1 : Int)) ∧ w.cell? ⟨g, j * 2 + 1, none⟩ = some (.string (bstr x.2)))
theorem NsAt.at {w w' : World} {v : Value} {l : List Nat} (h : NsAt w v l) (hs : w.heap.size ≤ w'.heap.size) (hb : ∀ g, v.ownBlock = some g → w'.heap[g]? = w.heap[g]?) : NsAt w' v l := by
  obtain ⟨sp, cap, rfl, h1, h2, h3⟩ := h
  refine ⟨sp, cap, rfl, h1, h2, fun h0 => ?_⟩
  obtain ⟨g, rfl, hg, hc⟩ := h3 h0
  exact ⟨g, rfl, Nat.lt_of_lt_of_le hg hs, fun j x hx => (World.cell?_of_block (a := ⟨g, j, none⟩) (hb g rfl)).trans (hc j x hx)⟩
theorem PsAt.at {w w' : World} {v : Value} {l : List (Nat × d_Bs)} (h : PsAt w v l) (hs : w.heap.size ≤ w'.heap.size) (hb : ∀ g, v.ownBlock = some g → w'.heap[g]? = w.heap[g]?) : PsAt w' v l := by
  obtain ⟨sp, cap, rfl, h1, h2, h3⟩ := h
  refine ⟨sp, cap, rfl, h1, h2, fun h0 => ?_⟩
  obtain ⟨g, rfl, hg, hc⟩ := h3 h0
  exact ⟨g, rfl, Nat.lt_of_lt_of_le hg hs, fun j x hx => ⟨(World.cell?_of_block (a := ⟨g, j * 2, none⟩) (hb g rfl)).trans (hc j x hx).1, (World.cell?_of_block (a := ⟨g, j * 2 + 1, none⟩) (hb g rfl)).trans (hc j x hx).2⟩⟩
theorem NsAt.grown {w w' : World} {v : Value} {l : List Nat} (h : NsAt w v l) (hb : Below w.heap.size w w') : NsAt w' v l := by
  obtain ⟨sp, cap, rfl, h1, h2, h3⟩ := h
  refine ⟨sp, cap, rfl, h1, h2, fun h0 => ?_⟩
  obtain ⟨g, rfl, hg, hc⟩ := h3 h0
  exact ⟨g, rfl, Nat.lt_of_lt_of_le hg hb.size, fun j x hx => (hb.cell (p := ⟨g, j, none⟩) hg).trans (hc j x hx)⟩
theorem PsAt.grown {w w' : World} {v : Value} {l : List (Nat × d_Bs)} (h : PsAt w v l) (hb : Below w.heap.size w w') : PsAt w' v l := by
  obtain ⟨sp, cap, rfl, h1, h2, h3⟩ := h
  refine ⟨sp, cap, rfl, h1, h2, fun h0 => ?_⟩
  obtain ⟨g, rfl, hg, hc⟩ := h3 h0
  exact ⟨g, rfl, Nat.lt_of_lt_of_le hg hb.size, fun j x hx => ⟨(hb.cell (p := ⟨g, j * 2, none⟩) hg).trans (hc j x hx).1, (hb.cell (p := ⟨g, j * 2 + 1, none⟩) hg).trans (hc j x hx).2⟩⟩
def nrow (l : List Nat) : List Value := l.map fun x : Nat => Value.int .u16 (x : Int)
def d_pcells (x : Nat × d_Bs) : List Value := [Value.int .u16 (x.1 : Int), Value.string (bstr x.2)]
def prow (l : List (Nat × d_Bs)) : List Value := l.flatMap d_pcells
theorem take_one {α : Type} {l : List α} {k : Nat} {x : α} (h : l[k]? = some x) : l.take (k + 1) = l.take k ++ [x] := by
  obtain ⟨h2, h3⟩ := List.getElem?_eq_some_iff.1 h
  rw [List.take_succ_eq_append_getElem h2, h3]
theorem rinfo {t : TypeId} {z : Value} {n m : Nat} (h : (Tryz.prog.info? t).map (fun i => (i.zero, i.size, i.bytes)) = some (some z, n, m)) : ∃ i, Tryz.prog.info? t = some i ∧ i.zero = some z ∧ i.size = n ∧ i.bytes = m := by
  cases hq : Tryz.prog.info? t with
  | none => rw [hq] at h; simp at h
  | some i =>
    rw [hq] at h
    simp at h
    exact ⟨i, rfl, h.1, h.2.1, h.2.2⟩
/-- A row of numbers, the call's own. -/
abbrev OwnN (w : World) (B : Nat) (v : Value) (l : List Nat) : Prop := w.ownsRow B 52 1 v l.length (nrow l)
abbrev OwnP (w : World) (B : Nat) (v : Value) (l : List (Nat × d_Bs)) : Prop := w.ownsRow B 173 2 v l.length (prow l)
end Go.Proofs.YtmgagalhpkieoaaGreatDoor
/- The document's lists without an address; its power. -/
namespace Go.Proofs.YtmgagalhpkieoaaGreatDoor
open Go.RowKit

def woN (l : List Nat) (a : Nat) : List Nat := l.filter (fun x => x != a)
theorem own_slice {w : World} {B e k n : Nat} {v : Value} {xs : List Value} (h : w.ownsRow B e k v n xs) : ∃ sp c, v = .slice sp n c := by
  rcases h.2 with ⟨rfl, h0⟩ | ⟨_, c, _, rfl, _⟩
  · exact ⟨none, 0, by rw [h0]⟩
  · exact ⟨_, c, rfl⟩
/-- The document's power. -/
structure RpAt (w : World) (q : Nat) (p : Pw) : Prop where
  blk : Blk w q [.bool (!p.on), .int .i64 p.fuse] 36
  lo : -1 ≤ p.fuse
  hi : p.fuse ≤ 9223372036854775807
theorem RpAt.chg {F : Nat → Prop} {w w' : World} {q : Nat} {p : Pw} (h : RpAt w q p) (hc : Chg F w w') (hn : ¬ F q) : RpAt w' q p := ⟨h.blk.chg hc hn, h.lo, h.hi⟩
end Go.Proofs.YtmgagalhpkieoaaGreatDoor
/- The document's disk: what it looks like in memory; block, Look, Read. -/
namespace Go.Proofs.YtmgagalhpkieoaaGreatDoor
open Go.RowKit

/-- The document's disk, plain. -/
structure Rsk where
  n : Nat
  m : List (Nat × d_Bs)
  cache : List (Nat × d_Bs)
  bad : List Nat
  stuck : List Nat
  dead : Bool
  lose : Bool
  astray : Option Nat
def rcells (q : Nat) (vm vc vb vs va : Value) (t : Rsk) : List Value := [.int .i64 (t.n : Int), .pointer (some ⟨q, 0, none⟩), vm, vc, vb, vs, .bool t.dead, .bool t.lose, va]
structure RkIn (w : World) (D q : Nat) (vm vc vb vs va : Value) (S : Nat → Prop) (t : Rsk) : Prop where
  blk : Blk w D (rcells q vm vc vb vs va t) 49
  om : OwnP w 0 vm t.m
  oc : OwnP w 0 vc t.cache
  ob : OwnN w 0 vb t.bad
  os : OwnN w 0 vs t.stuck
  oa : OwnN w 0 va t.astray.toList
  sm : ∀ g, vm.ownBlock = some g → S g
  sc : ∀ g, vc.ownBlock = some g → S g
  sb : ∀ g, vb.ownBlock = some g → S g
  ss : ∀ g, vs.ownBlock = some g → S g
  sa : ∀ g, va.ownBlock = some g → S g
  ap : ∀ g, vc.ownBlock = some g → vm.ownBlock ≠ some g
  sd : S D
  sq : ¬ S q
  lt : ∀ k, S k → k < w.heap.size
  nlt : t.n ≤ 65536
def RkAt (w : World) (D q : Nat) (S : Nat → Prop) (t : Rsk) : Prop := ∃ vm vc vb vs va, RkIn w D q vm vc vb vs va S t
theorem RkIn.chg {F S : Nat → Prop} {w w' : World} {D q : Nat} {vm vc vb vs va : Value} {t : Rsk} (h : RkIn w D q vm vc vb vs va S t) (hc : Chg F w w') (hn : ∀ k, S k → ¬ F k) : RkIn w' D q vm vc vb vs va S t :=
  ⟨h.blk.chg hc (hn _ h.sd), owns_chg h.om hc (fun g hg => hn _ (h.sm g hg)), owns_chg h.oc hc (fun g hg => hn _ (h.sc g hg)), owns_chg h.ob hc (fun g hg => hn _ (h.sb g hg)), owns_chg h.os hc (fun g hg => hn _ (h.ss g hg)), owns_chg h.oa hc (fun g hg => hn _ (h.sa g hg)),
    h.sm, h.sc, h.sb, h.ss, h.sa, h.ap, h.sd, h.sq, fun k hk => Nat.lt_of_lt_of_le (h.lt k hk) hc.size, h.nlt⟩
theorem RkAt.chg {F S : Nat → Prop} {w w' : World} {D q : Nat} {t : Rsk} (h : RkAt w D q S t) (hc : Chg F w w') (hn : ∀ k, S k → ¬ F k) : RkAt w' D q S t := by
  obtain ⟨vm, vc, vb, vs, va, h⟩ := h
  exact ⟨vm, vc, vb, vs, va, h.chg hc hn⟩
theorem RkIn.c {w : World} {D q : Nat} {vm vc vb vs va : Value} {S : Nat → Prop} {t : Rsk} (h : RkIn w D q vm vc vb vs va S t) : w.cell? ⟨D, 0, none⟩ = some (.int .i64 (t.n : Int)) ∧ w.cell? ⟨D, 1, none⟩ = some (.pointer (some ⟨q, 0, none⟩)) ∧ w.cell? ⟨D, 2, none⟩ = some vm ∧ w.cell? ⟨D, 3, none⟩ = some vc ∧
    w.cell? ⟨D, 4, none⟩ = some vb ∧ w.cell? ⟨D, 5, none⟩ = some vs ∧ w.cell? ⟨D, 6, none⟩ = some (.bool t.dead) ∧ w.cell? ⟨D, 7, none⟩ = some (.bool t.lose) ∧ w.cell? ⟨D, 8, none⟩ = some va :=
  ⟨h.blk.cell rfl, h.blk.cell rfl, h.blk.cell rfl, h.blk.cell rfl, h.blk.cell rfl, h.blk.cell rfl, h.blk.cell rfl, h.blk.cell rfl, h.blk.cell rfl⟩
def rblock (t : Rsk) (a : Nat) : d_Bs := (lastOf t.m a).getD zeros
def rlook (t : Rsk) (a : Nat) : Option d_Bs :=
  if t.dead then none else if a < t.n then (if t.stuck.contains a then none else match lastOf t.cache a with | some b => some b | none => if t.bad.contains a then none else some (rblock t a)) else none
def rreadE (t : Rsk) (p : Pw) (a : Nat) : Int := if t.dead then 3 else if p.on then (if a < t.n then (if (rlook t a).isSome then 0 else 6) else 1) else 3
def rreadB (t : Rsk) (p : Pw) (a : Nat) : d_Bs := if t.dead then [] else if p.on then (if a < t.n then (rlook t a).getD [] else []) else []
structure Small (t : Rsk) : Prop where
  m : t.m.length < 1000000
  c : t.cache.length < 1000000
  b : t.bad.length < 1000000
  s : t.stuck.length < 1000000
end Go.Proofs.YtmgagalhpkieoaaGreatDoor
/- The document's disk: one of its cells is put anew. -/
namespace Go.Proofs.YtmgagalhpkieoaaGreatDoor
open Go.RowKit

theorem OwnP.nd {w : World} {B D : Nat} {v : Value} {l : List (Nat × d_Bs)} {cs : List Value} (h : OwnP w B v l) (hb : Blk w D cs 49) : ∀ g, v.ownBlock = some g → g ≠ D := fun g hg e => by
  obtain ⟨cs', hb'⟩ := owns_blk h hg
  subst e
  exact absurd (hb'.same hb) (by decide)
theorem OwnN.nd {w : World} {B D : Nat} {v : Value} {l : List Nat} {cs : List Value} (h : OwnN w B v l) (hb : Blk w D cs 49) : ∀ g, v.ownBlock = some g → g ≠ D := fun g hg e => by
  obtain ⟨cs', hb'⟩ := owns_blk h hg
  subst e
  exact absurd (hb'.same hb) (by decide)
theorem ext_own {S : Nat → Prop} {w w' : World} {v : Value} {n : Nat} {e B k : Nat} {xs : List Value} (h : w'.ownsRow B e k v n xs) (hs : ∀ g, v.ownBlock = some g → S g ∨ w.heap.size ≤ g) : ∀ g, v.ownBlock = some g → Ext S w w' g := fun g hg => by
  rcases hs g hg with h1 | h1
  · exact .inl h1
  · exact .inr ⟨h1, (h.lt g hg).2⟩
theorem RkIn.put {w Z : World} {D q j : Nat} {u vm vc vb vs va vm' vc' vb' vs' va' : Value} {S F : Nat → Prop} {t t' : Rsk} (h : RkIn w D q vm vc vb vs va S t) (hq : q < w.heap.size) (hz : Chg F w Z) (hFD : ¬ F D)
    (hcells : (rcells q vm vc vb vs va t).set j u = rcells q vm' vc' vb' vs' va' t') (hn : t'.n ≤ 65536)
    (om : OwnP Z 0 vm' t'.m) (oc : OwnP Z 0 vc' t'.cache) (ob : OwnN Z 0 vb' t'.bad) (os : OwnN Z 0 vs' t'.stuck) (oa : OwnN Z 0 va' t'.astray.toList)
    (sm : ∀ g, vm'.ownBlock = some g → S g ∨ w.heap.size ≤ g) (sc : ∀ g, vc'.ownBlock = some g → S g ∨ w.heap.size ≤ g) (sb : ∀ g, vb'.ownBlock = some g → S g ∨ w.heap.size ≤ g) (ss : ∀ g, vs'.ownBlock = some g → S g ∨ w.heap.size ≤ g) (sa : ∀ g, va'.ownBlock = some g → S g ∨ w.heap.size ≤ g)
    (ap : ∀ g, vc'.ownBlock = some g → vm'.ownBlock ≠ some g) :
    RkIn (Z.setCell ⟨D, j, none⟩ u) D q vm' vc' vb' vs' va' (Ext S w (Z.setCell ⟨D, j, none⟩ u)) t' ∧ Chg (fun k => F k ∨ k = D) w (Z.setCell ⟨D, j, none⟩ u) := by
  have hb : Blk Z D (rcells q vm vc vb vs va t) 49 := h.blk.chg hz hFD
  have hc1 : Chg (fun k => k = D) Z (Z.setCell ⟨D, j, none⟩ u) := d_chg1 j u
  have hc : Chg (fun k => F k ∨ k = D) w (Z.setCell ⟨D, j, none⟩ u) := (hz.mono (fun _ h => .inl h)).trans hc1 (fun i hi => .inl (.inr hi))
  have om1 := owns_chg om hc1 (om.nd hb)
  have oc1 := owns_chg oc hc1 (oc.nd hb)
  have ob1 := owns_chg ob hc1 (ob.nd hb)
  have os1 := owns_chg os hc1 (os.nd hb)
  have oa1 := owns_chg oa hc1 (oa.nd hb)
  refine ⟨⟨?_, om1, oc1, ob1, os1, oa1, ext_own om1 sm, ext_own oc1 sc, ext_own ob1 sb, ext_own os1 ss, ext_own oa1 sa, ap, .inl h.sd, ?_, ?_, hn⟩, hc⟩
  · rw [← hcells]
    exact hb.set j u
  · rintro (hh | hh)
    · exact h.sq hh
    · omega
  · rintro k (hk | hk)
    · exact Nat.lt_of_lt_of_le (h.lt k hk) hc.size
    · exact hk.2
theorem RkIn.mono {w : World} {D q : Nat} {vm vc vb vs va : Value} {S S' : Nat → Prop} {t : Rsk} (h : RkIn w D q vm vc vb vs va S t) (hs : ∀ k, S k → S' k) (hq : ¬ S' q) (hl : ∀ k, S' k → k < w.heap.size) : RkIn w D q vm vc vb vs va S' t :=
  ⟨h.blk, h.om, h.oc, h.ob, h.os, h.oa, fun g hg => hs g (h.sm g hg), fun g hg => hs g (h.sc g hg), fun g hg => hs g (h.sb g hg), fun g hg => hs g (h.ss g hg), fun g hg => hs g (h.sa g hg), h.ap, hs D h.sd, hq, hl, h.nlt⟩
theorem RkAt.mono {w : World} {D q : Nat} {S S' : Nat → Prop} {t : Rsk} (h : RkAt w D q S t) (hs : ∀ k, S k → S' k) (hq : ¬ S' q) (hl : ∀ k, S' k → k < w.heap.size) : RkAt w D q S' t := by
  obtain ⟨vm, vc, vb, vs, va, h⟩ := h
  exact ⟨vm, vc, vb, vs, va, h.mono hs hq hl⟩
theorem RkAt.lt {w : World} {D q : Nat} {S : Nat → Prop} {t : Rsk} (h : RkAt w D q S t) : ∀ k, S k → k < w.heap.size := by obtain ⟨_, _, _, _, _, h⟩ := h; exact h.lt
theorem RkAt.nq {w : World} {D q : Nat} {S : Nat → Prop} {t : Rsk} (h : RkAt w D q S t) : ¬ S q := by obtain ⟨_, _, _, _, _, h⟩ := h; exact h.sq
theorem RkAt.sd {w : World} {D q : Nat} {S : Nat → Prop} {t : Rsk} (h : RkAt w D q S t) : S D := by obtain ⟨_, _, _, _, _, h⟩ := h; exact h.sd
/-- .. grown: what the disk has, and what was made since. -/
theorem RkAt.ext {w w0 : World} {D q : Nat} {S : Nat → Prop} {t : Rsk} (h : RkAt w D q S t) (hq : q < w0.heap.size) : RkAt w D q (Ext S w0 w) t :=
  h.mono (fun _ h => .inl h) (fun hh => by rcases hh with hh | hh; exact h.nq hh; omega) (fun k hk => by rcases hk with hk | hk; exact h.lt k hk; exact hk.2)
theorem own_slice3 {w : World} {B e k n : Nat} {v : Value} {xs : List Value} (h : w.ownsRow B e k v n xs) : ∃ sp n c, v = .slice sp n c := by
  obtain ⟨sp, c, e⟩ := own_slice h
  exact ⟨sp, n, c, e⟩
end Go.Proofs.YtmgagalhpkieoaaGreatDoor
/- The document's disk: operations by their values; a write that comes to its block. -/
namespace Go.Proofs.YtmgagalhpkieoaaGreatDoor
open Go.RowKit

def rcame (t : Rsk) (a : Nat) (b : d_Bs) (n : Nat) : Rsk := { t with m := others t.m a ++ [(a, b.take n ++ (rblock t a).drop n)], bad := woN t.bad a }
theorem lastOf_mem : ∀ (l : List (Nat × d_Bs)) (r : Option d_Bs) (a : Nat) (b : d_Bs), l.foldl (fun r x => if x.1 = a then some x.2 else r) r = some b → r = some b ∨ ∃ x ∈ l, x.2 = b
  | [], _, _, _, h => .inl h
  | x :: l, r, a, b, h => by
    rcases lastOf_mem l _ a b h with h | ⟨y, hy, e⟩
    · simp only at h
      by_cases hx : x.1 = a
      · rw [if_pos hx] at h
        exact .inr ⟨x, by simp, by simpa using h⟩
      · rw [if_neg hx] at h
        exact .inl h
    · exact .inr ⟨y, by simp [hy], e⟩
theorem rblock_length {t : Rsk} (a : Nat) (h : ∀ x ∈ t.m, x.2.length = 512) : (rblock t a).length = 512 := by
  unfold rblock
  cases hl : lastOf t.m a with
  | none => exact List.length_replicate
  | some b =>
    rcases lastOf_mem _ _ _ _ hl with h1 | ⟨x, hx, rfl⟩
    · cases h1
    · exact h x hx
end Go.Proofs.YtmgagalhpkieoaaGreatDoor
/- The document's disk: Write. -/
namespace Go.Proofs.YtmgagalhpkieoaaGreatDoor
open Go.RowKit

def rkept (t : Rsk) (a : Nat) (b : d_Bs) : Rsk := if a < t.n then { t with cache := t.cache ++ [(a, b)] } else t
def rwrote (t : Rsk) (p : Pw) (a : Nat) (b : d_Bs) : Int × Rsk × Pw :=
  if t.dead then (3, t, p) else if p.on = false then (3, t, p) else
  if a < t.n then (if b.length = 512 then
    (if p.step.1 = false then (3, t, p.step.2) else if t.lose then (0, { t with lose := false }, p.step.2) else
      match t.astray with
      | some x => (0, rkept { t with astray := none } x b, p.step.2)
      | none => (0, rkept t a b, p.step.2)) else (1, t, p)) else (1, t, p)
theorem RpAt.c {w : World} {q : Nat} {p : Pw} (h : RpAt w q p) : w.cell? ⟨q, 0, none⟩ = some (.bool (!p.on)) ∧ w.cell? ⟨q, 1, none⟩ = some (.int .i64 p.fuse) ∧ q < w.heap.size := ⟨h.blk.cell rfl, h.blk.cell rfl, h.blk.lt⟩
end Go.Proofs.YtmgagalhpkieoaaGreatDoor
/- The document's disk: Flush. -/
namespace Go.Proofs.YtmgagalhpkieoaaGreatDoor
open Go.RowKit

def rall (t : Rsk) (l : List (Nat × d_Bs)) : Rsk := l.foldl (fun t x => rcame t x.1 x.2 512) t
theorem rall_snoc (t : Rsk) (l : List (Nat × d_Bs)) (x : Nat × d_Bs) : rall t (l ++ [x]) = rcame (rall t l) x.1 x.2 512 := by simp [rall, List.foldl_append]
/-- What holds of the document's disk while blocks come: it grows by one at most a time. -/
structure Grows (t u : Rsk) (k : Nat) : Prop where
  n : u.n = t.n
  cache : u.cache = t.cache
  stuck : u.stuck = t.stuck
  dead : u.dead = t.dead
  lose : u.lose = t.lose
  astray : u.astray = t.astray
  m : u.m.length ≤ t.m.length + k
  bad : u.bad.length ≤ t.bad.length
  b : ∀ x ∈ u.m, x.2.length = 512
theorem Grows.refl {t : Rsk} (h : ∀ x ∈ t.m, x.2.length = 512) : Grows t t 0 := ⟨rfl, rfl, rfl, rfl, rfl, rfl, Nat.le_refl _, Nat.le_refl _, h⟩
theorem Grows.came {t u : Rsk} {k : Nat} (h : Grows t u k) (a : Nat) {b : d_Bs} (hb : b.length = 512) {n : Nat} (hn : n ≤ 512) : Grows t (rcame u a b n) (k + 1) := by
  refine ⟨h.n, h.cache, h.stuck, h.dead, h.lose, h.astray, ?_, Nat.le_trans (List.length_filter_le _ _) h.bad, ?_⟩
  · have := List.length_filter_le (fun x : Nat × d_Bs => x.1 != a) u.m
    have h2 := h.m
    simp only [rcame, List.length_append, others, List.length_cons, List.length_nil]
    omega
  · intro x hx
    simp only [rcame] at hx
    rcases List.mem_append.1 hx with hx | hx
    · exact h.b x (List.mem_filter.1 hx).1
    · obtain rfl := by simpa using hx
      have := rblock_length a h.b
      simp [this, hb]
      omega
theorem Grows.skip {t u : Rsk} {k : Nat} (h : Grows t u k) : Grows t u (k + 1) := ⟨h.n, h.cache, h.stuck, h.dead, h.lose, h.astray, Nat.le_succ_of_le h.m, h.bad, h.b⟩
def rflushed (t : Rsk) (p : Pw) : Int × Rsk × Pw :=
  if t.dead then (3, t, p) else if p.step.1 = false then (3, t, p.step.2) else (0, { rall t t.cache with cache := [] }, p.step.2)
/-- Small, and with room for all that the cache holds. -/
structure Room (t : Rsk) : Prop where
  small : Small t
  room : t.m.length + t.cache.length < 1000000
  b : ∀ x ∈ t.m, x.2.length = 512
  c : ∀ x ∈ t.cache, x.1 < 65536 ∧ x.2.length = 512
theorem Room.grows {t u : Rsk} {k : Nat} (h : Room t) (g : Grows t u k) (hk : k ≤ t.cache.length) : Small u :=
  ⟨by have := g.m; have := h.room; omega, by rw [g.cache]; exact h.small.c, Nat.lt_of_le_of_lt g.bad h.small.b, by rw [g.stuck]; exact h.small.s⟩
end Go.Proofs.YtmgagalhpkieoaaGreatDoor
/- The document's disk: Crash. -/
namespace Go.Proofs.YtmgagalhpkieoaaGreatDoor
open Go.RowKit

def rset (zs : List Int) (t : Rsk) : Nat → Rsk
  | 0 => t
  | k + 1 => match t.cache[k]? with | some x => (if pickOf zs k = -1 then rset zs t k else rcame (rset zs t k) x.1 x.2 (pickOf zs k).toNat) | none => rset zs t k
theorem rset_none {zs : List Int} {t : Rsk} {k : Nat} (hp : pickOf zs k = -1) : rset zs t (k + 1) = rset zs t k := by
  simp only [rset]
  cases t.cache[k]? with
  | none => rfl
  | some x => simp only; rw [if_pos hp]
theorem rset_some {zs : List Int} {t : Rsk} {k n : Nat} {x : Nat × d_Bs} (hx : t.cache[k]? = some x) (hp : pickOf zs k = (n : Int)) : rset zs t (k + 1) = rcame (rset zs t k) x.1 x.2 n := by
  simp only [rset, hx]
  rw [if_neg (by omega), hp]
  rfl
def rcrashed (t : Rsk) (zs : List Int) : Rsk := if t.dead then t else { rset zs t t.cache.length with cache := [], lose := false, astray := none }
end Go.Proofs.YtmgagalhpkieoaaGreatDoor
/- The document's disk: Fault. -/
namespace Go.Proofs.YtmgagalhpkieoaaGreatDoor
open Go.RowKit

def rfault (t : Rsk) (k : Nat) (a : Nat) (b : d_Bs) : Int × Rsk :=
  if a < t.n then (if k = 0 ∧ b.length ≠ 512 then (1, t) else (0, match k with
    | 0 => { t with cache := others t.cache a, m := others t.m a ++ [(a, b)] }
    | 1 => { t with cache := others t.cache a, bad := woN t.bad a ++ [a] }
    | _ => { t with cache := others t.cache a, stuck := woN t.stuck a ++ [a] })) else (1, t)
end Go.Proofs.YtmgagalhpkieoaaGreatDoor
