/- A state that takes in a piece, as the program reckons it. -/
import Derived.Test.YtmgagalhpkieoaaGreatDoorM16
namespace Go.Proofs.YtmgagalhpkieoaaGreatDoor
open Go.RowKit

def KC : List (BitVec 32) := [1116352408#32, 1899447441#32, 3049323471#32, 3921009573#32, 961987163#32, 1508970993#32, 2453635748#32, 2870763221#32, 3624381080#32, 310598401#32, 607225278#32, 1426881987#32, 1925078388#32, 2162078206#32, 2614888103#32, 3248222580#32, 3835390401#32, 4022224774#32, 264347078#32, 604807628#32, 770255983#32, 1249150122#32, 1555081692#32, 1996064986#32, 2554220882#32, 2821834349#32, 2952996808#32, 3210313671#32, 3336571891#32, 3584528711#32, 113926993#32, 338241895#32, 666307205#32, 773529912#32, 1294757372#32, 1396182291#32, 1695183700#32, 1986661051#32, 2177026350#32, 2456956037#32, 2730485921#32, 2820302411#32, 3259730800#32, 3345764771#32, 3516065817#32, 3600352804#32, 4094571909#32, 275423344#32, 430227734#32, 506948616#32, 659060556#32, 883997877#32, 958139571#32, 1322822218#32, 1537002063#32, 1747873779#32, 1955562222#32, 2024104815#32, 2227730452#32, 2361852424#32, 2428436474#32, 2756734187#32, 3204031479#32, 3329325298#32]
structure St where
  a : BitVec 32
  b : BitVec 32
  c : BitVec 32
  d : BitVec 32
  e : BitVec 32
  f : BitVec 32
  g : BitVec 32
  h : BitVec 32
def St.list (s : St) : List (BitVec 32) := [s.a, s.b, s.c, s.d, s.e, s.f, s.g, s.h]
def S1 (x : BitVec 32) : BitVec 32 := rot x 6 ^^^ rot x 11 ^^^ rot x 25
def S0 (x : BitVec 32) : BitVec 32 := rot x 2 ^^^ rot x 13 ^^^ rot x 22
def ch (e f g : BitVec 32) : BitVec 32 := (e &&& f) ^^^ (~~~ e &&& g)
def maj (a b c : BitVec 32) : BitVec 32 := (a &&& b) ^^^ (a &&& c) ^^^ (b &&& c)
def rt (s : St) (k w : BitVec 32) : BitVec 32 := s.h + S1 s.e + ch s.e s.f s.g + k + w
def ru (s : St) : BitVec 32 := S0 s.a + maj s.a s.b s.c
def rnd (s : St) (k w : BitVec 32) : St := ⟨rt s k w + ru s, s.a, s.b, s.c, s.d + rt s k w, s.e, s.f, s.g⟩
def runs (s : St) (ws : List (BitVec 32)) : Nat → St
  | 0 => s
  | i + 1 => rnd (runs s ws i) (KC.getD i 0) (ws.getD i 0)
def plus (s t : St) : St := ⟨s.a + t.a, s.b + t.b, s.c + t.c, s.d + t.d, s.e + t.e, s.f + t.f, s.g + t.g, s.h + t.h⟩
def take (s : St) (pb : List (BitVec 8)) : St := plus s (runs s (sched pb) 64)

def Tab (w : World) : Prop := ∃ t fr, w.heap[1]? = some (.cells (KC.map V32).toArray t fr)
theorem Tab.lt {w : World} (h : Tab w) : 1 < w.heap.size := by
  obtain ⟨t, fr, h⟩ := h
  exact (Array.getElem?_eq_some_iff.1 h).1
theorem Tab.of_heap {w w' : World} (h : Tab w) (he : w'.heap[1]? = w.heap[1]?) : Tab w' := by
  obtain ⟨t, fr, h⟩ := h
  exact ⟨t, fr, by rw [he]; exact h⟩
theorem Tab.cell {w : World} (h : Tab w) {j : Nat} {v : Value} (hv : (KC.map V32)[j]? = some v) : w.cell? ⟨1, j, none⟩ = some v := by
  obtain ⟨t, fr, h⟩ := h
  rw [cell_of_row w 1 j _ t fr h]; simpa using hv
theorem Tab.alloc {w : World} (h : Tab w) (o : Obj) : Tab (w.alloc o) := h.of_heap (Below.heap_alloc w o 1 h.lt)
theorem Tab.rowOther {w : World} (h : Tab w) {k : Nat} (hk : 1 ≠ k) (c : Array Value) : Tab (w.setRow k c) := h.of_heap (setRow_other w k 1 c hk)
theorem Tab.other {w : World} (h : Tab w) {a : Addr} (ha : 1 ≠ a.block) (v : Value) : Tab (w.setCell a v) := h.of_heap (heap_setCell_other w a 1 v ha)
theorem Tab.sets {k : Nat} (hk : 1 ≠ k) : ∀ (vs : List Value) (o : Nat) (w : World), Tab w → Tab (w.setCells k o vs)
  | [], _, _, h => h
  | v :: r, o, _, h => Tab.sets hk r (o + 1) _ (h.other (a := ⟨k, o, none⟩) hk v)
theorem Tab.butFor {H : Nat} {w w' : World} (h : Tab w) (hb : ButFor H w w') (hn : 1 ≠ H) : Tab w' := h.of_heap (hb.block 1 h.lt hn)

theorem info43 : (Tryz.prog.info? 195).map (·.size) = some 64 := by kernel_rfl
theorem size43 (pb : List (BitVec 8)) (h : pb.length = 64) : (Tryz.prog.info? 195).map (·.size) = some (pb.map V8).toArray.size := by
  rw [info43]; simp [h]

theorem Tab.below {B : Nat} {w w' : World} (h : Tab w) (hb : Below B w w') (hB : w.heap.size ≤ B) : Tab w' := h.of_heap (hb.block 1 (Nat.lt_of_lt_of_le h.lt hB))

def Rel2 (s : St) (pb : List (BitVec 8)) (B G : Nat) (w wq : World) : Prop :=
  Blk wq B (s.list.map V32) 194 ∧ Blk wq (B + 1 + 1) (List.replicate 8 Z32) 194 ∧ Blk wq G ((sched pb).map V32) 208 ∧ Tab wq ∧ Below B w wq ∧ B + 1 + 1 < G

theorem rel2_drewN {s : St} {pb : List (BitVec 8)} {B G : Nat} {w wq : World} (h : Rel2 s pb B G w wq) (n : Nat) : Rel2 s pb B G w (wq.drewN n) := by
  obtain ⟨h1, h2, h3, h4, h5, h6⟩ := h
  exact ⟨h1.drewN n, h2.drewN n, h3.drewN n, h4, below_drewN h5 n, h6⟩

theorem rel2_start (s : St) (pb : List (BitVec 8)) (w w1 : World) (ht : Tab w) (zs z64 : Array Value) (hz : zs = (List.replicate 8 Z32).toArray)
    (hb : Below ((((w.alloc (.cells (s.list.map V32).toArray 194)).alloc (.cells (pb.map V8).toArray 195)).alloc (.cells zs 194))).heap.size (((w.alloc (.cells (s.list.map V32).toArray 194)).alloc (.cells (pb.map V8).toArray 195)).alloc (.cells zs 194)) w1) :
    Rel2 s pb w.heap.size w1.heap.size w ((w1.alloc (.cells z64 208)).setRow w1.heap.size ((sched pb).map V32).toArray) := by
  subst hz
  have hsz := hb.size
  simp only [World.size_alloc] at hsz
  have hB : Below w.heap.size w (((w.alloc (.cells (s.list.map V32).toArray 194)).alloc (.cells (pb.map V8).toArray 195)).alloc (.cells (List.replicate 8 Z32).toArray 194)) :=
    (((Below.refl _ _).alloc (Nat.le_refl _) _).alloc (by simp) _).alloc (by simp; omega) _
  have hB1 := hB.trans (hb.mono (by simp; omega))
  have hne : w.heap.size ≠ w1.heap.size := by omega
  refine ⟨?_, ?_, ?_, ?_, ?_, by omega⟩
  · refine Blk.rowOther (Blk.alloc (Blk.below (((Blk.new w _ 194).alloc _).alloc _) hb (by simp; omega)) _) (by omega) _
  · refine Blk.rowOther (Blk.alloc (Blk.below (Blk.new' _ _ _ _ _ (by simp) rfl) hb (by simp)) _) (by omega) _
  · exact setRow_heap _ _ _ _ _ _ (heap_alloc_new w1 _)
  · refine Tab.rowOther (Tab.alloc (Tab.below ht hB1 (Nat.le_refl _)) _) (by have := ht.lt; omega) _
  · exact below_row (hB1.alloc (by omega) _) (by omega) _

theorem info42 : (Tryz.prog.info? 194).map (·.size) = some 8 := by kernel_rfl
def RelM (xs ys : List (BitVec 32)) (B : Nat) (w : World) (j : Nat) (wr : World) : Prop :=
  Blk wr B (((List.zipWith (· + ·) xs ys).take j ++ xs.drop j).map V32) 194 ∧ Blk wr (B + 1 + 1) (List.replicate 8 Z32) 194 ∧ Below B w wr
theorem index42 (l : List (BitVec 32)) (hl : l.length = 8) (k : Nat) (hk : k < 8) (W : World) : (Instr.index 194 (.agg (l.map V32).toArray) (.int .i64 (k : Int))).run Tryz.prog W = .ok (V32 (l.getD k 0)) W := by
  refine run_index_cells 194 53 8 _ k _ W Tryz.underlying194 Tryz.underlying53 hk (by kernel_rfl) ?_
  have := get_map V32 l k (by rw [hl]; exact hk) 0
  simpa using this
theorem part_get {α β : Type} (v : α → β) (f : α → α → α) (xs ys : List α) (j : Nat) (hj : j < xs.length) (hl : ys.length = xs.length) (d : α) :
    (((List.zipWith f xs ys).take j ++ xs.drop j).map v)[j]? = some (v (xs.getD j d)) := by
  have h1 : ((List.zipWith f xs ys).take j).length = j := by simp; omega
  rw [List.getElem?_map, List.getElem?_append_right (by omega), h1]
  simp [List.getD_eq_getElem?_getD, hj]
theorem part_set {α : Type} (f : α → α → α) (xs ys : List α) (j : Nat) (hj : j < xs.length) (hl : ys.length = xs.length) (d : α) :
    ((List.zipWith f xs ys).take j ++ xs.drop j).set j (f (xs.getD j d) (ys.getD j d)) = (List.zipWith f xs ys).take (j + 1) ++ xs.drop (j + 1) := by
  have h1 : ((List.zipWith f xs ys).take j).length = j := by simp; omega
  apply List.ext_getElem?
  intro i
  by_cases hij : i = j
  · subst hij
    rw [List.getElem?_set_self (by simp; omega), List.getElem?_append_left (by simp; omega)]
    simp [List.getElem?_take, List.getElem?_zipWith, List.getD_eq_getElem?_getD, hj, show i < ys.length by omega]
  · rw [List.getElem?_set_ne (fun h => hij h.symm)]
    by_cases hlt : i < j
    · rw [List.getElem?_append_left (by simp; omega), List.getElem?_append_left (by simp; omega)]
      simp [List.getElem?_take, hlt, show i < j + 1 by omega]
    · rw [List.getElem?_append_right (by simp; omega), List.getElem?_append_right (by simp; omega)]
      simp only [List.length_take, List.length_zipWith, List.getElem?_drop]
      congr 1
      omega
theorem relM_step {xs ys : List (BitVec 32)} {B : Nat} {w wr : World} {j : Nat} (h : RelM xs ys B w j wr) (hj : j < 8) {x y : BitVec 32} (hx : xs.getD j 0 = x) (hy : ys.getD j 0 = y) (h8 : xs.length = 8 := by rfl) (h8' : ys.length = 8 := by rfl) :
    RelM xs ys B w (j + 1) (wr.setCell ⟨B, j, none⟩ (V32 (x + y))) := by
  obtain ⟨h1, h2, h5⟩ := h
  refine ⟨?_, h2.other (by simp; omega) _, h5.setCell (by simp) _⟩
  have := h1.set j (V32 (x + y))
  rw [← List.map_set, ← hx, ← hy, part_set (· + ·) xs ys j (by omega) (by omega) 0] at this
  rw [← hx, ← hy]
  exact this
def RelL (s : St) (pb : List (BitVec 8)) (B G : Nat) (w : World) (k : Nat) (va vb vc vd ve vf vg vh : Value) (wr : World) : Prop :=
  ∃ t : St, t = runs s (sched pb) k ∧ va = V32 t.a ∧ vb = V32 t.b ∧ vc = V32 t.c ∧ vd = V32 t.d ∧ ve = V32 t.e ∧ vf = V32 t.f ∧ vg = V32 t.g ∧ vh = V32 t.h ∧ Rel2 s pb B G w wr
theorem index52 (pb : List (BitVec 8)) (k : Nat) (hk : k < 64) (W : World) : (Instr.index 208 (.agg ((sched pb).map V32).toArray) (.int .i64 (k : Int))).run Tryz.prog W = .ok (V32 ((sched pb).getD k 0)) W := by
  refine run_index_cells 208 53 64 _ k _ W Tryz.underlying208 Tryz.underlying53 hk (by kernel_rfl) ?_
  have := get_map V32 (sched pb) k (by rw [sched_length]; exact hk) 0
  simpa using this
theorem turned_q (x : BitVec 32) (m : Int) (h0 : 0 < m) (h1 : m < 32) (w : World) :
    Calls Tryz.prog 126 #[V32 x, .int .i64 m] w fun e w' => e = .returned (V32 (rot x m.toNat)) ∧ w' = w :=
  (turned_at x m h0 h1 w).mono fun _ _ ⟨a, b⟩ => ⟨a, b.symm⟩

theorem not32' (x : BitVec 32) : bits .xor .u32 (if IntKind.u32.signed = true then -1 else IntKind.u32.max) (N32 x) = N32 (~~~ x) := not32 x
theorem t_facts (a b c d e f g h kk wk T : BitVec 32) (hT : rt ⟨a, b, c, d, e, f, g, h⟩ kk wk = T) :
    (bits .xor .u32 (if IntKind.u32.signed = true then -1 else IntKind.u32.max) (N32 e) = N32 (~~~ e)) ∧
    (bits .and .u32 (N32 e) (N32 f) = N32 (e &&& f)) ∧ (bits .and .u32 (N32 (~~~ e)) (N32 g) = N32 (~~~ e &&& g)) ∧
    (bits .xor .u32 (N32 (e &&& f)) (N32 (~~~ e &&& g)) = N32 (ch e f g)) ∧
    (bits .xor .u32 (N32 (rot e 6)) (N32 (rot e 11)) = N32 (rot e 6 ^^^ rot e 11)) ∧
    (bits .xor .u32 (N32 (rot e 6 ^^^ rot e 11)) (N32 (rot e 25)) = N32 (S1 e)) ∧
    (IntKind.u32.wrap (N32 h + N32 (S1 e)) = N32 (h + S1 e)) ∧
    (IntKind.u32.wrap (N32 (h + S1 e) + N32 (ch e f g)) = N32 (h + S1 e + ch e f g)) ∧
    (IntKind.u32.wrap (N32 (h + S1 e + ch e f g) + N32 kk) = N32 (h + S1 e + ch e f g + kk)) ∧
    (IntKind.u32.wrap (N32 (h + S1 e + ch e f g + kk) + N32 wk) = N32 T) :=
  ⟨not32' e, and32 _ _, and32 _ _, xor32 _ _, xor32 _ _, xor32 _ _, add32 _ _, add32 _ _, add32 _ _, by rw [add32, ← hT]; rfl⟩
theorem u_facts (a b c d e f g h U : BitVec 32) (hU : ru ⟨a, b, c, d, e, f, g, h⟩ = U) :
    (bits .and .u32 (N32 a) (N32 b) = N32 (a &&& b)) ∧ (bits .and .u32 (N32 a) (N32 c) = N32 (a &&& c)) ∧ (bits .and .u32 (N32 b) (N32 c) = N32 (b &&& c)) ∧
    (bits .xor .u32 (N32 (a &&& b)) (N32 (a &&& c)) = N32 (a &&& b ^^^ a &&& c)) ∧
    (bits .xor .u32 (N32 (a &&& b ^^^ a &&& c)) (N32 (b &&& c)) = N32 (maj a b c)) ∧
    (bits .xor .u32 (N32 (rot a 2)) (N32 (rot a 13)) = N32 (rot a 2 ^^^ rot a 13)) ∧
    (bits .xor .u32 (N32 (rot a 2 ^^^ rot a 13)) (N32 (rot a 22)) = N32 (S0 a)) ∧
    (IntKind.u32.wrap (N32 (S0 a) + N32 (maj a b c)) = N32 U) :=
  ⟨and32 _ _, and32 _ _, and32 _ _, xor32 _ _, xor32 _ _, xor32 _ _, xor32 _ _, by rw [add32, ← hU]; rfl⟩

set_option maxRecDepth 100000 in
set_option maxHeartbeats 1000000 in
theorem takenIn_any (a b c d e f g h : BitVec 32) (pb : List (BitVec 8)) (hps : pb.length = 64) (w : World) (ht : Tab w) :
    Calls Tryz.prog 113 #[.agg #[V32 a, V32 b, V32 c, V32 d, V32 e, V32 f, V32 g, V32 h], .agg (pb.map V8).toArray] w fun x w' => x = .returned (.agg ((take ⟨a, b, c, d, e, f, g, h⟩ pb).list.map V32).toArray) ∧ Below w.heap.size w w' := by
  have HT := Lib.hid ht
  clear ht
  go_enter Tryz.func113, Tryz.ntmps113
  go_wp2_with (first
    | (refine wpList_load_row rfl 195 (.tmp 3) rfl (w.heap.size + 1) rfl 195 _ _ _ ((Blk.new' _ _ _ _ _ (by simp) rfl).alloc _) Tryz.underlying195 rfl (size43 pb hps) ?_)
    | fail)
  refine (numbersOf_any pb hps _).mono ?_
  rintro e0 w1 ⟨rfl, hb⟩
  have HB := Lib.hid hb
  clear hb
  go_wp2_with (first
    | (refine wpList_store_row rfl 208 (.tmp 5) (.tmp 21) rfl w1.heap.size _ rfl rfl 208 _ (heap_alloc_new _ _) (size52 pb) (by simp [sched_length]) (one_ints V32 (fun _ => rfl) _) ?_; refine (fun (k : ∀ wq, Rel2 ⟨a, b, c, d, e, f, g, h⟩ pb w.heap.size w1.heap.size w wq → wpList _ _ _ _ _ wq) => k _ (rel2_start ⟨a, b, c, d, e, f, g, h⟩ pb w w1 HT.out _ _ rfl HB.out)) ?_; intro wq hrel; have HR := Lib.hid hrel; clear hrel)
    | fail)
  obtain ⟨h42, _⟩ := HR.out
  have c0 := h42.cell (j := 0) rfl
  have c1 := h42.cell (j := 1) rfl
  have c2 := h42.cell (j := 2) rfl
  have c3 := h42.cell (j := 3) rfl
  have c4 := h42.cell (j := 4) rfl
  have c5 := h42.cell (j := 5) rfl
  have c6 := h42.cell (j := 6) rfl
  have c7 := h42.cell (j := 7) rfl
  clear h42
  simp only [Act.put]
  go_quiet (fail)
  clear c0 c1 c2 c3 c4 c5 c6 c7 HB
  have HR1 := rel2_drewN HR.out nq
  generalize wq.drewN nq = w2 at HR1 ⊢
  have HR2 := Lib.hid HR1
  clear HR HR1
  go_wp2_with (first
    | (refine wpList_load_row rfl 208 (.tmp 5) rfl w1.heap.size rfl 208 _ _ _ HR2.out.2.2.1 Tryz.underlying208 rfl (size52 pb) ?_)
    | fail)
  go_loopw [6, 7, 8, 9, 10, 11, 12, 13, 39] (fun va vb vc vd ve vf vg vh i wr => ∃ k : Nat, k ≤ 64 ∧ i = .int .i64 k ∧ RelL ⟨a, b, c, d, e, f, g, h⟩ pb w.heap.size w1.heap.size w k va vb vc vd ve vf vg vh wr) (fun _ _ _ _ _ _ _ _ i _ => 64 - (intOf i).toNat)
  case atStart => exact ⟨0, by omega, rfl, ⟨a, b, c, d, e, f, g, h⟩, rfl, rfl, rfl, rfl, rfl, rfl, rfl, rfl, rfl, HR2.out⟩
  case round =>
    clear HR2
    obtain ⟨k, hk, rfl, ⟨sa, sb, sc, sd, se, sf, sg, sh⟩, hs, rfl, rfl, rfl, rfl, rfl, rfl, rfl, rfl, hR⟩ := hrel
    have HS := Lib.hid hs
    have HR := Lib.hid hR
    obtain ⟨_, _, _, hT, _⟩ := hR
    clear hs
    by_cases hlt : k < 64
    · have ck := hT.cell (get_map V32 KC k hlt 0)
      have hx : ∀ W : World, (Instr.index 208 (.agg ((sched pb).map V32).toArray) (.int .i64 (k : Int))).run Tryz.prog W = .ok (V32 ((sched pb).getD k 0)) W := fun W => index52 pb k hlt W
      obtain ⟨kk, hkk⟩ : ∃ x, KC.getD k 0 = x := ⟨_, rfl⟩
      obtain ⟨wk, hwk⟩ : ∃ x, (sched pb).getD k 0 = x := ⟨_, rfl⟩
      rw [hkk] at ck
      simp only [hwk] at hx
      have HK := Lib.hid hkk
      have HW := Lib.hid hwk
      clear hkk hwk hT
      have q : (k : Int) < 64 := by omega
      go_wp2
      obtain ⟨T, hT⟩ : ∃ x, rt ⟨sa, sb, sc, sd, se, sf, sg, sh⟩ kk wk = x := ⟨_, rfl⟩
      obtain ⟨n1, a1, a2, x1, x2, x3, y1, y2, y3, y4⟩ := t_facts sa sb sc sd se sf sg sh kk wk T hT
      have HT' := Lib.hid hT
      clear hT
      go_quiet ((go_at_call 126; exact Calls.quiet_of_same (turned_q _ _ (by decide) (by decide) _)))
      clear n1 a1 a2 x1 x2 x3 y1 y2 y3 y4 ck hx
      obtain ⟨U, hU⟩ : ∃ x, ru ⟨sa, sb, sc, sd, se, sf, sg, sh⟩ = x := ⟨_, rfl⟩
      obtain ⟨a1, a2, a3, x1, x2, x3, x4, y1⟩ := u_facts sa sb sc sd se sf sg sh U hU
      have y2 := add32 T U
      have y3 := add32 sd T
      have HU := Lib.hid hU
      have HR1 := rel2_drewN HR.out nq
      generalize wr.drewN nq = w3 at HR1 ⊢
      have HR2 := Lib.hid HR1
      clear hU HR HR1
      go_wp2_with (go_at_call 126; refine (turned_at _ _ (by decide) (by decide) _).mono ?_; rintro e w' ⟨rfl, rfl⟩)
      go_roundw
      case rel =>
        refine ⟨k + 1, by omega, by go_num, ⟨T + U, sa, sb, sc, sd + T, se, sf, sg⟩, ?_, rfl, rfl, rfl, rfl, rfl, rfl, rfl, rfl, HR2.out⟩
        show _ = rnd (runs _ _ k) (KC.getD k 0) ((sched pb).getD k 0)
        rw [← HS.out, HK.out, HW.out]
        unfold rnd
        rw [HT'.out, HU.out]
      case measure => simp [intOf]; omega
    · obtain rfl : k = 64 := by omega
      clear hlt hk hT
      obtain ⟨h1, h2, _, _, h5, _⟩ := HR.out
      have H0 : Hid (RelM [a, b, c, d, e, f, g, h] [sa, sb, sc, sd, se, sf, sg, sh] w.heap.size w 0 wr) := Lib.hid ⟨h1, h2, h5⟩
      have hx : ∀ (j : Nat) (W : World), j < 8 → (Instr.index 194 (.agg #[V32 sa, V32 sb, V32 sc, V32 sd, V32 se, V32 sf, V32 sg, V32 sh]) (.int .i64 (j : Int))).run Tryz.prog W = .ok (V32 ([sa, sb, sc, sd, se, sf, sg, sh].getD j 0)) W := fun j W hj => index42 [sa, sb, sc, sd, se, sf, sg, sh] rfl j hj W
      have HX := Lib.hid hx
      clear h1 h2 h5 HR hx
      go_wp2
      go_loopw [110] (fun i wr => ∃ j : Nat, j ≤ 8 ∧ i = .int .i64 j ∧ RelM [a, b, c, d, e, f, g, h] [sa, sb, sc, sd, se, sf, sg, sh] w.heap.size w j wr) (fun i _ => 8 - (intOf i).toNat)
      case atStart => exact ⟨0, by omega, rfl, H0.out⟩
      case round =>
        clear H0
        obtain ⟨j, hj, rfl, hR⟩ := hrel
        have HR := Lib.hid hR
        obtain ⟨h1, h2, h5⟩ := hR
        by_cases hlt : j < 8
        · have hx : ∀ W : World, (Instr.index 194 (.agg #[V32 sa, V32 sb, V32 sc, V32 sd, V32 se, V32 sf, V32 sg, V32 sh]) (.int .i64 (j : Int))).run Tryz.prog W = .ok (V32 ([sa, sb, sc, sd, se, sf, sg, sh].getD j 0)) W := fun W => HX.out j W hlt
          have cj := h1.cell (part_get V32 (· + ·) [a, b, c, d, e, f, g, h] [sa, sb, sc, sd, se, sf, sg, sh] j hlt rfl 0)
          have fj := h1.free j
          obtain ⟨y, hy⟩ : ∃ y, [sa, sb, sc, sd, se, sf, sg, sh].getD j 0 = y := ⟨_, rfl⟩
          obtain ⟨x, hx'⟩ : ∃ x, [a, b, c, d, e, f, g, h].getD j 0 = x := ⟨_, rfl⟩
          simp only [hy] at hx
          rw [hx'] at cj
          have HN := Lib.hid (relM_step HR.out hlt hx' hy)
          have y1 := add32 x y
          have hsz : w.heap.size < wr.heap.size := h1.lt
          have q : (j : Int) < 8 := by omega
          clear hy hx' h1 h2 h5 HR HX
          go_wp2
          go_roundw
          case rel => exact ⟨j + 1, by omega, by go_num, HN.out⟩
          case measure => simp [intOf]; omega
        · obtain rfl : j = 8 := by omega
          have HA := Lib.hid h1; have HB := Lib.hid h2; have HC := Lib.hid h5
          clear h1 h2 h5 HR HX hlt
          go_wp2_with (first
            | (refine wpList_load_row rfl 194 (.tmp 2) rfl w.heap.size rfl 194 _ _ _ HA.out Tryz.underlying194 rfl info42 ?_)
            | (refine wpList_store_row rfl 194 (.tmp 4) (.tmp 121) rfl (w.heap.size + 1 + 1) _ rfl rfl 194 _ HB.out info42 rfl (one_ints V32 (fun _ => rfl) _) ?_)
            | fail)
          refine bodyPost_ret (results_cell_row Tryz.results113 _ _ (w.heap.size + 1 + 1) 194 _ _ _ rfl (HB.out.row _) Tryz.underlying194 rfl info42) rfl ⟨?_, below_row HC.out (by omega) _⟩
          congr 3
          unfold take
          rw [← HS.out]
          rfl

end Go.Proofs.YtmgagalhpkieoaaGreatDoor
/- A state's numbers as bytes. -/
namespace Go.Proofs.YtmgagalhpkieoaaGreatDoor
open Go.RowKit

def Z8 : Value := .int .u8 0
def lo8 (x : BitVec 32) : BitVec 8 := BitVec.ofNat 8 x.toNat
theorem lo8_eq (x : BitVec 32) : IntKind.u8.wrap (N32 x) = N8 (lo8 x) := by
  unfold N32 N8 lo8
  rw [IntKind.wrap_u8', BitVec.toNat_ofNat]
  simp
def wb (x : BitVec 32) (i : Nat) : BitVec 8 := lo8 (x >>> (24 - 8 * i))
def wbs (x : BitVec 32) (k : Nat) : List (BitVec 8) := (List.range k).map (wb x)
theorem wbs_length (x : BitVec 32) (k : Nat) : (wbs x k).length = k := by simp [wbs]
theorem wbs_succ (x : BitVec 32) (k : Nat) : wbs x (k + 1) = wbs x k ++ [wb x k] := by simp [wbs, List.range_succ]
def outBytes (l : List (BitVec 32)) : List (BitVec 8) := l.flatMap (wbs · 4)

def RelP (dn : List (BitVec 8)) (n m : Nat) (B d t : Nat) (w wr : World) : Prop :=
  Blk wr d (dn.map V8 ++ List.replicate m Z8) 55 ∧ Blk wr t [.int .i64 (n : Int)] 3 ∧ Below B w wr
theorem relP_step {dn : List (BitVec 8)} {n m m' : Nat} {B d t : Nat} {w wr : World} (h : RelP dn n m B d t w wr) (hd : B ≤ d) (hne : d ≠ t) (hm : m = m' + 1) (x : BitVec 8) {k : Nat} (hk : k = dn.length) :
    RelP (dn ++ [x]) n m' B d t w (wr.setCell ⟨d, k, none⟩ (V8 x)).drew := by
  obtain ⟨h1, h2, h4⟩ := h
  refine ⟨?_, (h2.other (fun e => hne e.symm) _).drew, (h4.setCell hd _).drew⟩
  have := (h1.set k (V8 x)).drew
  rw [set_next' (dn.map V8) m m' Z8 (V8 x) k (by simpa using hk) hm] at this
  simpa using this

set_option maxRecDepth 100000 in
set_option maxHeartbeats 1000000 in
theorem put_any (x : BitVec 32) (dn : List (BitVec 8)) (n m B d t : Nat) (w0 w : World) (hn : dn.length = n) (hm : n + 4 + m = 32) (hd : B ≤ d) (ht : B ≤ t) (hne : d ≠ t) (h : RelP dn n (m + 4) B d t w0 w) :
    Calls Tryz.prog 130 #[V32 x, .pointer (some ⟨d, 0, none⟩), .pointer (some ⟨t, 0, none⟩)] w fun e w' => e = .returned (.tuple #[]) ∧ RelP (dn ++ wbs x 4) (n + 4) m B d t w0 w' := by
  have H := Lib.hid h
  have HN := Lib.hid hn
  clear h hn
  go_enter Tryz.func130, Tryz.ntmps130
  go_wp2
  go_loopw [5] (fun i wr => ∃ j : Nat, j ≤ 4 ∧ i = .int .i64 j ∧ RelP (dn ++ wbs x j) n (m + 4 - j) B d t w0 wr) (fun i _ => 4 - (intOf i).toNat)
  case atStart =>
    refine ⟨0, by omega, rfl, ?_⟩
    have e : dn ++ wbs x 0 = dn := by simp [wbs]
    rw [e]; exact H.out
  case round =>
    clear H
    obtain ⟨j, hj, rfl, hR⟩ := hrel
    have HR := Lib.hid hR
    obtain ⟨h1, h2, h3⟩ := hR
    have ct : wr.cell? ⟨t, 0, none⟩ = some (.int .i64 (n : Int)) := h2.cell rfl
    have ft := h2.free 0
    have hdl : d < wr.heap.size := h1.lt
    have htl : t < wr.heap.size := h2.lt
    by_cases hlt : j < 4
    · obtain ⟨v, cw⟩ := h1.has (n + j) (by simp [wbs_length, HN.out]; omega)
      have fw := h1.free (n + j)
      clear h1 h2 h3
      have e1 := IntWalk.i64_in ((n : Int) + (j : Int)) (by omega)
      have e2 := IntWalk.i64_in (8 * (j : Int)) (by omega)
      have e3 := IntWalk.i64_in (24 - 8 * (j : Int)) (by omega)
      have p1 : 0 ≤ (n : Int) + (j : Int) := by omega
      have p3 : 0 ≤ 24 - 8 * (j : Int) := by omega
      have p3' : 8 * (j : Int) ≤ 24 := by omega
      have q1 : (n : Int) + (j : Int) < 32 := by omega
      have r1 : ((n : Int) + (j : Int)).toNat = n + j := by omega
      have r3 : (24 - 8 * (j : Int)).toNat = 24 - 8 * j := by omega
      have m3 : min (24 - 8 * j) 32 = 24 - 8 * j := by omega
      have s3 := shr32 x (24 - 8 * j)
      have l3 := lo8_eq (x >>> (24 - 8 * j))
      go_wp2
      go_still_tail 10, (by kernel_rfl)
      clear e1 e2 e3 p1 p3 p3' q1 r1 r3 m3 s3 l3
      go_wp2
      go_roundw
      case rel =>
        refine ⟨j + 1, by omega, by go_num, ?_⟩
        rw [wbs_succ, ← List.append_assoc]
        exact relP_step HR.out hd hne (by omega) _ (by simp [wbs_length, HN.out])
      case measure => simp [intOf]; omega
    · obtain rfl : j = 4 := by omega
      clear h1 h2 h3 hlt hj
      have e1 := IntWalk.i64_in ((n : Int) + 4) (by omega)
      go_wp2
      go_end0
      refine ⟨rfl, ?_⟩
      obtain ⟨h1, h2, h3⟩ := HR.out
      refine ⟨?_, ?_, h3.setCell ht _⟩
      · have := h1.other (a := ⟨t, 0, none⟩) (by simpa using hne) (.int .i64 ((n : Int) + 4))
        rw [show m + 4 - 4 = m by omega] at this
        exact this
      · have := h2.set 0 (.int .i64 ((n : Int) + 4))
        simpa using this

theorem info24 : (Tryz.prog.info? 55).map (·.size) = some 32 := by kernel_rfl
theorem outBytes_length (l : List (BitVec 32)) : (outBytes l).length = 4 * l.length := by
  induction l with
  | nil => rfl
  | cons x l ih => simp only [outBytes, List.flatMap_cons, List.length_append, wbs_length, List.length_cons] at ih ⊢; omega
theorem outBytes_snoc (l : List (BitVec 32)) (j : Nat) (hj : j < l.length) : outBytes (l.take (j + 1)) = outBytes (l.take j) ++ wbs (l.getD j 0) 4 := by
  have e : l.getD j 0 = l[j] := by simp [List.getD_eq_getElem?_getD, hj]
  rw [List.take_succ_eq_append_getElem hj, e]
  unfold outBytes
  rw [List.flatMap_append]
  simp
theorem size24 (l : List (BitVec 32)) (h : l.length = 8) : (Tryz.prog.info? 55).map (·.size) = some ((outBytes l).map V8).toArray.size := by
  rw [info24]; simp [outBytes_length, h]

def FactsB (w W1 : World) : Prop :=
  Below w.heap.size w W1 ∧ Blk W1 (w.heap.size + 1) (List.replicate 32 Z8) 55 ∧ RelP [] 0 32 (w.heap.size + 1 + 1) (w.heap.size + 1 + 1) (w.heap.size + 1 + 1 + 1) W1 W1
theorem factsB_start (w : World) (s z1 z2 z3 : Array Value) (h1 : z1 = (List.replicate 32 Z8).toArray) (h2 : z2 = z1) (h3 : z3 = #[.int .i64 0] := by rfl) :
    FactsB w ((((w.alloc (.cells s 194)).alloc (.cells z1 55)).alloc (.cells z2 55)).alloc (.cells z3 3)) := by
  subst h2 h1 h3
  refine ⟨((((Below.refl _ _).alloc (Nat.le_refl _) _).alloc (by simp) _).alloc (by simp; omega) _).alloc (by simp; omega) _, ?_, ?_, ?_, Below.refl _ _⟩
  · exact ((Blk.new' _ _ _ _ _ (by simp) rfl).alloc _).alloc _
  · exact (Blk.new' _ _ _ _ _ (by simp) rfl).alloc _
  · exact Blk.new' _ _ _ _ _ (by simp) rfl

set_option maxRecDepth 100000 in
set_option maxHeartbeats 1000000 in
theorem bytesOf_any (l : List (BitVec 32)) (hl : l.length = 8) (w : World) :
    Calls Tryz.prog 119 #[.agg (l.map V32).toArray] w fun e w' => e = .returned (.agg ((outBytes l).map V8).toArray) ∧ Below w.heap.size w w' := by
  have hmf : ∀ (fn : Fn) (first cap : Array Value) (w : World), (Instr.makeFunc fn first cap).run Tryz.prog w = .ok (.func fn first cap) w := fun _ _ _ _ => rfl
  go_enter Tryz.func119, Tryz.ntmps119
  go_wp2_with (first
    | (refine wpList_load_row rfl 194 (.tmp 1) rfl w.heap.size rfl 194 _ _ _ ((((Blk.new _ (l.map V32) 194).alloc _).alloc _).alloc _) Tryz.underlying194 rfl (by rw [info42]; simp [hl]) ?_)
    | fail)
  refine (fun (k : ∀ W1, FactsB w W1 → Code.wp _ _ _ _ W1) => k _ (factsB_start w _ _ _ _ rfl rfl)) ?_
  intro W1 hF
  have HF := Lib.hid hF
  clear hF
  go_loopw [10] (fun i wr => ∃ j : Nat, j ≤ 8 ∧ i = .int .i64 j ∧ RelP (outBytes (l.take j)) (4 * j) (32 - 4 * j) (w.heap.size + 1 + 1) (w.heap.size + 1 + 1) (w.heap.size + 1 + 1 + 1) W1 wr) (fun i _ => 8 - (intOf i).toNat)
  case atStart => exact ⟨0, by omega, rfl, HF.out.2.2⟩
  case round =>
    obtain ⟨j, hj, rfl, hR⟩ := hrel
    have HR := Lib.hid hR
    clear hR
    by_cases hlt : j < 8
    · have hx : ∀ W : World, (Instr.index 194 (.agg (l.map V32).toArray) (.int .i64 (j : Int))).run Tryz.prog W = .ok (V32 (l.getD j 0)) W := fun W => index42 l hl j hlt W
      obtain ⟨y, hy⟩ : ∃ y, l.getD j 0 = y := ⟨_, rfl⟩
      simp only [hy] at hx
      have HY := Lib.hid hy
      clear hy
      go_wp2_with (go_at_call 130; refine (put_any y (outBytes (l.take j)) (4 * j) (28 - 4 * j) (w.heap.size + 1 + 1) (w.heap.size + 1 + 1) (w.heap.size + 1 + 1 + 1) W1 _ (by rw [outBytes_length]; simp [hl]; omega) (by omega) (Nat.le_refl _) (by omega) (by omega) (by have := HR.out; rw [show 32 - 4 * j = 28 - 4 * j + 4 by omega] at this; exact this)).mono ?_; rintro e w2 ⟨rfl, hR2⟩; have HR2 := Lib.hid hR2; clear hR2)
      go_roundw
      case rel =>
        refine ⟨j + 1, by omega, by go_num, ?_⟩
        rw [outBytes_snoc l j (by omega), HY.out, show 32 - 4 * (j + 1) = 28 - 4 * j by omega, show 4 * (j + 1) = 4 * j + 4 by omega]
        exact HR2.out
      case measure => simp [intOf]; omega
    · obtain rfl : j = 8 := by omega
      obtain ⟨hB, hz, _⟩ := HF.out
      obtain ⟨h1, _, h3⟩ := HR.out
      have e8 : l.take 8 = l := List.take_of_length_le (by omega)
      rw [e8] at h1
      have h1' : Blk wr (w.heap.size + 1 + 1) ((outBytes l).map V8) 55 := by simpa using h1
      have H1 := Lib.hid h1'
      have HZ := Lib.hid (hz.below h3 (by omega))
      have HB := Lib.hid (hB.trans (h3.mono (by omega)))
      clear hB hz h1 h3 h1' HR HF e8 hlt hj
      go_wp2_with (first
        | (refine wpList_load_row rfl 55 (.tmp 3) rfl (w.heap.size + 1 + 1) rfl 55 _ _ _ H1.out Tryz.underlying55 rfl (size24 l hl) ?_)
        | (refine wpList_store_row rfl 55 (.tmp 2) (.tmp 17) rfl (w.heap.size + 1) _ rfl rfl 55 _ HZ.out (size24 l hl) (by simp [outBytes_length, hl]) (one_ints V8 (fun _ => rfl) _) ?_)
        | fail)
      exact bodyPost_ret (results_cell_row Tryz.results119 _ _ (w.heap.size + 1) 55 _ _ _ rfl (HZ.out.row _) Tryz.underlying55 rfl (size24 l hl)) rfl ⟨rfl, below_row HB.out (by omega) _⟩

end Go.Proofs.YtmgagalhpkieoaaGreatDoor
/- What a hash holds behind so many bytes: plain lemmas on lists. -/
namespace Go.Proofs.YtmgagalhpkieoaaGreatDoor

def H0 : St := ⟨0x6a09e667#32, 0xbb67ae85#32, 0x3c6ef372#32, 0xa54ff53a#32, 0x510e527f#32, 0x9b05688c#32, 0x1f83d9ab#32, 0x5be0cd19#32⟩
def chunk (m : List (BitVec 8)) (i : Nat) : List (BitVec 8) := (m.drop (64 * i)).take 64
def absorb : Nat → List (BitVec 8) → St
  | 0, _ => H0
  | i + 1, m => take (absorb i m) (chunk m i)

theorem chunk_append (m b : List (BitVec 8)) (i : Nat) (h : 64 * (i + 1) ≤ m.length) : chunk (m ++ b) i = chunk m i := by
  unfold chunk
  rw [List.drop_append_of_le_length (by omega), List.take_append_of_le_length (by simp; omega)]
theorem absorb_append (n : Nat) (m b : List (BitVec 8)) (h : 64 * n ≤ m.length) : absorb n (m ++ b) = absorb n m := by
  induction n with
  | zero => rfl
  | succ n ih => rw [absorb, absorb, ih (by omega), chunk_append m b n (by omega)]

def laid (rest : List (BitVec 8)) (k : Nat) (cs : List (BitVec 8)) : List (BitVec 8) := rest.take k ++ (cs ++ rest.drop (k + cs.length))
theorem laid_length (rest : List (BitVec 8)) (k : Nat) (cs : List (BitVec 8)) (hr : rest.length = 64) (h : k + cs.length ≤ 64) : (laid rest k cs).length = 64 := by
  unfold laid; simp; omega

structure Holds (m rest : List (BitVec 8)) : Prop where
  len : rest.length = 64
  tail : rest.take (m.length % 64) = m.drop (64 * (m.length / 64))

theorem laid_tail {m rest : List (BitVec 8)} (h : Holds m rest) (cs : List (BitVec 8)) (hc : m.length % 64 + cs.length ≤ 64) :
    (laid rest (m.length % 64) cs).take (m.length % 64 + cs.length) = (m ++ cs).drop (64 * (m.length / 64)) := by
  have h1 := h.len
  unfold laid
  rw [← List.append_assoc, List.take_append_of_le_length (by simp; omega), List.take_of_length_le (by simp; omega), h.tail, List.drop_append_of_le_length (by omega)]

theorem holds_part {m rest : List (BitVec 8)} (h : Holds m rest) (cs : List (BitVec 8)) (hc : m.length % 64 + cs.length < 64) :
    Holds (m ++ cs) (laid rest (m.length % 64) cs) ∧ absorb ((m ++ cs).length / 64) (m ++ cs) = absorb (m.length / 64) m := by
  have hl : (m ++ cs).length / 64 = m.length / 64 := by simp; omega
  have hr : (m ++ cs).length % 64 = m.length % 64 + cs.length := by simp; omega
  refine ⟨⟨laid_length _ _ _ h.len (by omega), ?_⟩, ?_⟩
  · rw [hl, hr]; exact laid_tail h cs (by omega)
  · rw [hl]; exact absorb_append _ _ _ (by omega)

theorem holds_full {m rest : List (BitVec 8)} (h : Holds m rest) (cs : List (BitVec 8)) (hc : m.length % 64 + cs.length = 64) :
    Holds (m ++ cs) (laid rest (m.length % 64) cs) ∧ absorb ((m ++ cs).length / 64) (m ++ cs) = take (absorb (m.length / 64) m) (laid rest (m.length % 64) cs) := by
  have hl : (m ++ cs).length / 64 = m.length / 64 + 1 := by simp; omega
  have hr : (m ++ cs).length % 64 = 0 := by simp; omega
  have ht := laid_tail h cs (by omega)
  have hll := laid_length rest (m.length % 64) cs h.len (by omega)
  rw [hc, List.take_of_length_le (by omega)] at ht
  refine ⟨⟨hll, ?_⟩, ?_⟩
  · rw [hl, hr, List.take_zero, List.drop_of_length_le (by simp; omega)]
  · rw [hl, absorb, absorb_append _ _ _ (by omega)]
    congr 1
    unfold chunk
    rw [← ht, List.take_of_length_le (by omega)]
end Go.Proofs.YtmgagalhpkieoaaGreatDoor
