/- Mark, Give, Hold, Sick, Release, Back, Is. -/
import Derived.Test.YtmgagalhpkieoaaGreatDoorM20
import Derived.Test.YtmgagalhpkieoaaGreatDoorM09
import Derived.Test.YtmgagalhpkieoaaGreatDoorM11
namespace Go.Proofs.YtmgagalhpkieoaaGreatDoor
open Go.RowKit

set_option maxRecDepth 100000 in
set_option maxHeartbeats 4000000 in
theorem sick_any (d D a : Nat) (B : Nat → Nat) (sp : Sp) (w : World) (h : SpAt w D B sp) (hd : d < 2) (ha : a < 65536) : Calls Tryz.prog 110 #[.pointer (some ⟨D, 0, none⟩), .int .i64 (d : Int), .int .u16 (a : Int)] w fun e w' =>
    e = .returned (.int .i64 (oneE sp d a (fun _ => 0) : Nat)) ∧ SpAt w' D B (oneS sp d a (fun x => { x with sick := true })) ∧ Chg (Of B) w w' := by
  have H := Lib.hid (one_any d D a 123 B sp _ _ _ _ w h hd ha acts_sick trivial)
  clear h hd ha
  unfold fval at H
  go_enter Tryz.func110, Tryz.ntmps110
  go_wp2_with fail
  refine H.out.mono ?_
  rintro e w2 ⟨rfl, h4⟩
  have H4 := Lib.hid h4
  clear h4
  go_wp2_with fail
  go_ret
  exact ⟨rfl, H4.out⟩
def isS (sp : Sp) (d a : Nat) : Bool := match (sp d)[a - 1]? with | some x => if a = 0 then false else x.sick | none => false
/-- Is: what one comes to leaves the answer in the box. -/
def IsPost (w : World) (v : Bool) (w' : World) : Prop := Blk w' w.heap.size [.bool v] 4 ∧ Below w.heap.size w w'
set_option maxRecDepth 100000 in
set_option maxHeartbeats 4000000 in
theorem is_of (p : Value) (d : Int) (a : Nat) (b : Bool) (w : World) (h : ∀ w1, Blk w1 w.heap.size [.bool false] 4 → Below w.heap.size w w1 → Calls Tryz.prog 73 #[p, .int .i64 d, .int .u16 (a : Int), fval 74 #[.pointer (some ⟨w.heap.size, 0, none⟩)]] w1 fun e w' => ∃ v, e = .returned v ∧ IsPost w b w') :
    Calls Tryz.prog 29 #[p, .int .i64 d, .int .u16 (a : Int)] w fun e w' => e = .returned (.bool b) ∧ Below w.heap.size w w' := by
  have hmf : ∀ (fn : Fn) (first cap : Array Value) (w : World), (Instr.makeFunc fn first cap).run Tryz.prog w = .ok (.func fn first cap) w := fun _ _ _ _ => rfl
  have H := Lib.hid h
  clear h
  unfold fval at H
  go_enter Tryz.func29, Tryz.ntmps29
  go_wp2_with fail
  refine (H.out _ (Blk.new' _ _ _ _ _ rfl rfl) ((Below.refl _ _).alloc (Nat.le_refl _) _)).mono ?_
  rintro e w2 ⟨v, rfl, h1, h2⟩
  have c0 := h1.cell (j := 0) rfl
  have H2 := Lib.hid h2
  clear h1 h2
  go_wp2_with fail
  go_ret
  exact ⟨rfl, H2.out⟩
theorem is_any (d D a : Nat) (B : Nat → Nat) (sp : Sp) (w : World) (h : SpAt w D B sp) (hd : d < 2) (ha : a < 65536) : Calls Tryz.prog 29 #[.pointer (some ⟨D, 0, none⟩), .int .i64 (d : Int), .int .u16 (a : Int)] w fun e w' => e = .returned (.bool (isS sp d a)) ∧ Below w.heap.size w w' := by
  refine is_of _ _ _ _ _ fun w1 hb hw => ?_
  have h1 := h.below hw
  unfold isS
  by_cases h0 : a = 0
  · subst h0
    refine (one_zero (d : Int) D _ w1).mono ?_
    rintro e w' ⟨h1, h2⟩
    subst h2
    cases (sp d)[0 - 1]? <;> exact ⟨_, h1, hb, hw⟩
  · by_cases hl : a ≤ (sp d).length
    · obtain ⟨x, hx⟩ : ∃ x, (sp d)[a - 1]? = some x := ⟨_, List.getElem?_eq_getElem (by omega)⟩
      rw [hx]
      simp only [if_neg h0]
      refine one_in d D a 74 B sp #[.pointer (some ⟨w.heap.size, 0, none⟩)] (fun _ w' => IsPost w x.sick w') w1 h1 hd (by omega) hl cfI ?_
      refine (is_in (B d) (a - 1) w.heap.size (sp d) x false w1 hx (h1.ax d hd) hb).mono ?_
      rintro e w' ⟨h2, h3, h4⟩
      exact ⟨_, h2, h3, hw.trans (h4.below (fun k hk => by omega) (by have := hb.lt; omega))⟩
    · rw [List.getElem?_eq_none (by omega)]
      refine (one_far d D a B sp _ w1 h1 hd ha (by omega)).mono ?_
      rintro e w' ⟨h2, h3⟩
      subst h3
      exact ⟨_, h2, hb, hw⟩
end Go.Proofs.YtmgagalhpkieoaaGreatDoor
/- A plain mirror over any kind of disk and space: looked at, mended, written, flushed; that two kinds which tell the same come to the same. -/
namespace Go.Proofs.YtmgagalhpkieoaaGreatDoor
open Go.RowKit

abbrev Cpy := Nat × Nat
def upk {α : Type} (f : Nat → α) (k : Nat) (v : α) : Nat → α := fun x => if x = k then v else f x
theorem upk_same {α : Type} (f : Nat → α) (k : Nat) (v : α) : upk f k v k = v := by simp [upk]
theorem upk_other {α : Type} (f : Nat → α) {k x : Nat} (v : α) (h : x ≠ k) : upk f k v x = f x := by simp [upk, h]
/-- What a mirror asks of a kind of disk (its errno 0 is OK), and of a kind of space. -/
structure Kin (δ σ : Type) where
  rd : δ → Pw → Nat → Option Bs
  wr : δ → Pw → Nat → Bs → Int × δ × Pw
  fl : δ → Pw → Int × δ × Pw
  dead : δ → Bool
  sick : σ → Nat → Nat → σ
structure Mi (δ σ : Type) where
  d : Nat → δ
  p : Pw
  s : σ
  f : Nat → Nat
  g : Nat → Nat
  mv : List Pt
section
variable {δ σ : Type} (o : Kin δ σ)
/-- A good copy's block. -/
def gd (x : Mi δ σ) (p : Pt) (c : Cpy) : Option Bs := match o.rd (x.d c.1) x.p c.2 with | some b => if fitsP p b then some b else none | none => none
/-- Up to the first that is so. -/
def till (g : Cpy → Bool) : List Cpy → List Cpy
  | [] => []
  | c :: l => if g c then [c] else c :: till g l
/-- Those that are to be mended. -/
def ill (x : Mi δ σ) (p : Pt) (l : List Cpy) : List Cpy := l.filter fun c => !(gd o x p c).isSome && !o.dead (x.d c.1)
def cntC (l : List Cpy) (k : Nat) : Nat := l.countP fun c => c.1 == k
def founds (x : Mi δ σ) (l : List Cpy) : Mi δ σ := { x with f := fun k => x.f k + cntC l k }
def wrote1 (x : Mi δ σ) (b : Bs) (c : Cpy) : Int × Mi δ σ := ((o.wr (x.d c.1) x.p c.2 b).1, { x with d := upk x.d c.1 (o.wr (x.d c.1) x.p c.2 b).2.1, p := (o.wr (x.d c.1) x.p c.2 b).2.2 })
def addMv (l : List Pt) (p : Pt) : List Pt := if l.any (fun q => eqP p q) then l else l ++ [p]
def mend1 (p : Pt) (b : Bs) (x : Mi δ σ) (c : Cpy) : Mi δ σ :=
  if (gd o (wrote1 o x b c).2 p c).isSome then { (wrote1 o x b c).2 with g := upk x.g c.1 (x.g c.1 + 1) }
  else { (wrote1 o x b c).2 with s := o.sick x.s c.1 c.2, mv := addMv x.mv p }
def mends (p : Pt) (b : Bs) (x : Mi δ σ) (l : List Cpy) : Mi δ σ := l.foldl (mend1 o p b) x
def seen (x : Mi δ σ) (p : Pt) (all : Bool) : List Cpy := if all then copiesP p else till (fun c => (gd o x p c).isSome) (copiesP p)
def firstG (x : Mi δ σ) (p : Pt) (l : List Cpy) : Option Bs := l.findSome? (gd o x p)
def endS (x : Mi δ σ) (p : Pt) (l : List Cpy) : Mi δ σ := match firstG o x p l with | some b => mends o p b (founds x (ill o x p l)) (ill o x p l) | none => founds x (ill o x p l)
def healS (x : Mi δ σ) (p : Pt) (all : Bool) : Mi δ σ := if mayP p then endS o x p (seen o x p all) else x
def healB (x : Mi δ σ) (p : Pt) (all : Bool) : Option Bs := if mayP p then firstG o x p (seen o x p all) else none
def healE (x : Mi δ σ) (p : Pt) (all : Bool) : Int := if mayP p then (if (firstG o x p (seen o x p all)).isSome then 0 else 21) else 1
def wrotes (x : Mi δ σ) (b : Bs) : List Cpy → Int × Mi δ σ
  | l => l.foldl (fun r c => (if (wrote1 o r.2 b c).1 = 0 then 0 else r.1, (wrote1 o r.2 b c).2)) (21, x)
def writeR (x : Mi δ σ) (p : Pt) (b : Bs) : Int × Mi δ σ := if mayP p then (if fitsP p b then wrotes o x b (copiesP p) else (1, x)) else (1, x)
def fl1 (x : Mi δ σ) (k : Nat) : Int × Mi δ σ := ((o.fl (x.d k) x.p).1, { x with d := upk x.d k (o.fl (x.d k) x.p).2.1, p := (o.fl (x.d k) x.p).2.2 })
def flushR (x : Mi δ σ) : Int × Mi δ σ := (if (fl1 o x 0).1 = 0 ∨ (fl1 o (fl1 o x 0).2 1).1 = 0 then 0 else 21, (fl1 o (fl1 o x 0).2 1).2)
theorem gd_fits {x : Mi δ σ} {p : Pt} {c : Cpy} {b : Bs} (h : gd o x p c = some b) : fitsP p b = true := by
  unfold gd at h
  cases hr : o.rd (x.d c.1) x.p c.2 with
  | none => rw [hr] at h; simp at h
  | some b' =>
    rw [hr] at h
    by_cases hf : fitsP p b' = true
    · simp [hf] at h; rw [← h]; exact hf
    · simp [hf] at h
end
theorem fits_len {p : Pt} {b : Bs} (h : fitsP p b = true) : b.length = 512 := by
  unfold fitsP at h
  simp at h
  exact h.1
/-- Two kinds that tell the same. -/
structure Alike {δ σ δ' σ' : Type} (o : Kin δ σ) (o' : Kin δ' σ') (R : δ → δ' → Prop) (T : σ → σ' → Prop) : Prop where
  rd : ∀ d e p a, R d e → o.rd d p a = o'.rd e p a
  wr : ∀ d e p a b, R d e → (o.wr d p a b).1 = (o'.wr e p a b).1 ∧ R (o.wr d p a b).2.1 (o'.wr e p a b).2.1 ∧ (o.wr d p a b).2.2 = (o'.wr e p a b).2.2
  fl : ∀ d e p, R d e → (o.fl d p).1 = (o'.fl e p).1 ∧ R (o.fl d p).2.1 (o'.fl e p).2.1 ∧ (o.fl d p).2.2 = (o'.fl e p).2.2
  dead : ∀ d e, R d e → o.dead d = o'.dead e
  sick : ∀ s t k a, k < 2 → 0 < a → T s t → T (o.sick s k a) (o'.sick t k a)
structure MSim {δ σ δ' σ' : Type} (R : δ → δ' → Prop) (T : σ → σ' → Prop) (x : Mi δ σ) (y : Mi δ' σ') : Prop where
  d : ∀ k, k < 2 → R (x.d k) (y.d k)
  p : x.p = y.p
  s : T x.s y.s
  f : x.f = y.f
  g : x.g = y.g
  mv : x.mv = y.mv
section
variable {δ σ δ' σ' : Type} {o : Kin δ σ} {o' : Kin δ' σ'} {R : δ → δ' → Prop} {T : σ → σ' → Prop} {x : Mi δ σ} {y : Mi δ' σ'}
theorem MSim.gd (A : Alike o o' R T) (h : MSim R T x y) (p : Pt) {c : Cpy} (hc : c.1 < 2) : gd o x p c = gd o' y p c := by
  unfold Go.Proofs.YtmgagalhpkieoaaGreatDoor.gd
  rw [A.rd _ _ _ _ (h.d c.1 hc), h.p]
theorem MSim.upd (h : MSim R T x y) {k : Nat} {d : δ} {e : δ'} {p q : Pw} (hd : R d e) (hp : p = q) : MSim R T { x with d := upk x.d k d, p := p } { y with d := upk y.d k e, p := q } := by
  refine ⟨fun i hi => ?_, hp, h.s, h.f, h.g, h.mv⟩
  by_cases e : i = k
  · subst e; simp only [upk_same]; exact hd
  · simp only [upk_other _ _ e]; exact h.d i hi
theorem MSim.wrote1 (A : Alike o o' R T) (h : MSim R T x y) (b : Bs) {c : Cpy} (hc : c.1 < 2) : (wrote1 o x b c).1 = (wrote1 o' y b c).1 ∧ MSim R T (wrote1 o x b c).2 (wrote1 o' y b c).2 := by
  have := A.wr _ _ x.p c.2 b (h.d c.1 hc)
  have hp := h.p
  unfold Go.Proofs.YtmgagalhpkieoaaGreatDoor.wrote1
  rw [← hp]
  exact ⟨this.1, h.upd this.2.1 this.2.2⟩
theorem MSim.mend1 (A : Alike o o' R T) (h : MSim R T x y) (p : Pt) (b : Bs) {c : Cpy} (hc : c.1 < 2) (ha : 0 < c.2) : MSim R T (mend1 o p b x c) (mend1 o' p b y c) := by
  have h1 := (h.wrote1 A b hc).2
  unfold Go.Proofs.YtmgagalhpkieoaaGreatDoor.mend1
  rw [h1.gd A p hc]
  split
  · exact ⟨h1.d, h1.p, h1.s, h1.f, by show upk x.g _ _ = upk y.g _ _; rw [h.g], h1.mv⟩
  · exact ⟨h1.d, h1.p, A.sick _ _ _ _ hc ha h.s, h1.f, h1.g, by show addMv x.mv p = addMv y.mv p; rw [h.mv]⟩
theorem MSim.mends (A : Alike o o' R T) (p : Pt) (b : Bs) : ∀ (l : List Cpy) (x : Mi δ σ) (y : Mi δ' σ'), MSim R T x y → (∀ c ∈ l, c.1 < 2 ∧ 0 < c.2) → MSim R T (mends o p b x l) (mends o' p b y l)
  | [], _, _, h, _ => h
  | c :: l, _, _, h, hl => MSim.mends A p b l _ _ (h.mend1 A p b (hl c (by simp)).1 (hl c (by simp)).2) (fun c hc => hl c (by simp [hc]))
theorem till_mem {g : Cpy → Bool} : ∀ {l : List Cpy} {c : Cpy}, c ∈ till g l → c ∈ l
  | [], _, h => h
  | a :: l, c, h => by
    unfold till at h
    split at h
    · simp at h; simp [h]
    · simp only [List.mem_cons] at h ⊢
      rcases h with h | h
      · exact .inl h
      · exact .inr (till_mem h)
theorem till_congr {g g' : Cpy → Bool} : ∀ {l : List Cpy}, (∀ c ∈ l, g c = g' c) → till g l = till g' l
  | [], _ => rfl
  | a :: l, h => by
    unfold till
    rw [h a (by simp), till_congr (fun c hc => h c (by simp [hc]))]
theorem findSome_congr {α β : Type} {f g : α → Option β} : ∀ {l : List α}, (∀ c ∈ l, f c = g c) → l.findSome? f = l.findSome? g
  | [], _ => rfl
  | a :: l, h => by
    simp only [List.findSome?_cons]
    rw [h a (by simp), findSome_congr (fun c hc => h c (by simp [hc]))]
theorem MSim.seen (A : Alike o o' R T) (h : MSim R T x y) (p : Pt) (hp : ∀ c ∈ copiesP p, c.1 < 2) (all : Bool) : seen o x p all = seen o' y p all := by
  unfold Go.Proofs.YtmgagalhpkieoaaGreatDoor.seen
  rw [till_congr (fun c hc => by rw [h.gd A p (hp c hc)])]
theorem seen_mem {δ σ : Type} {o : Kin δ σ} {x : Mi δ σ} {p : Pt} {all : Bool} {c : Cpy} (h : c ∈ seen o x p all) : c ∈ copiesP p := by
  unfold seen at h
  split at h
  · exact h
  · exact till_mem h
theorem MSim.first (A : Alike o o' R T) (h : MSim R T x y) (p : Pt) (l : List Cpy) (hp : ∀ c ∈ l, c.1 < 2) : firstG o x p l = firstG o' y p l := findSome_congr fun c hc => h.gd A p (hp c hc)
theorem MSim.ill (A : Alike o o' R T) (h : MSim R T x y) (p : Pt) (l : List Cpy) (hp : ∀ c ∈ l, c.1 < 2) : ill o x p l = ill o' y p l := by
  unfold Go.Proofs.YtmgagalhpkieoaaGreatDoor.ill
  refine List.filter_congr fun c hc => ?_
  rw [h.gd A p (hp c hc), A.dead _ _ (h.d c.1 (hp c hc))]
theorem MSim.heal (A : Alike o o' R T) (h : MSim R T x y) (p : Pt) (hp : ∀ c ∈ copiesP p, c.1 < 2 ∧ 0 < c.2) (all : Bool) : healE o x p all = healE o' y p all ∧ healB o x p all = healB o' y p all ∧ MSim R T (healS o x p all) (healS o' y p all) := by
  have hs := h.seen A p (fun c hc => (hp c hc).1) all
  have hm : ∀ c ∈ Go.Proofs.YtmgagalhpkieoaaGreatDoor.seen o' y p all, c.1 < 2 ∧ 0 < c.2 := fun c hc => hp c (seen_mem hc)
  have hf := h.first A p (Go.Proofs.YtmgagalhpkieoaaGreatDoor.seen o' y p all) (fun c hc => (hm c hc).1)
  have hi := h.ill A p (Go.Proofs.YtmgagalhpkieoaaGreatDoor.seen o' y p all) (fun c hc => (hm c hc).1)
  unfold healE healB healS endS
  rw [hs, hf, hi]
  refine ⟨rfl, rfl, ?_⟩
  have hfo : MSim R T (founds x (Go.Proofs.YtmgagalhpkieoaaGreatDoor.ill o' y p (Go.Proofs.YtmgagalhpkieoaaGreatDoor.seen o' y p all))) (founds y (Go.Proofs.YtmgagalhpkieoaaGreatDoor.ill o' y p (Go.Proofs.YtmgagalhpkieoaaGreatDoor.seen o' y p all))) := ⟨h.d, h.p, h.s, by simp only [founds]; rw [h.f], h.g, h.mv⟩
  split
  · split
    · exact MSim.mends A p _ _ _ _ hfo (fun c hc => hm c (List.mem_filter.1 hc).1)
    · exact hfo
  · exact h
theorem MSim.wrotes (A : Alike o o' R T) (b : Bs) : ∀ (l : List Cpy) (e : Int) (x : Mi δ σ) (y : Mi δ' σ'), MSim R T x y → (∀ c ∈ l, c.1 < 2) →
    (l.foldl (fun r c => (if (Go.Proofs.YtmgagalhpkieoaaGreatDoor.wrote1 o r.2 b c).1 = 0 then 0 else r.1, (Go.Proofs.YtmgagalhpkieoaaGreatDoor.wrote1 o r.2 b c).2)) (e, x)).1 = (l.foldl (fun r c => (if (Go.Proofs.YtmgagalhpkieoaaGreatDoor.wrote1 o' r.2 b c).1 = 0 then 0 else r.1, (Go.Proofs.YtmgagalhpkieoaaGreatDoor.wrote1 o' r.2 b c).2)) (e, y)).1 ∧
    MSim R T (l.foldl (fun r c => (if (Go.Proofs.YtmgagalhpkieoaaGreatDoor.wrote1 o r.2 b c).1 = 0 then 0 else r.1, (Go.Proofs.YtmgagalhpkieoaaGreatDoor.wrote1 o r.2 b c).2)) (e, x)).2 (l.foldl (fun r c => (if (Go.Proofs.YtmgagalhpkieoaaGreatDoor.wrote1 o' r.2 b c).1 = 0 then 0 else r.1, (Go.Proofs.YtmgagalhpkieoaaGreatDoor.wrote1 o' r.2 b c).2)) (e, y)).2
  | [], _, _, _, h, _ => ⟨rfl, h⟩
  | c :: l, e, x, y, h, hl => by
    have h1 := h.wrote1 A b (hl c (by simp))
    simp only [List.foldl_cons]
    rw [h1.1]
    exact MSim.wrotes A b l _ _ _ h1.2 (fun c hc => hl c (by simp [hc]))
theorem MSim.write (A : Alike o o' R T) (h : MSim R T x y) (p : Pt) (b : Bs) (hp : ∀ c ∈ copiesP p, c.1 < 2) : (writeR o x p b).1 = (writeR o' y p b).1 ∧ MSim R T (writeR o x p b).2 (writeR o' y p b).2 := by
  unfold writeR
  split
  · split
    · exact MSim.wrotes A b _ _ _ _ h hp
    · exact ⟨rfl, h⟩
  · exact ⟨rfl, h⟩
theorem MSim.fl1 (A : Alike o o' R T) (h : MSim R T x y) {k : Nat} (hk : k < 2) : (fl1 o x k).1 = (fl1 o' y k).1 ∧ MSim R T (fl1 o x k).2 (fl1 o' y k).2 := by
  have := A.fl _ _ x.p (h.d k hk)
  have hp := h.p
  unfold Go.Proofs.YtmgagalhpkieoaaGreatDoor.fl1
  rw [← hp]
  exact ⟨this.1, h.upd this.2.1 this.2.2⟩
theorem MSim.flush (A : Alike o o' R T) (h : MSim R T x y) : (flushR o x).1 = (flushR o' y).1 ∧ MSim R T (flushR o x).2 (flushR o' y).2 := by
  have h0 := h.fl1 A (k := 0) (by omega)
  have h1 := h0.2.fl1 A (k := 1) (by omega)
  unfold flushR
  rw [h0.1, h1.1]
  exact ⟨rfl, h1.2⟩
end
end Go.Proofs.YtmgagalhpkieoaaGreatDoor
/- Alloc. -/
namespace Go.Proofs.YtmgagalhpkieoaaGreatDoor
open Go.RowKit

def free? (a : Ax) : Bool := !a.sick && a.is == 0
end Go.Proofs.YtmgagalhpkieoaaGreatDoor
/- Count. -/
namespace Go.Proofs.YtmgagalhpkieoaaGreatDoor
open Go.RowKit

/-- How many are so. -/
def cnt (p : Ax → Bool) : List Ax → Nat
  | [] => 0
  | a :: l => (if p a then 1 else 0) + cnt p l
theorem cnt_le (p : Ax → Bool) : ∀ l : List Ax, cnt p l ≤ l.length
  | [] => by simp [cnt]
  | a :: l => by have := cnt_le p l; simp only [cnt, List.length_cons]; split <;> omega
theorem cnt_set (p : Ax → Bool) : ∀ (l : List Ax) (i : Nat) (a b : Ax), l[i]? = some a → cnt p (l.set i b) + (if p a then 1 else 0) = cnt p l + if p b then 1 else 0
  | [], _, _, _, h => by simp at h
  | c :: l, 0, a, b, h => by simp at h; subst h; simp [cnt]; omega
  | c :: l, i + 1, a, b, h => by
    have := cnt_set p l i a b (by simpa using h)
    simp only [List.set_cons_succ, cnt]
    omega
def isB (k : Nat) (a : Ax) : Bool := a.is == k
def sickB (a : Ax) : Bool := a.sick
end Go.Proofs.YtmgagalhpkieoaaGreatDoor
