/- Nodes: Put. -/
import Derived.Test.YtjgjohdeeeoeoaaGreatDoorM09
import Derived.Test.YtjgjohdeeeoeoaaGreatDoorM01
set_option linter.all false
namespace Go.Proofs.YtjgjohdeeeoeoaaGreatDoor
open Go.RowKit
variable {l rest : Bs} {ns : List Pt} {cs : List Value} {G H e ee g k : Nat} {F K : Nat → Prop} {p : Pt} {t : TypeId} {W a b c w : World}
def co (ns : List Pt) : Bs := ns.flatMap g8
def j6 (p : Pt) : Bool := eqP p zeroP || fz p
def jy (ns : List Pt) : Bool := ns.all j6
theorem jf : ∀ {ns : List Pt}, (∀ p ∈ ns, p.OK) → (co ns).length = 64 * ns.length
 | [], _ => rfl
 | p :: ns, h => by
  have ih := jf (ns := ns) (fun q hq => h q (by simp [hq]));have h1 := i4 (h p (by simp));simp only [co, List.flatMap_cons, List.length_append, List.length_cons] at *;omega
theorem j7 {α : Type} {l : List α} {x : α} (h : l[k]? = some x) : l.take (k + 1) = l.take k ++ [x] := by
 obtain ⟨hk, e⟩ := List.getElem?_eq_some_iff.1 h;rw [List.take_succ_eq_append_getElem hk, e]
theorem Ig (h : ns[k]? = some p) : co (ns.take (k + 1)) = co (ns.take k) ++ g8 p := by
 rw [j7 h]; simp [co]
theorem A9 (h : ns[k]? = some p) : jy (ns.take (k + 1)) = (jy (ns.take k) && j6 p) := by
 rw [j7 h]; simp [jy]
theorem Uk (h : ns[k]? = some p) (hf : j6 p = false) : jy ns = false := by
 unfold jy;rw [List.all_eq_false];exact ⟨p, List.mem_of_getElem? h, by simp [hf]⟩
theorem Bk (h : NOK ns) (hk : k ≤ 8) : (co (ns.take k)).length = 64 * k := by
 rw [jf (fun p hp => h.ok p (List.mem_of_mem_take hp)), List.length_take, h.len, Nat.min_eq_left hk]
def pv (ns : List Pt) (w : World) (x : Ending) (w' : World) : Prop :=
 ((jy ns = true ∧ ∃ v, x = .returned (.tuple #[v, .int .i64 0]) ∧ OwnB w' w.heap.size v (co ns)) ∨ (jy ns = false ∧ x = .returned (.tuple #[.slice none 0 0, .int .i64 5]))) ∧ Below w.heap.size w w'
def Jt (ns : List Pt) (w : World) (v i : Value) (wr : World) : Prop := ∃ k : Nat, k ≤ 8 ∧ i = .int .i64 (k : Int) ∧ jy (ns.take k) = true ∧ OwnB wr w.heap.size v (co (ns.take k)) ∧ Below w.heap.size w wr
theorem Pg (w : World) (B : Nat) : OwnB w B (.slice none 0 0) [] := ⟨by simp, .inl ⟨rfl, rfl⟩⟩
set_option maxRecDepth 100000 in
set_option maxHeartbeats 8000000 in
theorem F7 (ns : List Pt) (h : NOK ns) (w : World) (hT : RTab w) : Calls Tryz.prog 120 #[.agg (ah ns).toArray] w (pv ns w) := by
 have HP := zH h;have HT := zH hT;have HB := zH (Blk.new w (ah ns) 170);have HW : Hid (Below w.heap.size w (w.alloc (.cells (ah ns).toArray 170))) := zH ((Below.refl _ _).alloc (Nat.le_refl _) _);have a2 : Hid (∀ x w', pv ns w x w' → pv ns w x w') := zH fun _ _ h => h
 generalize hPost : pv ns w = Post;have HQ : Hid (∀ x w', pv ns w x w' → Post x w') := zH fun x w' h => by rw [← hPost]; exact h
 clear h hT hPost a2;go_enter Tryz.func120, Tryz.ntmps120
 go_wp2_with (first | (refine a9 rfl (gx HP.out HB.out rfl rfl) ?_) | fail)
 have HR : Hid (Jt ns w (.slice none 0 0) (.int .i64 0) (w.alloc (.cells (ah ns).toArray 170))) := zH ⟨0, by omega, rfl, rfl, Pg _ _, HW.out⟩;clear HB HW;go_loopw [4, 8] (fun v i wr => Jt ns w v i wr) (fun _ i _ => 8 - (intOf i).toNat)
 case atStart => exact HR.out
 case round =>
  clear HR;obtain ⟨k, hk, rfl, au, hO, hB⟩ := hrel;obtain ⟨av, a4, e, q1, q2, q3, q4, q5⟩ := OwnB.form hO;rw [Bk HP.out hk] at e;subst e;have HB := zH hB;have HO := zH hO;have ab := zH au;have an := zH q3;have ap := zH q4;clear hB hO au q1 q2 q3 q4 q5;have b3 := IntWalk.i64_in ((k : Int) + 1) (by omega);by_cases hlt : k < 8
  ·obtain ⟨p, hp⟩ := HP.out.get hlt
   have b2 : ∀ W : World, (Instr.index 170 (.agg (ah ns).toArray) (.int .i64 (k : Int))).run Tryz.prog W = .ok (.agg (a8 p).toArray) W := fun W => Di Tryz.underlying170 HP.out hp W
   have a0 := zH (HP.out.at hp);have b0 := zH (bh a0.out);have ay : Hid ((a8 p).toArray.size = 41) := zH (by rw [List.size_toArray, aa a0.out]);have a7 := zH hp;clear hp
   go_upto_region 5 with (first | (refine wpList_store_row rfl 28 (.tmp 6) (.tmp 10) rfl wr.heap.size (a8 p).toArray rfl rfl 28 _ (heap_alloc_new wr _) b0.out (by rw [ay.out]; rfl) (bb p) ?_) | fail)
   refine (fun (k : ∀ W, Blk W wr.heap.size (a8 p) 28 → Below wr.heap.size wr W → Code.wp _ _ _ _ W) => k _ (ar wr _ (a8 p) 28).1 (ar wr _ (a8 p) 28).2) ?_;intro W5 hx5 hb5;have ad := zH hx5;have ae := zH hb5;have ao := zH (Bk HP.out hk)
   have am : Hid (∀ W, Below wr.heap.size wr W → Calls Tryz.prog 24 #[.slice av (64 * k : Nat) a4, .agg (a8 p).toArray] W fun e w' => ∃ v, e = .returned v ∧ OwnB w' w.heap.size v (co (ns.take (k + 1))) ∧ Below w.heap.size w w') := zH fun W hb => by
    have h1 := A7 p a0.out (co (ns.take k)) av a4 W (by rw [ao.out]; omega) (an.out.below hb (Nat.le_refl _)) ap.out;rw [ao.out, ← Ig a7.out] at h1;have ai := HB.out.trans (hb.mono HB.out.size);exact h1.mono fun e w' ⟨v, e1, e2, e3⟩ => ⟨v, e1, e2.mono ai.size, ai.trans (e3.mono ai.size)⟩
   clear hx5 hb5
   go_wp2_with (first | (refine aq (by rfl) (ax a0.out ad.out rfl rfl) ?_) | fail)
   refine (Sy p a0.out W5).mono ?_;rintro e w6 ⟨rfl, aj⟩;have a3 := zH (ad.out.below aj ad.out.lt);have a1 := zH (ae.out.trans (aj.mono ae.out.size));clear aj ad ae;cases hz : eqP p zeroP
   ·have HF : Hid (j6 p = fz p) := zH (by unfold j6; rw [hz]; rfl)
    clear hz
    go_wp2_with (first | (refine aq (by rfl) (ax a0.out a3.out rfl rfl) ?_) | fail)
    refine (sf p a0.out w6 (HT.out.grown (HB.out.trans (a1.out.mono HB.out.size)))).mono ?_;rintro e w7 ⟨rfl, ak⟩;have b1 := zH (a3.out.below ak a3.out.lt);have al := zH (a1.out.trans (ak.mono a1.out.size));clear ak a3 a1;cases hm : fz p
    ·rw [hm] at HF
     clear hm;have az := zH (Uk a7.out HF.out);have aw := zH (HB.out.trans (al.out.mono HB.out.size))
     go_wp2_with fail
     exact HQ.out _ _ ⟨.inr ⟨az.out, rfl⟩, aw.out⟩
    ·rw [hm] at HF
     clear hm
     go_wp2_with (first | (refine a9 rfl (ax a0.out b1.out rfl rfl) ?_) | fail)
     refine (am.out w7 al.out).mono ?_;rintro e w8 ⟨v8, rfl, a6, a5⟩;have ag := zH a6;have af := zH a5;clear a6 a5
     go_wp2_with fail
     go_roundw
     case rel => exact ⟨k + 1, by omega, by go_num, by rw [A9 a7.out, ab.out, HF.out]; rfl, ag.out, af.out⟩
     case measure => simp [intOf]; omega
   ·have HF : Hid (j6 p = true) := zH (by unfold j6; rw [hz]; rfl)
    clear hz
    go_wp2_with (first | (refine a9 rfl (ax a0.out a3.out rfl rfl) ?_) | fail)
    refine (am.out w6 a1.out).mono ?_;rintro e w8 ⟨v8, rfl, a6, a5⟩;have ag := zH a6;have af := zH a5;clear a6 a5
    go_wp2_with fail
    go_roundw
    case rel => exact ⟨k + 1, by omega, by go_num, by rw [A9 a7.out, ab.out, HF.out]; rfl, ag.out, af.out⟩
    case measure => simp [intOf]; omega
  ·obtain rfl : k = 8 := by omega
   rw [List.take_of_length_le (by rw [HP.out.len]; omega)] at HO ab;rw [show ((8 : Nat) : Int) = (8 : Int) from rfl];clear an ap hlt hk
   go_wp2_with fail
   exact HQ.out _ _ ⟨.inl ⟨ab.out, _, rfl, HO.out⟩, HB.out⟩
def stE (l : Bs) : Nat → Nat
 | 0 => 0
 | k + 1 => cj (l.drop (64 * k)) (stE l k)
theorem Al (h : e ≠ 0) : cj l e = e := by unfold cj; rw [if_pos h]
theorem Vd (he : ee = stE l k) (hr : ee = 0 → rest = l.drop (64 * k)) : cj rest ee = stE l (k + 1) := by
 show _ = cj _ _;rw [← he];by_cases h : ee = 0
 ·rw [hr h]
 ·rw [Al h, Al h]
theorem J6 (h : cj l e = 0) : e = 0 := (Am h).1
def t8 (l : Bs) : List Pt := (List.range 8).map fun j => pt (l.drop (64 * j))
structure TiPost (l : Bs) (e H : Nat) (K : Nat → Prop) (w : World) (x : Ending) (w' : World) : Prop where
 val : x = .returned (.agg (a8 (dx l e)).toArray)
 rd : ∃ rest, RdAt w' H K rest (cj l e) ∧ (cj l e = 0 → rest = l.drop 64) ∧ rest.length ≤ l.length
 bf : ButFor H w w'
set_option maxRecDepth 100000 in
set_option maxHeartbeats 4000000 in
theorem J7 (l : Bs) (e H G : Nat) (w : World) (hG : Blk w G [.pointer (some ⟨H, 0, none⟩)] 79) (hR : RdAt w H K l e) (hK : ∀ g, K g → g < w.heap.size) (hl : l.length ≤ 100000) (hT : RTab w) (hg : 0 ≠ H) :
  Calls Tryz.prog 129 #[.pointer (some ⟨G, 0, none⟩)] w (TiPost l e H K w) := by
 have HB := zH (hG.alloc (.cells (a8 zeroP).toArray 28));have cG := HB.out.cell (j := 0) rfl;have HC := zH (xz l e H (w.alloc (.cells (a8 zeroP).toArray 28)) (hR.below ((Below.refl _ _).alloc (Nat.le_refl _) _) (Nat.le_refl _)) (fun g h => Nat.lt_of_lt_of_le (hK g h) (by simp)) hl (hT.alloc _) hg);have HN := zH (Blk.new w (a8 zeroP) 28);have HH := zH hR.lt;have a5 := zH (o4 l e);have a4 := zH (bh a5.out);have a7 : Hid ((a8 zeroP).toArray.size = (a8 (dx l e)).toArray.size) := zH (by rw [List.size_toArray, List.size_toArray, aa a5.out, aa ak]);have HQ : Hid (∀ W : World, RdAt W H K l e ∨ True → True) := zH fun _ _ => trivial
 have a2 : Hid (∀ x w' a0, x = Ending.returned (.agg (a8 (dx l e)).toArray) → RdAt w' H K a0 (cj l e) → (cj l e = 0 → a0 = l.drop 64) → a0.length ≤ l.length → ButFor H w w' → TiPost l e H K w x w') := zH fun x w' a0 h1 h2 h3 h4 h5 => ⟨h1, ⟨a0, h2, h3, h4⟩, h5⟩
 generalize hPost : TiPost l e H K w = Post at a2 ⊢;obtain ⟨tp, ae⟩ : ∃ tp, dx l e = tp := ⟨_, rfl⟩;rw [ae] at HC a5 a4 a7 a2;have ah := zH hK;clear hG hR hK hl hT hg hPost ae HQ;go_enter Tryz.func129, Tryz.ntmps129
 go_upto_region 1 with fail
 refine (fun (k : ∀ W, W = w.alloc (.cells (a8 zeroP).toArray 28) → Code.wp _ _ _ _ W) => k _ rfl) ?_;intro W eW;rw [← eW] at HC HN cG;have ag : Hid (∀ W', ButFor H W W' → ButFor H w W') := zH fun W' h => (show ButFor H w W by rw [eW]; exact (ButFor.refl _ _).alloc _).trans h
 clear HB eW
 go_wp2_with fail
 refine HC.out.mono ?_;rintro e2 W2 ⟨rfl, ⟨a0, a9, ad, ab⟩, a6⟩;have a3 := zH (a6.blk HN.out (by have := HH.out; omega));have ai := zH a9; have al := zH ad; have aj := zH ab; have af := zH a6;clear a9 ad ab a6 HN HC
 go_wp2_with (first | (refine wpList_store_row rfl 28 (.tmp 1) (.tmp 3) rfl w.heap.size (a8 tp).toArray rfl rfl 28 _ a3.out a4.out a7.out (bb tp) ?_) | fail)
 have a1 := zH (TkR.result (w := w) (H := H) (K := K) ⟨a3.out, ai.out, ag.out _ af.out, HH.out, ah.out⟩ (a8 tp).toArray);exact bodyPost_ret (results_cell_row Tryz.results129 _ _ w.heap.size 28 _ _ _ rfl (a3.out.row _) Tryz.underlying28 rfl a4.out) rfl (a2.out _ _ a0 rfl a1.out.1 al.out aj.out a1.out.2)
structure FiW (l : Bs) (w : World) (H : Nat) (K : Nat → Prop) (G : Nat) (k : Nat) (W : World) : Prop where
 ok : ∃ ns rest ee, NOK ns ∧ Blk W (w.heap.size + 1) (ah ns) 170 ∧ RdAt W H K rest ee ∧ ee = stE l k ∧ (ee = 0 → rest = l.drop (64 * k) ∧ ∀ j, j < k → ns[j]? = some (pt (l.drop (64 * j)))) ∧ rest.length ≤ l.length
 res : Blk W w.heap.size (ah holes) 170
 box : Blk W G [.pointer (some ⟨H, 0, none⟩)] 79
 bf : ButFor H w W
 hH : H < w.heap.size
 hG : G < w.heap.size ∧ G ≠ H
 hK : ∀ g, K g → g < w.heap.size
structure FiPost (l : Bs) (H : Nat) (K : Nat → Prop) (w : World) (x : Ending) (w' : World) : Prop where
 ok : ∃ ns rest ee, x = .returned (.agg (ah ns).toArray) ∧ NOK ns ∧ RdAt w' H K rest ee ∧ ee = stE l 8 ∧ (ee = 0 → rest = l.drop 512 ∧ ns = t8 l)
 bf : ButFor H w w'
theorem Mu (hR : RdAt w H K l 0) (hB : Blk w G [.pointer (some ⟨H, 0, none⟩)] 79) (hGH : G ≠ H) (hK : ∀ g, K g → g < w.heap.size) (z : Array Value) (hz : z = (ah holes).toArray) : FiW l w H K G 0 ((w.alloc (.cells z 170)).alloc (.cells z 170)) := by
 subst hz;have hb : Below w.heap.size w ((w.alloc (.cells (ah holes).toArray 170)).alloc (.cells (ah holes).toArray 170)) := ((Below.refl _ _).alloc (Nat.le_refl _) _).alloc (by simp) _;exact ⟨⟨holes, l, 0, holes_ok, Blk.new' _ _ _ _ _ (by simp) rfl, hR.below hb (Nat.le_refl _), rfl, fun _ => ⟨rfl, fun j hj => by omega⟩, Nat.le_refl _⟩, (Blk.new _ _ _).alloc _, hB.below hb hB.lt, ButFor.of_below hb, hR.lt, ⟨hB.lt, hGH⟩, hK⟩
theorem Hs {α : Type} {l : List α} {f : Nat → α} (hk : k < l.length) (h : ∀ i, i < k → l[i]? = some (f i)) : ∀ j, j < k + 1 → (l.set k (f k))[j]? = some (f j) := fun j hj => by
 by_cases e : k = j
 ·subst e; rw [List.getElem?_set_self hk]
 ·rw [List.getElem?_set_ne e]; exact h j (by omega)
theorem Gc (h : cj l 0 = 0) : dx l 0 = pt l := by unfold dx; rw [if_pos h]
theorem FiW.next {W' : World} {rest' : Bs} (h : FiW l w H K G k W) (hk : k < 8) (hn : NOK ns) (hb : Blk W' (w.heap.size + 1) (ah ns) 170) (hee : ee = stE l k) (hr : ee = 0 → rest = l.drop (64 * k) ∧ ∀ j, j < k → ns[j]? = some (pt (l.drop (64 * j)))) (hrl : rest.length ≤ l.length)
  (hrd : RdAt W' H K rest' (cj rest ee)) (hr' : cj rest ee = 0 → rest' = rest.drop 64) (hrl' : rest'.length ≤ rest.length) (hbf : ButFor H W W') : FiW l w H K G (k + 1) (W'.setCells (w.heap.size + 1) (k * 41) (a8 (dx rest ee))) := by
 have a1 := o4 rest ee;have a0 : Below (w.heap.size + 1) W' (W'.setCells (w.heap.size + 1) (k * 41) (a8 (dx rest ee))) := z8 _ _ _ (Below.refl _ _) (Nat.le_refl _);have a2 := h.bf.size;have hH := h.hH;have hG := h.hG;refine ⟨⟨ns.set k (dx rest ee), rest', cj rest ee, hn.set k a1, E4 hn hb hk (Nat.mul_comm k 41) a1, ?_, Vd hee (fun h0 => (hr h0).1), fun h0 => ?_, Nat.le_trans hrl' hrl⟩, (hbf.blk h.res (by omega)).below a0 (by omega), (hbf.blk h.box hG.2).below a0 (by omega), ⟨a0.os.trans (h.bf.trans hbf).os, a0.tape.trans (h.bf.trans hbf).tape, a0.output.trans (h.bf.trans hbf).output, ?_, ?_⟩, hH, hG, h.hK⟩
 ·exact hrd.other (J := w.heap.size + 1) (ButFor.sets _ _ _ (ButFor.refl _ _)) (by omega) (fun hk => by have := h.hK _ hk; omega)
 ·have e0 := J6 h0
  obtain ⟨r1, r2⟩ := hr e0;subst e0;refine ⟨by rw [hr' h0, r1, List.drop_drop]; congr 1, ?_⟩;rw [Gc h0, r1];exact Hs (f := fun j => pt (l.drop (64 * j))) (by rw [hn.len]; exact hk) r2
 ·exact Nat.le_trans (h.bf.trans hbf).size a0.size
 ·intro i hi hn
  rw [a0.block i (by omega)];exact (h.bf.trans hbf).block i hi hn
theorem FiW.done {w W : World} {H G : Nat} {K : Nat → Prop} (hn : NOK ns) (hr : ee = 0 → rest = l.drop (64 * 8) ∧ ∀ j, j < 8 → ns[j]? = some (pt (l.drop (64 * j)))) : ee = 0 → rest = l.drop 512 ∧ ns = t8 l := fun h0 => by
 obtain ⟨r1, r2⟩ := hr h0;refine ⟨r1, List.ext_getElem? fun j => ?_⟩;by_cases hj : j < 8
 ·rw [r2 j hj]; simp [t8, hj]
 ·rw [List.getElem?_eq_none (by rw [hn.len]; omega), List.getElem?_eq_none (by simp [t8]; omega)]
theorem FiW.result (h : FiW l w H K G k W) (hrd : RdAt W H K rest ee) (cs : Array Value) : RdAt (W.setRow w.heap.size cs) H K rest ee ∧ ButFor H w (W.setRow w.heap.size cs) := by
 have h1 := h.hH;refine ⟨hrd.other (J := w.heap.size) (te cs) (by omega) (fun hk => by have := h.hK _ hk; omega), ?_⟩;exact ⟨h.bf.os, h.bf.tape, h.bf.output, by simpa using h.bf.size, fun k hk hn => (setRow_other W w.heap.size k cs (by omega)).trans (h.bf.block k hk hn)⟩
def Zn (l : Bs) (w : World) (H : Nat) (K : Nat → Prop) (G : Nat) (i : Value) (wr : World) : Prop := ∃ k : Nat, k ≤ 8 ∧ i = .int .i64 (k : Int) ∧ FiW l w H K G k wr
set_option maxRecDepth 100000 in
set_option maxHeartbeats 8000000 in
theorem F6 (l : Bs) (H G : Nat) (w : World) (hG : Blk w G [.pointer (some ⟨H, 0, none⟩)] 79) (hGH : G ≠ H) (hR : RdAt w H K l 0) (hK : ∀ g, K g → g < w.heap.size) (hl : l.length ≤ 100000) (hT : RTab w) (hg : 0 ≠ H) :
  Calls Tryz.prog 128 #[.func (.func 129) #[] #[.pointer (some ⟨G, 0, none⟩)]] w (FiPost l H K w) := by
 have HL := zH hl;have HT := zH hT;have a6 := zH hg;have HW := zH (Mu hR hG hGH hK);have am : Hid (∀ x w', FiPost l H K w x w' → FiPost l H K w x w') := zH fun _ _ h => h
 generalize hPost : FiPost l H K w = Post;have HQ : Hid (∀ x w', FiPost l H K w x w' → Post x w') := zH fun x w' h => by rw [← hPost]; exact h
 clear hG hGH hR hK hl hT hg hPost am;go_enter Tryz.func128, Tryz.ntmps128
 go_upto_region 2 with fail
 refine (fun (k : ∀ W, FiW l w H K G 0 W → Code.wp _ _ _ _ W) => k _ (HW.out _ rfl)) ?_;intro W0 hW0;have HR : Hid (Zn l w H K G (.int .i64 0) W0) := zH ⟨0, by omega, rfl, hW0⟩;clear hW0 HW
 go_wp2_with fail
 go_loopw [5] (fun i wr => Zn l w H K G i wr) (fun i _ => 8 - (intOf i).toNat)
 case atStart => exact HR.out
 case round =>
  clear HR;obtain ⟨k, hk, rfl, hW⟩ := hrel;have HW := zH hW;obtain ⟨ns, a0, ee, hn, hb, aj, ai, hr, ak⟩ := hW.ok;have HN := zH hn; have a5 := zH hb; have ab := zH aj; have HE := zH ai; have HR := zH hr; have ad := zH ak;clear hW hn hb aj ai hr ak;have aw := IntWalk.i64_in ((k : Int) + 1) (by omega);by_cases hlt : k < 8
  ·have af := zH (J7 a0 ee H G wr HW.out.box ab.out (fun g h => Nat.lt_of_lt_of_le (HW.out.hK g h) HW.out.bf.size) (Nat.le_trans ad.out HL.out) (HT.out.of_heap (HW.out.bf.block _ HT.out.lt a6.out)) a6.out)
   obtain ⟨tp, a4⟩ : ∃ tp, dx a0 ee = tp := ⟨_, rfl⟩;have av := zH a4;have ag : Hid tp.OK := zH (by rw [← a4]; exact o4 _ _);have aq := zH (bh ag.out);have an := zH (aa ag.out);clear a4
   go_wp2_with fail
   refine af.out.mono ?_;intro e W2 hti;obtain ⟨rfl, ⟨al, r1, r2, r3⟩, r4⟩ := hti;have a2 := r4.blk a5.out (by have := HW.out.hH; omega);have au : Hid (W2.there (w.heap.size + 1) (k * 41) (a8 tp).toArray.size) := zH (a2.there _ _ (by rw [List.size_toArray, an.out, HN.out.cells]; omega));have a3 := HW.out.next hlt HN.out a2 HE.out HR.out ad.out r1 r2 r3 r4;rw [av.out] at a3 ⊢;have ao := zH a3;clear a2 a3 r1 r2 r3 r4 af
   go_wp2_with (first | (refine wpList_store_mid rfl 28 (.tmp 11) (.tmp 10) rfl (w.heap.size + 1) (k * 41) (a8 tp).toArray rfl rfl au.out aq.out (bb tp) ?_) | fail)
   go_roundw
   case rel => exact ⟨k + 1, by omega, by go_num, ao.out⟩
   case measure => simp [intOf]; omega
  ·obtain rfl : k = 8 := by omega
   have HD := zH (FiW.done (l := l) (w := w) (W := wr) (H := H) (G := G) (K := K) HN.out HR.out);have ae := zH (mg HN.out);have ar : Hid ((ah holes).toArray.size = (ah ns).toArray.size) := zH (by rw [holes_ok.size, HN.out.size]);have ap := zH (gz HN.out.ok);have a1 := zH (HW.out.result ab.out (ah ns).toArray);rw [show ((8 : Nat) : Int) = (8 : Int) from rfl];have a7 := zH HW.out.res;clear hlt hk
   go_wp2_with (first | (refine a9 rfl (gx HN.out a5.out rfl rfl) ?_) | (refine wpList_store_row rfl 170 (.tmp 2) (.tmp 13) rfl w.heap.size (ah ns).toArray rfl rfl 170 _ a7.out ae.out ar.out ap.out ?_) | fail)
   exact bodyPost_ret (results_cell_row Tryz.results128 _ _ w.heap.size 170 _ _ _ rfl (a7.out.row _) Tryz.underlying170 rfl ae.out) rfl (HQ.out _ _ ⟨⟨ns, a0, ee, rfl, HN.out, a1.out.1, HE.out, HD.out⟩, a1.out.2⟩)
theorem oy {fn : Func} {p u : Tmp} {ty n : Nat} (h : fn.results = #[.cell p ty, .tmp u]) (tmps : Array Value) (w : World) (g t : Nat) (cs : List Value)
  (hp : tmps.getD p undef = .pointer (some ⟨g, 0, none⟩)) (hg : Blk w g cs t) (hu : Tryz.prog.underlying ty = some (.array n e)) (hi : (Tryz.prog.info? ty).map (·.size) = some cs.length) :
  (results fn tmps).run Tryz.prog w = .ok (.tuple #[.agg cs.toArray, tmps.getD u undef]) w := by
 rw [results_cell_tmp h, hp];simp only [asAddr, Sem.run_pure, Result.andThen_ok, run_loadVar_row w g t ty cs.toArray (0, 0) _ hg hu rfl (by simpa using hi)]
def kb (l : Bs) : Nat := if l.length = 512 then stE l 8 else 5
def ke (l : Bs) : List Pt := if kb l = 0 then t8 l else holes
theorem Ih (h : kb l = 0) : l.length = 512 := by
 unfold kb at h;split at h
 ·assumption
 ·cases h
theorem Tu (h : l.length = 512) : NOK (t8 l) := ⟨by simp [t8], fun p hp => by
 simp only [t8, List.mem_map, List.mem_range] at hp;obtain ⟨j, hj, rfl⟩ := hp
 exact Uf (by rw [List.length_drop, h]; omega)⟩
theorem F8 (l : Bs) : NOK (ke l) := by
 unfold ke;split
 ·rename_i h; exact Tu (Ih h)
 ·exact holes_ok
def kt (l : Bs) (w : World) (x : Ending) (w' : World) : Prop := x = .returned (.tuple #[.agg (ah (ke l)).toArray, .int .i64 (kb l : Int)]) ∧ Below w.heap.size w w'
theorem lw (h : NOK ns) : (Tryz.prog.info? 170).map (·.size) = some (ah ns).length := by rw [h.cells]; exact Do
set_option maxRecDepth 100000 in
set_option maxHeartbeats 8000000 in
theorem D9 (l : Bs) (sp : Option Addr) (cap : Nat) (w : World) (hl : l.length ≠ 512) : Calls Tryz.prog 117 #[.slice sp l.length cap] w (kt l w) := by
 have he : kb l = 5 := by unfold kb; rw [if_neg hl]
 have ht : ke l = holes := by unfold ke; rw [he]; rfl
 unfold kt;rw [he, ht];obtain ⟨L, hL⟩ : ∃ L, l.length = L := ⟨_, rfl⟩;rw [hL] at hl ⊢;have a4 : ¬ (L : Int) = 512 := by omega
 have a2 := zH (mg holes_ok);have a1 := zH (gz holes_ok.ok);have HB := zH (Blk.new w (ah holes) 170);have HW : Hid (Below w.heap.size w (w.alloc (.cells (ah holes).toArray 170))) := zH ((Below.refl _ _).alloc (Nat.le_refl _) _);clear hL hl he ht;go_enter Tryz.func117, Tryz.ntmps117
 go_upto_region 1 with fail
 refine (fun (k : ∀ W, Blk W w.heap.size (ah holes) 170 → Below w.heap.size w W → Code.wp _ _ _ _ W) => k _ HB.out HW.out) ?_;intro W hb hw;have a0 := zH hb; have a3 := zH hw;clear hb hw HB HW
 go_wp2_with (first | (refine a9 rfl (rl rfl) ?_) | (refine wpList_store_row rfl 170 (.tmp 2) (.tmp 10) rfl w.heap.size (ah holes).toArray rfl rfl 170 _ a0.out a2.out rfl a1.out ?_) | fail)
 exact bodyPost_ret (oy Tryz.results117 _ _ w.heap.size 170 _ rfl (a0.out.row _) Tryz.underlying170 (lw holes_ok)) rfl ⟨rfl, cz a3.out (Nat.le_refl _) _⟩
theorem Mp (hl : l.length = 512) (he : ee = stE l 8) (hr : ee = 0 → rest = l.drop 512) : qe rest ee = kb l := by
 unfold qe li kb;rw [if_pos hl, ← he];by_cases h : ee = 0
 ·rw [if_pos h, hr h]
  simp [hl, h]
 ·rw [if_neg h]; rfl
structure TkN (l : Bs) (w : World) (H G : Nat) (W : World) : Prop where
 res : Blk W w.heap.size (ah holes) 170
 box : Blk W G [.pointer (some ⟨H, 0, none⟩)] 79
 bel : Below w.heap.size w W
 hH : w.heap.size + 1 ≤ H ∧ H < W.heap.size ∧ H < G
set_option maxRecDepth 100000 in
set_option maxHeartbeats 8000000 in
theorem D7 (l : Bs) (sp : Option Addr) (cap : Nat) (w : World) (hl : l.length = 512) (hz : sp = none → cap = 0) (hc : l.length ≤ cap) (hS : SrcA w sp l) (hT : RTab w) : Calls Tryz.prog 117 #[.slice sp 512 cap] w (kt l w) := by
 have HL := zH hl;have HT := zH hT;have HB : Hid (Blk (w.alloc (.cells (ah holes).toArray 170)) w.heap.size (ah holes) 170) := zH (Blk.new _ _ _);have HW : Hid (Below w.heap.size w (w.alloc (.cells (ah holes).toArray 170))) := zH ((Below.refl _ _).alloc (Nat.le_refl _) _)
 have ao : Hid (∀ W, Below w.heap.size w W → Calls Tryz.prog 26 #[.slice sp 512 cap] W (Qr l W)) := zH fun W hb => by
  have h1 := Ln l sp cap W (by omega) hz hc (hS.grown hb);rw [hl] at h1;exact h1
 have a6 : Hid ((w.alloc (.cells (ah holes).toArray 170)).heap.size = w.heap.size + 1) := zH (by simp);generalize hPost : kt l w = Post;have HQ : Hid (∀ x w', kt l w x w' → Post x w') := zH fun x w' h => by rw [← hPost]; exact h
 clear hl hz hc hS hT hPost;go_enter Tryz.func117, Tryz.ntmps117
 go_upto_region 1 with fail
 refine (fun (k : ∀ W, Blk W w.heap.size (ah holes) 170 → Below w.heap.size w W → W.heap.size = w.heap.size + 1 → Code.wp _ _ _ _ W) => k _ HB.out HW.out a6.out) ?_;intro W0 hb hw hs;have al := zH hb; have ae := zH hw; have ad := zH hs;clear hb hw hs HB HW a6
 go_wp2_with fail
 refine (ao.out W0 ae.out).mono ?_;rintro e1 W1 ⟨H, rfl, ax, hH, av⟩;have ai := zH ax; have HH := zH hH; have aa := zH av;clear ax hH av ao
 go_upto_region 4 with fail
 refine (fun (k : ∀ W, TkN l w H W1.heap.size W → RdAt W H (fun g => W0.heap.size ≤ g ∧ g < H) l 0 → Code.wp _ _ _ _ W) => k _ ⟨(al.out.below aa.out (by rw [ad.out]; omega)).alloc _, Blk.new _ _ _, (ae.out.trans (aa.out.mono (by rw [ad.out]; omega))).alloc (ae.out.trans (aa.out.mono (by rw [ad.out]; omega))).size _, by have := HH.out; have := ad.out; have := ai.out.lt; simp; omega⟩ (ai.out.below ((Below.refl _ _).alloc (Nat.le_refl _) _) (Nat.le_refl _))) ?_;intro W2 hx hrd2;have HX := zH hx; have b1 := zH hrd2;have HF := zH (F6 l H W1.heap.size (K := fun g => W0.heap.size ≤ g ∧ g < H) W2 hx.box (by have := hx.hH; omega) hrd2 (fun g h => Nat.lt_trans h.2 hrd2.lt) (by rw [HL.out]; omega) (HT.out.grown hx.bel) (by have := HT.out.lt; have := hx.hH; omega));obtain ⟨G, hG⟩ : ∃ G, W1.heap.size = G := ⟨_, rfl⟩;rw [hG] at HX HF ⊢;clear hx hrd2 hG ai aa al ae
 go_wp2_with fail
 refine HF.out.mono ?_;rintro e3 W3 ⟨⟨ns, ak, ee, rfl, hn, a8, aw, hr⟩, a0⟩;have HN := zH hn; have a4 := zH a8; have HE := zH aw; have HR := zH hr;have a1 : Hid (TkN l w H G W3) := zH ⟨a0.blk HX.out.res (by have := HX.out.hH; omega), a0.blk HX.out.box (by have := HX.out.hH; omega), HX.out.bel.trans (a0.below (by have := HX.out.hH; omega) HX.out.bel.size), by have := HX.out.hH; have := a0.size; omega⟩;clear hn a8 aw hr a0 HX HF;have aq := zH (mg HN.out);have b2 : Hid ((ah ns).toArray.size = 328) := zH HN.out.size;have ap := zH (gz HN.out.ok)
 go_upto_region 5 with (first | (refine wpList_store_row rfl 170 (.tmp 5) (.tmp 14) rfl W3.heap.size (ah ns).toArray rfl rfl 170 _ (heap_alloc_new W3 _) aq.out (by rw [b2.out]; rfl) ap.out ?_) | fail)
 refine (fun (k : ∀ W, Blk W W3.heap.size (ah ns) 170 → Below W3.heap.size W3 W → Code.wp _ _ _ _ W) => k _ (ar W3 _ (ah ns) 170).1 (ar W3 _ (ah ns) 170).2) ?_;intro W4 hb4 hw4;obtain ⟨G5, au⟩ : ∃ G, W3.heap.size = G := ⟨_, rfl⟩;have a2 : Hid (TkN l w H G W4) := zH ⟨a1.out.res.below hw4 a1.out.res.lt, a1.out.box.below hw4 a1.out.box.lt, a1.out.bel.trans (hw4.mono a1.out.bel.size), by have := a1.out.hH; have := hw4.size; omega⟩;have a5 := zH (a4.out.below hw4 (Nat.le_refl _));have ay : Hid (H < G5) := zH (by have := a1.out.hH; omega);rw [au] at hb4 ⊢;have am := zH hb4;clear hb4 hw4 au a1 a4;have cG := a2.out.box.cell (j := 0) rfl;have af := zH (K8 H ak ee W4 a5.out);obtain ⟨ne, aj⟩ : ∃ ne, kb l = ne := ⟨_, rfl⟩;have a3 := zH aj;rw [Mp HL.out HE.out (fun h => (HR.out h).1), aj] at af;clear aj
 go_wp2_with fail
 refine af.out.mono ?_;rintro e5 W5 ⟨rfl, -, a0⟩;have ab := zH (a0.blk a2.out.res (by have := a2.out.hH; omega));have az := zH (a0.blk am.out (by have := ay.out; omega));have an := zH (a2.out.bel.trans (a0.below (by have := a2.out.hH; omega) a2.out.bel.size));have b3 := zH (mg holes_ok);have b0 := zH (gz holes_ok.ok);have b4 : Hid ((ah holes).toArray.size = (ah ns).toArray.size) := zH (by rw [holes_ok.size, HN.out.size]);clear a0 cG a2 a5 am af;by_cases h0 : ne = 0
 ·have a7 : ns = ke l := by unfold ke; rw [a3.out, if_pos h0]; have h1 := a3.out; unfold kb at h1; rw [if_pos HL.out, ← HE.out] at h1; exact (HR.out (h1.trans h0)).2
  have ag := zH a7;have b5 : (ne : Int) = 0 := (by omega);subst h0;clear a7
  go_wp2_with (first | (refine a9 rfl (gx HN.out az.out rfl rfl) ?_) | (refine wpList_store_row rfl 170 (.tmp 2) (.tmp 21) rfl w.heap.size (ah ns).toArray rfl rfl 170 _ ab.out aq.out b4.out ap.out ?_) | fail)
  refine bodyPost_ret (oy Tryz.results117 _ _ w.heap.size 170 _ rfl (ab.out.row _) Tryz.underlying170 (lw HN.out)) rfl (HQ.out _ _ ⟨?_, cz an.out (Nat.le_refl _) _⟩);rw [a3.out, ag.out];rfl
 ·have a7 : ke l = holes := by unfold ke; rw [a3.out, if_neg h0]
  have ag := zH a7;have b5 : ¬ (ne : Int) = 0 := (by omega);clear a7 h0
  go_wp2_with (first | (refine a9 rfl (rl rfl) ?_) | (refine wpList_store_row rfl 170 (.tmp 2) (.tmp 19) rfl w.heap.size (ah holes).toArray rfl rfl 170 _ ab.out b3.out rfl b0.out ?_) | fail)
  refine bodyPost_ret (oy Tryz.results117 _ _ w.heap.size 170 _ rfl (ab.out.row _) Tryz.underlying170 (lw holes_ok)) rfl (HQ.out _ _ ⟨?_, cz an.out (Nat.le_refl _) _⟩);rw [a3.out, ag.out];rfl
theorem D8 (l : Bs) (sp : Option Addr) (cap : Nat) (w : World) (hz : sp = none → cap = 0) (hc : l.length ≤ cap) (hS : SrcA w sp l) (hT : RTab w) : Calls Tryz.prog 117 #[.slice sp l.length cap] w (kt l w) := by
 by_cases h : l.length = 512
 ·have h1 := D7 l sp cap w h hz hc hS hT
  rw [h];exact h1
 ·exact D9 l sp cap w h
structure Chg (F : Nat → Prop) (w w' : World) : Prop where
 os : w'.os = w.os
 tape : w'.tape = w.tape
 output : w'.output = w.output
 size : w.heap.size ≤ w'.heap.size
 block : ∀ k, k < w.heap.size → ¬ F k → w'.heap[k]? = w.heap[k]?
theorem Chg.refl (F : Nat → Prop) (w : World) : Chg F w w := ⟨rfl, rfl, rfl, Nat.le_refl _, fun _ _ _ => rfl⟩
theorem Chg.trans {G : Nat → Prop} (h : Chg F a b) (k : Chg G b c) (hG : ∀ i, G i → F i ∨ a.heap.size ≤ i) : Chg F a c :=
 ⟨k.os.trans h.os, k.tape.trans h.tape, k.output.trans h.output, Nat.le_trans h.size k.size, fun i hi hn => (k.block i (Nat.lt_of_lt_of_le hi h.size) (fun hg => by rcases hG i hg with h1 | h1; exact hn h1; omega)).trans (h.block i hi hn)⟩
theorem Chg.trans' (h : Chg F a b) (k : Chg F b c) : Chg F a c := h.trans k (fun _ h => .inl h)
theorem Chg.mono {G : Nat → Prop} (h : Chg F a b) (hG : ∀ i, F i → G i) : Chg G a b := (Chg.refl G a).trans h (fun i hi => .inl (hG i hi))
theorem Chg.of_below (h : Below a.heap.size a b) : Chg F a b := ⟨h.os, h.tape, h.output, h.size, fun k hk _ => h.block k hk⟩
theorem Chg.below (h : Chg F a b) {B : Nat} (hF : ∀ k, F k → B ≤ k) (hB : B ≤ a.heap.size) : Below B a b := ⟨h.os, h.tape, h.output, h.size, fun k hk => h.block k (by omega) (fun hf => by have := hF k hf; omega)⟩
theorem Chg.drew (h : Chg F a b) : Chg F a b.drew := ⟨h.os, h.tape, h.output, h.size, h.block⟩
theorem Chg.drewN (h : Chg F a b) (n : Nat) : Chg F a (b.drewN n) := ⟨h.os, h.tape, h.output, h.size, h.block⟩
theorem Chg.alloc (h : Chg F a b) (o : Obj) : Chg F a (b.alloc o) := h.trans' (Chg.of_below ((Below.refl _ _).alloc (Nat.le_refl _) o))
theorem Chg.setRow (h : Chg F a b) (hg : F g ∨ a.heap.size ≤ g) (c : Array Value) : Chg F a (b.setRow g c) :=
 h.trans (G := fun k => k = g) ⟨rfl, rfl, rfl, by simp, fun k _ hn => setRow_other b g k c hn⟩ (fun i hi => by subst hi; exact hg)
theorem Chg.setCell (h : Chg F a b) (hg : F g ∨ a.heap.size ≤ g) (j : Nat) (v : Value) : Chg F a (b.setCell ⟨g, j, none⟩ v) :=
 h.trans (G := fun k => k = g) ⟨rfl, rfl, rfl, by simp [World.setCell], fun k _ hn => Below.heap_setCell _ _ _ _ hn⟩ (fun i hi => by subst hi; exact hg)
theorem Chg.grown (h : Chg F a b) {r : Option Nat} (hg : b.grownBy c r) (hr : ∀ k, r = some k → F k ∨ a.heap.size ≤ k) : Chg F a c :=
 h.trans (G := fun k => some k = r) ⟨hg.os, hg.tape, hg.output, hg.size, fun k hk hn => hg.block k hk hn⟩ (fun i hi => hr i hi.symm)
theorem Blk.chg {w' : World} (h : Blk w g cs t) (hc : Chg F w w') (hn : ¬ F g) : Blk w' g cs t := by
 unfold Blk; rw [hc.block g h.lt hn]; exact h
theorem Blk.same {cs' : List Value} {t' : TypeId} (h : Blk w g cs t) (h' : Blk w g cs' t') : t = t' := by
 unfold Blk at h h'; rw [h] at h'; cases h'; rfl
theorem Hf (w : World) (g j : Nat) (v : Value) : Chg (fun k => k = g) w (w.setCell ⟨g, j, none⟩ v) := (Chg.refl (fun k => k = g) w).setCell (.inl rfl) j v
theorem G2 {α : Type} : ∀ (l : List α) (i : Nat) (a : α), l[i]? = some a → l.set i a = l
 | [], _, _, h => by simp at h
 | b :: l, 0, a, h => by simp at h; subst h; rfl
 | b :: l, i + 1, a, h => by rw [List.set_cons_succ, G2 l i a (by simpa using h)]
def a1v (f : Nat) (caps : Array Value) : Value := .func (.func f) #[] caps
end Go.Proofs.YtjgjohdeeeoeoaaGreatDoor
