/- Nodes: Put. -/
import Derived.Test.YtjgjohdeeeoeoaaGreatDoorM09
import Derived.Test.YtjgjohdeeeoeoaaGreatDoorM01
namespace Go.Proofs.YtjgjohdeeeoeoaaGreatDoor
open Go.RowKit
variable {l rest : Bs} {ns : List Pt} {cs : List Value} {G H e ee g k : Nat} {F K : Nat → Prop} {p : Pt} {t : TypeId} {W a b c w : World}
def co (ns : List Pt) : Bs := ns.flatMap g8
def j7 (p : Pt) : Bool := eqP p zeroP || fz p
def jy (ns : List Pt) : Bool := ns.all j7
theorem jf : ∀ {ns : List Pt}, (∀ p ∈ ns, p.OK) → (co ns).length = 64 * ns.length
 | [], _ => rfl
 | p :: ns, h => by
  have ih := jf (ns := ns) (fun q hq => h q (by simp [hq]));have h1 := gy (h p (by simp));simp only [co, List.flatMap_cons, List.length_append, List.length_cons] at *;omega
theorem j6 {α : Type} {l : List α} {x : α} (h : l[k]? = some x) : l.take (k + 1) = l.take k ++ [x] := by
 obtain ⟨hk, e⟩ := List.getElem?_eq_some_iff.1 h;rw [List.take_succ_eq_append_getElem hk, e]
theorem Ib (h : ns[k]? = some p) : co (ns.take (k + 1)) = co (ns.take k) ++ g8 p := by
 rw [j6 h]; simp [co]
theorem zb (h : ns[k]? = some p) : jy (ns.take (k + 1)) = (jy (ns.take k) && j7 p) := by
 rw [j6 h]; simp [jy]
theorem Sr (h : ns[k]? = some p) (hf : j7 p = false) : jy ns = false := by
 unfold jy;rw [List.all_eq_false];exact ⟨p, List.mem_of_getElem? h, by simp [hf]⟩
theorem C1 (h : NOK ns) (hk : k ≤ 8) : (co (ns.take k)).length = 64 * k := by
 rw [jf (fun p hp => h.ok p (List.mem_of_mem_take hp)), List.length_take, h.len, Nat.min_eq_left hk]
def rg (ns : List Pt) (w : World) (x : Ending) (w' : World) : Prop :=
 ((jy ns = true ∧ ∃ v, x = .returned (.tuple #[v, .int .i64 0]) ∧ OwnB w' w.heap.size v (co ns)) ∨ (jy ns = false ∧ x = .returned (.tuple #[.slice none 0 0, .int .i64 5]))) ∧ Below w.heap.size w w'
def Ld (ns : List Pt) (w : World) (v i : Value) (wr : World) : Prop := ∃ k : Nat, k ≤ 8 ∧ i = .int .i64 (k : Int) ∧ jy (ns.take k) = true ∧ OwnB wr w.heap.size v (co (ns.take k)) ∧ Below w.heap.size w wr
theorem Pk (w : World) (B : Nat) : OwnB w B (.slice none 0 0) [] := ⟨by simp, .inl ⟨rfl, rfl⟩⟩
set_option maxRecDepth 100000 in
set_option maxHeartbeats 8000000 in
theorem Ew (ns : List Pt) (h : NOK ns) (w : World) (hT : RTab w) : Calls Tryz.prog 120 #[.agg (ah ns).toArray] w (rg ns w) := by
 have HP := zH h;have HT := zH hT;have HB := zH (Blk.new w (ah ns) 170);have HW : Hid (Below w.heap.size w (w.alloc (.cells (ah ns).toArray 170))) := zH ((Below.refl _ _).alloc (Nat.le_refl _) _);have a5 : Hid (∀ x w', rg ns w x w' → rg ns w x w') := zH fun _ _ h => h
 generalize hPost : rg ns w = Post;have HQ : Hid (∀ x w', rg ns w x w' → Post x w') := zH fun x w' h => by rw [← hPost]; exact h
 clear h hT hPost a5;go_enter Tryz.func120, Tryz.ntmps120
 go_wp2_with (first | (refine a9 rfl (gt HP.out HB.out rfl rfl) ?_) | fail)
 have HR : Hid (Ld ns w (.slice none 0 0) (.int .i64 0) (w.alloc (.cells (ah ns).toArray 170))) := zH ⟨0, by omega, rfl, rfl, Pk _ _, HW.out⟩;clear HB HW;go_loopw [4, 8] (fun v i wr => Ld ns w v i wr) (fun _ i _ => 8 - (intOf i).toNat)
 case atStart => exact HR.out
 case round =>
  clear HR;obtain ⟨k, hk, rfl, al, hO, hB⟩ := hrel;obtain ⟨au, a6, e, q1, q2, q3, q4, q5⟩ := OwnB.form hO;rw [C1 HP.out hk] at e;subst e;have HB := zH hB;have HO := zH hO;have a7 := zH al;have an := zH q3;have ap := zH q4;clear hB hO al q1 q2 q3 q4 q5;have b3 := IntWalk.i64_in ((k : Int) + 1) (by omega);by_cases hlt : k < 8
  ·obtain ⟨p, hp⟩ := HP.out.get hlt
   have b2 : ∀ W : World, (Instr.index 170 (.agg (ah ns).toArray) (.int .i64 (k : Int))).run Tryz.prog W = .ok (.agg (a8 p).toArray) W := fun W => D2 Tryz.underlying170 HP.out hp W
   have a0 := zH (HP.out.at hp);have ay := zH (bh a0.out);have b1 : Hid ((a8 p).toArray.size = 41) := zH (by rw [List.size_toArray, aa a0.out]);have ad := zH hp;clear hp
   go_upto_region 5 with (first | (refine wpList_store_row rfl 28 (.tmp 6) (.tmp 10) rfl wr.heap.size (a8 p).toArray rfl rfl 28 _ (heap_alloc_new wr _) ay.out (by rw [b1.out]; rfl) (bb p) ?_) | fail)
   refine (fun (k : ∀ W, Blk W wr.heap.size (a8 p) 28 → Below wr.heap.size wr W → Code.wp _ _ _ _ W) => k _ (ar wr _ (a8 p) 28).1 (ar wr _ (a8 p) 28).2) ?_;intro W5 hx5 hb5;have ab := zH hx5;have ai := zH hb5;have am := zH (C1 HP.out hk)
   have av : Hid (∀ W, Below wr.heap.size wr W → Calls Tryz.prog 24 #[.slice au (64 * k : Nat) a6, .agg (a8 p).toArray] W fun e w' => ∃ v, e = .returned v ∧ OwnB w' w.heap.size v (co (ns.take (k + 1))) ∧ Below w.heap.size w w') := zH fun W hb => by
    have h1 := Ai p a0.out (co (ns.take k)) au a6 W (by rw [am.out]; omega) (an.out.below hb (Nat.le_refl _)) ap.out;rw [am.out, ← Ib ad.out] at h1;have af := HB.out.trans (hb.mono HB.out.size);exact h1.mono fun e w' ⟨v, e1, e2, e3⟩ => ⟨v, e1, e2.mono af.size, af.trans (e3.mono af.size)⟩
   clear hx5 hb5
   go_wp2_with (first | (refine aq (by rfl) (ax a0.out ab.out rfl rfl) ?_) | fail)
   refine (Vf p a0.out W5).mono ?_;rintro e w6 ⟨rfl, aj⟩;have a4 := zH (ab.out.below aj ab.out.lt);have a1 := zH (ai.out.trans (aj.mono ai.out.size));clear aj ab ai;cases hz : eqP p zeroP
   ·have HF : Hid (j7 p = fz p) := zH (by unfold j7; rw [hz]; rfl)
    clear hz
    go_wp2_with (first | (refine aq (by rfl) (ax a0.out a4.out rfl rfl) ?_) | fail)
    refine (sf p a0.out w6 (HT.out.grown (HB.out.trans (a1.out.mono HB.out.size)))).mono ?_;rintro e w7 ⟨rfl, ak⟩;have aw := zH (a4.out.below ak a4.out.lt);have ao := zH (a1.out.trans (ak.mono a1.out.size));clear ak a4 a1;cases hm : fz p
    ·rw [hm] at HF
     clear hm;have az := zH (Sr ad.out HF.out);have b0 := zH (HB.out.trans (ao.out.mono HB.out.size))
     go_wp2_with fail
     exact HQ.out _ _ ⟨.inr ⟨az.out, rfl⟩, b0.out⟩
    ·rw [hm] at HF
     clear hm
     go_wp2_with (first | (refine a9 rfl (ax a0.out aw.out rfl rfl) ?_) | fail)
     refine (av.out w7 ao.out).mono ?_;rintro e w8 ⟨v8, rfl, a2, a3⟩;have ag := zH a2;have ae := zH a3;clear a2 a3
     go_wp2_with fail
     go_roundw
     case rel => exact ⟨k + 1, by omega, by go_num, by rw [zb ad.out, a7.out, HF.out]; rfl, ag.out, ae.out⟩
     case measure => simp [intOf]; omega
   ·have HF : Hid (j7 p = true) := zH (by unfold j7; rw [hz]; rfl)
    clear hz
    go_wp2_with (first | (refine a9 rfl (ax a0.out a4.out rfl rfl) ?_) | fail)
    refine (av.out w6 a1.out).mono ?_;rintro e w8 ⟨v8, rfl, a2, a3⟩;have ag := zH a2;have ae := zH a3;clear a2 a3
    go_wp2_with fail
    go_roundw
    case rel => exact ⟨k + 1, by omega, by go_num, by rw [zb ad.out, a7.out, HF.out]; rfl, ag.out, ae.out⟩
    case measure => simp [intOf]; omega
  ·obtain rfl : k = 8 := by omega
   rw [List.take_of_length_le (by rw [HP.out.len]; omega)] at HO a7;rw [show ((8 : Nat) : Int) = (8 : Int) from rfl];clear an ap hlt hk
   go_wp2_with fail
   exact HQ.out _ _ ⟨.inl ⟨a7.out, _, rfl, HO.out⟩, HB.out⟩
def stE (l : Bs) : Nat → Nat
 | 0 => 0
 | k + 1 => cj (l.drop (64 * k)) (stE l k)
theorem An (h : e ≠ 0) : cj l e = e := by unfold cj; rw [if_pos h]
theorem Qy (he : ee = stE l k) (hr : ee = 0 → rest = l.drop (64 * k)) : cj rest ee = stE l (k + 1) := by
 show _ = cj _ _;rw [← he];by_cases h : ee = 0
 ·rw [hr h]
 ·rw [An h, An h]
theorem Is (h : cj l e = 0) : e = 0 := (At h).1
def ta (l : Bs) : List Pt := (List.range 8).map fun j => pt (l.drop (64 * j))
structure TiPost (l : Bs) (e H : Nat) (K : Nat → Prop) (w : World) (x : Ending) (w' : World) : Prop where
 val : x = .returned (.agg (a8 (du l e)).toArray)
 rd : ∃ rest, RdAt w' H K rest (cj l e) ∧ (cj l e = 0 → rest = l.drop 64) ∧ rest.length ≤ l.length
 bf : ButFor H w w'
set_option maxRecDepth 100000 in
set_option maxHeartbeats 4000000 in
theorem Hr (l : Bs) (e H G : Nat) (w : World) (hG : Blk w G [.pointer (some ⟨H, 0, none⟩)] 79) (hR : RdAt w H K l e) (hK : ∀ g, K g → g < w.heap.size) (hl : l.length ≤ 100000) (hT : RTab w) (hg : 0 ≠ H) :
  Calls Tryz.prog 129 #[.pointer (some ⟨G, 0, none⟩)] w (TiPost l e H K w) := by
 have HB := zH (hG.alloc (.cells (a8 zeroP).toArray 28));have cG := HB.out.cell (j := 0) rfl;have HC := zH (xw l e H (w.alloc (.cells (a8 zeroP).toArray 28)) (hR.below ((Below.refl _ _).alloc (Nat.le_refl _) _) (Nat.le_refl _)) (fun g h => Nat.lt_of_lt_of_le (hK g h) (by simp)) hl (hT.alloc _) hg);have HN := zH (Blk.new w (a8 zeroP) 28);have HH := zH hR.lt;have a5 := zH (nf l e);have a3 := zH (bh a5.out);have ab : Hid ((a8 zeroP).toArray.size = (a8 (du l e)).toArray.size) := zH (by rw [List.size_toArray, List.size_toArray, aa a5.out, aa ak]);have HQ : Hid (∀ W : World, RdAt W H K l e ∨ True → True) := zH fun _ _ => trivial
 have a2 : Hid (∀ x w' a0, x = Ending.returned (.agg (a8 (du l e)).toArray) → RdAt w' H K a0 (cj l e) → (cj l e = 0 → a0 = l.drop 64) → a0.length ≤ l.length → ButFor H w w' → TiPost l e H K w x w') := zH fun x w' a0 h1 h2 h3 h4 h5 => ⟨h1, ⟨a0, h2, h3, h4⟩, h5⟩
 generalize hPost : TiPost l e H K w = Post at a2 ⊢;obtain ⟨tp, ad⟩ : ∃ tp, du l e = tp := ⟨_, rfl⟩;rw [ad] at HC a5 a3 ab a2;have ah := zH hK;clear hG hR hK hl hT hg hPost ad HQ;go_enter Tryz.func129, Tryz.ntmps129
 go_upto_region 1 with fail
 refine (fun (k : ∀ W, W = w.alloc (.cells (a8 zeroP).toArray 28) → Code.wp _ _ _ _ W) => k _ rfl) ?_;intro W eW;rw [← eW] at HC HN cG;have ai : Hid (∀ W', ButFor H W W' → ButFor H w W') := zH fun W' h => (show ButFor H w W by rw [eW]; exact (ButFor.refl _ _).alloc _).trans h
 clear HB eW
 go_wp2_with fail
 refine HC.out.mono ?_;rintro e2 W2 ⟨rfl, ⟨a0, a9, a7, ae⟩, a4⟩;have a6 := zH (a4.blk HN.out (by have := HH.out; omega));have ag := zH a9; have aj := zH a7; have al := zH ae; have af := zH a4;clear a9 a7 ae a4 HN HC
 go_wp2_with (first | (refine wpList_store_row rfl 28 (.tmp 1) (.tmp 3) rfl w.heap.size (a8 tp).toArray rfl rfl 28 _ a6.out a3.out ab.out (bb tp) ?_) | fail)
 have a1 := zH (TkR.result (w := w) (H := H) (K := K) ⟨a6.out, ag.out, ai.out _ af.out, HH.out, ah.out⟩ (a8 tp).toArray);exact bodyPost_ret (results_cell_row Tryz.results129 _ _ w.heap.size 28 _ _ _ rfl (a6.out.row _) Tryz.underlying28 rfl a3.out) rfl (a2.out _ _ a0 rfl a1.out.1 aj.out al.out a1.out.2)
structure FiW (l : Bs) (w : World) (H : Nat) (K : Nat → Prop) (G : Nat) (k : Nat) (W : World) : Prop where
 ok : ∃ ns rest ee, NOK ns ∧ Blk W (w.heap.size + 1) (ah ns) 170 ∧ RdAt W H K rest ee ∧ ee = stE l k ∧ (ee = 0 → rest = l.drop (64 * k) ∧ ∀ j, j < k → ns[j]? = some (pt (l.drop (64 * j)))) ∧ rest.length ≤ l.length
 res : Blk W w.heap.size (ah holes) 170
 box : Blk W G [.pointer (some ⟨H, 0, none⟩)] 79
 bf : ButFor H w W
 hH : H < w.heap.size
 hG : G < w.heap.size ∧ G ≠ H
 hK : ∀ g, K g → g < w.heap.size
structure FiPost (l : Bs) (H : Nat) (K : Nat → Prop) (w : World) (x : Ending) (w' : World) : Prop where
 ok : ∃ ns rest ee, x = .returned (.agg (ah ns).toArray) ∧ NOK ns ∧ RdAt w' H K rest ee ∧ ee = stE l 8 ∧ (ee = 0 → rest = l.drop 512 ∧ ns = ta l)
 bf : ButFor H w w'
theorem Ny (hR : RdAt w H K l 0) (hB : Blk w G [.pointer (some ⟨H, 0, none⟩)] 79) (hGH : G ≠ H) (hK : ∀ g, K g → g < w.heap.size) (z : Array Value) (hz : z = (ah holes).toArray) : FiW l w H K G 0 ((w.alloc (.cells z 170)).alloc (.cells z 170)) := by
 subst hz;have hb : Below w.heap.size w ((w.alloc (.cells (ah holes).toArray 170)).alloc (.cells (ah holes).toArray 170)) := ((Below.refl _ _).alloc (Nat.le_refl _) _).alloc (by simp) _;exact ⟨⟨holes, l, 0, holes_ok, Blk.new' _ _ _ _ _ (by simp) rfl, hR.below hb (Nat.le_refl _), rfl, fun _ => ⟨rfl, fun j hj => by omega⟩, Nat.le_refl _⟩, (Blk.new _ _ _).alloc _, hB.below hb hB.lt, ButFor.of_below hb, hR.lt, ⟨hB.lt, hGH⟩, hK⟩
theorem Ha {α : Type} {l : List α} {f : Nat → α} (hk : k < l.length) (h : ∀ i, i < k → l[i]? = some (f i)) : ∀ j, j < k + 1 → (l.set k (f k))[j]? = some (f j) := fun j hj => by
 by_cases e : k = j
 ·subst e; rw [List.getElem?_set_self hk]
 ·rw [List.getElem?_set_ne e]; exact h j (by omega)
theorem G7 (h : cj l 0 = 0) : du l 0 = pt l := by unfold du; rw [if_pos h]
theorem FiW.next {W' : World} {rest' : Bs} (h : FiW l w H K G k W) (hk : k < 8) (hn : NOK ns) (hb : Blk W' (w.heap.size + 1) (ah ns) 170) (hee : ee = stE l k) (hr : ee = 0 → rest = l.drop (64 * k) ∧ ∀ j, j < k → ns[j]? = some (pt (l.drop (64 * j)))) (hrl : rest.length ≤ l.length)
  (hrd : RdAt W' H K rest' (cj rest ee)) (hr' : cj rest ee = 0 → rest' = rest.drop 64) (hrl' : rest'.length ≤ rest.length) (hbf : ButFor H W W') : FiW l w H K G (k + 1) (W'.setCells (w.heap.size + 1) (k * 41) (a8 (du rest ee))) := by
 have a1 := nf rest ee;have a0 : Below (w.heap.size + 1) W' (W'.setCells (w.heap.size + 1) (k * 41) (a8 (du rest ee))) := A4 _ _ _ (Below.refl _ _) (Nat.le_refl _);have a2 := h.bf.size;have hH := h.hH;have hG := h.hG;refine ⟨⟨ns.set k (du rest ee), rest', cj rest ee, hn.set k a1, G0 hn hb hk (Nat.mul_comm k 41) a1, ?_, Qy hee (fun h0 => (hr h0).1), fun h0 => ?_, Nat.le_trans hrl' hrl⟩, (hbf.blk h.res (by omega)).below a0 (by omega), (hbf.blk h.box hG.2).below a0 (by omega), ⟨a0.os.trans (h.bf.trans hbf).os, a0.tape.trans (h.bf.trans hbf).tape, a0.output.trans (h.bf.trans hbf).output, ?_, ?_⟩, hH, hG, h.hK⟩
 ·exact hrd.other (J := w.heap.size + 1) (ButFor.sets _ _ _ (ButFor.refl _ _)) (by omega) (fun hk => by have := h.hK _ hk; omega)
 ·have e0 := Is h0
  obtain ⟨r1, r2⟩ := hr e0;subst e0;refine ⟨by rw [hr' h0, r1, List.drop_drop]; congr 1, ?_⟩;rw [G7 h0, r1];exact Ha (f := fun j => pt (l.drop (64 * j))) (by rw [hn.len]; exact hk) r2
 ·exact Nat.le_trans (h.bf.trans hbf).size a0.size
 ·intro i hi hn
  rw [a0.block i (by omega)];exact (h.bf.trans hbf).block i hi hn
theorem FiW.done {w W : World} {H G : Nat} {K : Nat → Prop} (hn : NOK ns) (hr : ee = 0 → rest = l.drop (64 * 8) ∧ ∀ j, j < 8 → ns[j]? = some (pt (l.drop (64 * j)))) : ee = 0 → rest = l.drop 512 ∧ ns = ta l := fun h0 => by
 obtain ⟨r1, r2⟩ := hr h0;refine ⟨r1, List.ext_getElem? fun j => ?_⟩;by_cases hj : j < 8
 ·rw [r2 j hj]; simp [ta, hj]
 ·rw [List.getElem?_eq_none (by rw [hn.len]; omega), List.getElem?_eq_none (by simp [ta]; omega)]
theorem FiW.result (h : FiW l w H K G k W) (hrd : RdAt W H K rest ee) (cs : Array Value) : RdAt (W.setRow w.heap.size cs) H K rest ee ∧ ButFor H w (W.setRow w.heap.size cs) := by
 have h1 := h.hH;refine ⟨hrd.other (J := w.heap.size) (tv cs) (by omega) (fun hk => by have := h.hK _ hk; omega), ?_⟩;exact ⟨h.bf.os, h.bf.tape, h.bf.output, by simpa using h.bf.size, fun k hk hn => (setRow_other W w.heap.size k cs (by omega)).trans (h.bf.block k hk hn)⟩
def a00 (l : Bs) (w : World) (H : Nat) (K : Nat → Prop) (G : Nat) (i : Value) (wr : World) : Prop := ∃ k : Nat, k ≤ 8 ∧ i = .int .i64 (k : Int) ∧ FiW l w H K G k wr
set_option maxRecDepth 100000 in
set_option maxHeartbeats 8000000 in
theorem Fh (l : Bs) (H G : Nat) (w : World) (hG : Blk w G [.pointer (some ⟨H, 0, none⟩)] 79) (hGH : G ≠ H) (hR : RdAt w H K l 0) (hK : ∀ g, K g → g < w.heap.size) (hl : l.length ≤ 100000) (hT : RTab w) (hg : 0 ≠ H) :
  Calls Tryz.prog 128 #[.func (.func 129) #[] #[.pointer (some ⟨G, 0, none⟩)]] w (FiPost l H K w) := by
 have HL := zH hl;have HT := zH hT;have ai := zH hg;have HW := zH (Ny hR hG hGH hK);have am : Hid (∀ x w', FiPost l H K w x w' → FiPost l H K w x w') := zH fun _ _ h => h
 generalize hPost : FiPost l H K w = Post;have HQ : Hid (∀ x w', FiPost l H K w x w' → Post x w') := zH fun x w' h => by rw [← hPost]; exact h
 clear hG hGH hR hK hl hT hg hPost am;go_enter Tryz.func128, Tryz.ntmps128
 go_upto_region 2 with fail
 refine (fun (k : ∀ W, FiW l w H K G 0 W → Code.wp _ _ _ _ W) => k _ (HW.out _ rfl)) ?_;intro W0 hW0;have HR : Hid (a00 l w H K G (.int .i64 0) W0) := zH ⟨0, by omega, rfl, hW0⟩;clear hW0 HW
 go_wp2_with fail
 go_loopw [5] (fun i wr => a00 l w H K G i wr) (fun i _ => 8 - (intOf i).toNat)
 case atStart => exact HR.out
 case round =>
  clear HR;obtain ⟨k, hk, rfl, hW⟩ := hrel;have HW := zH hW;obtain ⟨ns, a0, ee, hn, hb, a5, al, hr, af⟩ := hW.ok;have HN := zH hn; have aj := zH hb; have ad := zH a5; have HE := zH al; have HR := zH hr; have ak := zH af;clear hW hn hb a5 al hr af;have aw := IntWalk.i64_in ((k : Int) + 1) (by omega);by_cases hlt : k < 8
  ·have a6 := zH (Hr a0 ee H G wr HW.out.box ad.out (fun g h => Nat.lt_of_lt_of_le (HW.out.hK g h) HW.out.bf.size) (Nat.le_trans ak.out HL.out) (HT.out.of_heap (HW.out.bf.block _ HT.out.lt ai.out)) ai.out)
   obtain ⟨tp, a2⟩ : ∃ tp, du a0 ee = tp := ⟨_, rfl⟩;have ap := zH a2;have a7 : Hid tp.OK := zH (by rw [← a2]; exact nf _ _);have ar := zH (bh a7.out);have au := zH (aa a7.out);clear a2
   go_wp2_with fail
   refine a6.out.mono ?_;intro e W2 hti;obtain ⟨rfl, ⟨ag, r1, r2, r3⟩, r4⟩ := hti;have a4 := r4.blk aj.out (by have := HW.out.hH; omega);have ao : Hid (W2.there (w.heap.size + 1) (k * 41) (a8 tp).toArray.size) := zH (a4.there _ _ (by rw [List.size_toArray, au.out, HN.out.cells]; omega));have a3 := HW.out.next hlt HN.out a4 HE.out HR.out ak.out r1 r2 r3 r4;rw [ap.out] at a3 ⊢;have av := zH a3;clear a4 a3 r1 r2 r3 r4 a6
   go_wp2_with (first | (refine wpList_store_mid rfl 28 (.tmp 11) (.tmp 10) rfl (w.heap.size + 1) (k * 41) (a8 tp).toArray rfl rfl ao.out ar.out (bb tp) ?_) | fail)
   go_roundw
   case rel => exact ⟨k + 1, by omega, by go_num, av.out⟩
   case measure => simp [intOf]; omega
  ·obtain rfl : k = 8 := by omega
   have HD := zH (FiW.done (l := l) (w := w) (W := wr) (H := H) (G := G) (K := K) HN.out HR.out);have ae := zH (m2 HN.out);have an : Hid ((ah holes).toArray.size = (ah ns).toArray.size) := zH (by rw [holes_ok.size, HN.out.size]);have aq := zH (gu HN.out.ok);have a1 := zH (HW.out.result ad.out (ah ns).toArray);rw [show ((8 : Nat) : Int) = (8 : Int) from rfl];have ab := zH HW.out.res;clear hlt hk
   go_wp2_with (first | (refine a9 rfl (gt HN.out aj.out rfl rfl) ?_) | (refine wpList_store_row rfl 170 (.tmp 2) (.tmp 13) rfl w.heap.size (ah ns).toArray rfl rfl 170 _ ab.out ae.out an.out aq.out ?_) | fail)
   exact bodyPost_ret (results_cell_row Tryz.results128 _ _ w.heap.size 170 _ _ _ rfl (ab.out.row _) Tryz.underlying170 rfl ae.out) rfl (HQ.out _ _ ⟨⟨ns, a0, ee, rfl, HN.out, a1.out.1, HE.out, HD.out⟩, a1.out.2⟩)
theorem oe {fn : Func} {p u : Tmp} {ty n : Nat} (h : fn.results = #[.cell p ty, .tmp u]) (tmps : Array Value) (w : World) (g t : Nat) (cs : List Value)
  (hp : tmps.getD p undef = .pointer (some ⟨g, 0, none⟩)) (hg : Blk w g cs t) (hu : Tryz.prog.underlying ty = some (.array n e)) (hi : (Tryz.prog.info? ty).map (·.size) = some cs.length) :
  (results fn tmps).run Tryz.prog w = .ok (.tuple #[.agg cs.toArray, tmps.getD u undef]) w := by
 rw [results_cell_tmp h, hp];simp only [asAddr, Sem.run_pure, Result.andThen_ok, run_loadVar_row w g t ty cs.toArray (0, 0) _ hg hu rfl (by simpa using hi)]
def kb (l : Bs) : Nat := if l.length = 512 then stE l 8 else 5
def ke (l : Bs) : List Pt := if kb l = 0 then ta l else holes
theorem I6 (h : kb l = 0) : l.length = 512 := by
 unfold kb at h;split at h
 ·assumption
 ·cases h
theorem V7 (h : l.length = 512) : NOK (ta l) := ⟨by simp [ta], fun p hp => by
 simp only [ta, List.mem_map, List.mem_range] at hp;obtain ⟨j, hj, rfl⟩ := hp
 exact Tf (by rw [List.length_drop, h]; omega)⟩
theorem E2 (l : Bs) : NOK (ke l) := by
 unfold ke;split
 ·rename_i h; exact V7 (I6 h)
 ·exact holes_ok
def ku (l : Bs) (w : World) (x : Ending) (w' : World) : Prop := x = .returned (.tuple #[.agg (ah (ke l)).toArray, .int .i64 (kb l : Int)]) ∧ Below w.heap.size w w'
theorem ky (h : NOK ns) : (Tryz.prog.info? 170).map (·.size) = some (ah ns).length := by rw [h.cells]; exact Ca
set_option maxRecDepth 100000 in
set_option maxHeartbeats 8000000 in
theorem Ct (l : Bs) (sp : Option Addr) (cap : Nat) (w : World) (hl : l.length ≠ 512) : Calls Tryz.prog 117 #[.slice sp l.length cap] w (ku l w) := by
 have he : kb l = 5 := by unfold kb; rw [if_neg hl]
 have ht : ke l = holes := by unfold ke; rw [he]; rfl
 unfold ku;rw [he, ht];obtain ⟨L, hL⟩ : ∃ L, l.length = L := ⟨_, rfl⟩;rw [hL] at hl ⊢;have a4 : ¬ (L : Int) = 512 := by omega
 have a3 := zH (m2 holes_ok);have a1 := zH (gu holes_ok.ok);have HB := zH (Blk.new w (ah holes) 170);have HW : Hid (Below w.heap.size w (w.alloc (.cells (ah holes).toArray 170))) := zH ((Below.refl _ _).alloc (Nat.le_refl _) _);clear hL hl he ht;go_enter Tryz.func117, Tryz.ntmps117
 go_upto_region 1 with fail
 refine (fun (k : ∀ W, Blk W w.heap.size (ah holes) 170 → Below w.heap.size w W → Code.wp _ _ _ _ W) => k _ HB.out HW.out) ?_;intro W hb hw;have a0 := zH hb; have a2 := zH hw;clear hb hw HB HW
 go_wp2_with (first | (refine a9 rfl (sx rfl) ?_) | (refine wpList_store_row rfl 170 (.tmp 2) (.tmp 10) rfl w.heap.size (ah holes).toArray rfl rfl 170 _ a0.out a3.out rfl a1.out ?_) | fail)
 exact bodyPost_ret (oe Tryz.results117 _ _ w.heap.size 170 _ rfl (a0.out.row _) Tryz.underlying170 (ky holes_ok)) rfl ⟨rfl, d6 a2.out (Nat.le_refl _) _⟩
theorem Pu (hl : l.length = 512) (he : ee = stE l 8) (hr : ee = 0 → rest = l.drop 512) : qd rest ee = kb l := by
 unfold qd lm kb;rw [if_pos hl, ← he];by_cases h : ee = 0
 ·rw [if_pos h, hr h]
  simp [hl, h]
 ·rw [if_neg h]; rfl
structure TkN (l : Bs) (w : World) (H G : Nat) (W : World) : Prop where
 res : Blk W w.heap.size (ah holes) 170
 box : Blk W G [.pointer (some ⟨H, 0, none⟩)] 79
 bel : Below w.heap.size w W
 hH : w.heap.size + 1 ≤ H ∧ H < W.heap.size ∧ H < G
set_option maxRecDepth 100000 in
set_option maxHeartbeats 8000000 in
theorem Dg (l : Bs) (sp : Option Addr) (cap : Nat) (w : World) (hl : l.length = 512) (hz : sp = none → cap = 0) (hc : l.length ≤ cap) (hS : SrcA w sp l) (hT : RTab w) : Calls Tryz.prog 117 #[.slice sp 512 cap] w (ku l w) := by
 have HL := zH hl;have HT := zH hT;have HB : Hid (Blk (w.alloc (.cells (ah holes).toArray 170)) w.heap.size (ah holes) 170) := zH (Blk.new _ _ _);have HW : Hid (Below w.heap.size w (w.alloc (.cells (ah holes).toArray 170))) := zH ((Below.refl _ _).alloc (Nat.le_refl _) _)
 have aw : Hid (∀ W, Below w.heap.size w W → Calls Tryz.prog 26 #[.slice sp 512 cap] W (Vr l W)) := zH fun W hb => by
  have h1 := Ks l sp cap W (by omega) hz hc (hS.grown hb);rw [hl] at h1;exact h1
 have a4 : Hid ((w.alloc (.cells (ah holes).toArray 170)).heap.size = w.heap.size + 1) := zH (by simp);generalize hPost : ku l w = Post;have HQ : Hid (∀ x w', ku l w x w' → Post x w') := zH fun x w' h => by rw [← hPost]; exact h
 clear hl hz hc hS hT hPost;go_enter Tryz.func117, Tryz.ntmps117
 go_upto_region 1 with fail
 refine (fun (k : ∀ W, Blk W w.heap.size (ah holes) 170 → Below w.heap.size w W → W.heap.size = w.heap.size + 1 → Code.wp _ _ _ _ W) => k _ HB.out HW.out a4.out) ?_;intro W0 hb hw hs;have av := zH hb; have ad := zH hw; have ae := zH hs;clear hb hw hs HB HW a4
 go_wp2_with fail
 refine (aw.out W0 ad.out).mono ?_;rintro e1 W1 ⟨H, rfl, am, hH, aq⟩;have ag := zH am; have HH := zH hH; have aa := zH aq;clear am hH aq aw
 go_upto_region 4 with fail
 refine (fun (k : ∀ W, TkN l w H W1.heap.size W → RdAt W H (fun g => W0.heap.size ≤ g ∧ g < H) l 0 → Code.wp _ _ _ _ W) => k _ ⟨(av.out.below aa.out (by rw [ae.out]; omega)).alloc _, Blk.new _ _ _, (ad.out.trans (aa.out.mono (by rw [ae.out]; omega))).alloc (ad.out.trans (aa.out.mono (by rw [ae.out]; omega))).size _, by have := HH.out; have := ae.out; have := ag.out.lt; simp; omega⟩ (ag.out.below ((Below.refl _ _).alloc (Nat.le_refl _) _) (Nat.le_refl _))) ?_;intro W2 hx hrd2;have HX := zH hx; have b5 := zH hrd2;have HF := zH (Fh l H W1.heap.size (K := fun g => W0.heap.size ≤ g ∧ g < H) W2 hx.box (by have := hx.hH; omega) hrd2 (fun g h => Nat.lt_trans h.2 hrd2.lt) (by rw [HL.out]; omega) (HT.out.grown hx.bel) (by have := HT.out.lt; have := hx.hH; omega));obtain ⟨G, hG⟩ : ∃ G, W1.heap.size = G := ⟨_, rfl⟩;rw [hG] at HX HF ⊢;clear hx hrd2 hG ag aa av ad
 go_wp2_with fail
 refine HF.out.mono ?_;rintro e3 W3 ⟨⟨ns, ai, ee, rfl, hn, a6, ax, hr⟩, a0⟩;have HN := zH hn; have a3 := zH a6; have HE := zH ax; have HR := zH hr;have a1 : Hid (TkN l w H G W3) := zH ⟨a0.blk HX.out.res (by have := HX.out.hH; omega), a0.blk HX.out.box (by have := HX.out.hH; omega), HX.out.bel.trans (a0.below (by have := HX.out.hH; omega) HX.out.bel.size), by have := HX.out.hH; have := a0.size; omega⟩;clear hn a6 ax hr a0 HX HF;have ao := zH (m2 HN.out);have b4 : Hid ((ah ns).toArray.size = 328) := zH HN.out.size;have ap := zH (gu HN.out.ok)
 go_upto_region 5 with (first | (refine wpList_store_row rfl 170 (.tmp 5) (.tmp 14) rfl W3.heap.size (ah ns).toArray rfl rfl 170 _ (heap_alloc_new W3 _) ao.out (by rw [b4.out]; rfl) ap.out ?_) | fail)
 refine (fun (k : ∀ W, Blk W W3.heap.size (ah ns) 170 → Below W3.heap.size W3 W → Code.wp _ _ _ _ W) => k _ (ar W3 _ (ah ns) 170).1 (ar W3 _ (ah ns) 170).2) ?_;intro W4 hb4 hw4;obtain ⟨G5, al⟩ : ∃ G, W3.heap.size = G := ⟨_, rfl⟩;have a2 : Hid (TkN l w H G W4) := zH ⟨a1.out.res.below hw4 a1.out.res.lt, a1.out.box.below hw4 a1.out.box.lt, a1.out.bel.trans (hw4.mono a1.out.bel.size), by have := a1.out.hH; have := hw4.size; omega⟩;have a7 := zH (a3.out.below hw4 (Nat.le_refl _));have b3 : Hid (H < G5) := zH (by have := a1.out.hH; omega);rw [al] at hb4 ⊢;have an := zH hb4;clear hb4 hw4 al a1 a3;have cG := a2.out.box.cell (j := 0) rfl;have aj := zH (Kd H ai ee W4 a7.out);obtain ⟨ne, af⟩ : ∃ ne, kb l = ne := ⟨_, rfl⟩;have a5 := zH af;rw [Pu HL.out HE.out (fun h => (HR.out h).1), af] at aj;clear af
 go_wp2_with fail
 refine aj.out.mono ?_;rintro e5 W5 ⟨rfl, -, a0⟩;have ab := zH (a0.blk a2.out.res (by have := a2.out.hH; omega));have b2 := zH (a0.blk an.out (by have := b3.out; omega));have au := zH (a2.out.bel.trans (a0.below (by have := a2.out.hH; omega) a2.out.bel.size));have az := zH (m2 holes_ok);have b1 := zH (gu holes_ok.ok);have ay : Hid ((ah holes).toArray.size = (ah ns).toArray.size) := zH (by rw [holes_ok.size, HN.out.size]);clear a0 cG a2 a7 an aj;by_cases h0 : ne = 0
 ·have a8 : ns = ke l := by unfold ke; rw [a5.out, if_pos h0]; have h1 := a5.out; unfold kb at h1; rw [if_pos HL.out, ← HE.out] at h1; exact (HR.out (h1.trans h0)).2
  have ak := zH a8;have b0 : (ne : Int) = 0 := (by omega);subst h0;clear a8
  go_wp2_with (first | (refine a9 rfl (gt HN.out b2.out rfl rfl) ?_) | (refine wpList_store_row rfl 170 (.tmp 2) (.tmp 21) rfl w.heap.size (ah ns).toArray rfl rfl 170 _ ab.out ao.out ay.out ap.out ?_) | fail)
  refine bodyPost_ret (oe Tryz.results117 _ _ w.heap.size 170 _ rfl (ab.out.row _) Tryz.underlying170 (ky HN.out)) rfl (HQ.out _ _ ⟨?_, d6 au.out (Nat.le_refl _) _⟩);rw [a5.out, ak.out];rfl
 ·have a8 : ke l = holes := by unfold ke; rw [a5.out, if_neg h0]
  have ak := zH a8;have b0 : ¬ (ne : Int) = 0 := (by omega);clear a8 h0
  go_wp2_with (first | (refine a9 rfl (sx rfl) ?_) | (refine wpList_store_row rfl 170 (.tmp 2) (.tmp 19) rfl w.heap.size (ah holes).toArray rfl rfl 170 _ ab.out az.out rfl b1.out ?_) | fail)
  refine bodyPost_ret (oe Tryz.results117 _ _ w.heap.size 170 _ rfl (ab.out.row _) Tryz.underlying170 (ky holes_ok)) rfl (HQ.out _ _ ⟨?_, d6 au.out (Nat.le_refl _) _⟩);rw [a5.out, ak.out];rfl
theorem Dm (l : Bs) (sp : Option Addr) (cap : Nat) (w : World) (hz : sp = none → cap = 0) (hc : l.length ≤ cap) (hS : SrcA w sp l) (hT : RTab w) : Calls Tryz.prog 117 #[.slice sp l.length cap] w (ku l w) := by
 by_cases h : l.length = 512
 ·have h1 := Dg l sp cap w h hz hc hS hT
  rw [h];exact h1
 ·exact Ct l sp cap w h
structure Chg (F : Nat → Prop) (w w' : World) : Prop where
 os : w'.os = w.os
 tape : w'.tape = w.tape
 output : w'.output = w.output
 size : w.heap.size ≤ w'.heap.size
 block : ∀ k, k < w.heap.size → ¬ F k → w'.heap[k]? = w.heap[k]?
theorem Chg.refl (F : Nat → Prop) (w : World) : Chg F w w := ⟨rfl, rfl, rfl, Nat.le_refl _, fun _ _ _ => rfl⟩
theorem Chg.trans {G : Nat → Prop} (h : Chg F a b) (k : Chg G b c) (hG : ∀ i, G i → F i ∨ a.heap.size ≤ i) : Chg F a c :=
 ⟨k.os.trans h.os, k.tape.trans h.tape, k.output.trans h.output, Nat.le_trans h.size k.size, fun i hi hn => (k.block i (Nat.lt_of_lt_of_le hi h.size) (fun hg => by rcases hG i hg with h1 | h1; exact hn h1; omega)).trans (h.block i hi hn)⟩
theorem Chg.trans' (h : Chg F a b) (k : Chg F b c) : Chg F a c := h.trans k (fun _ h => .inl h)
theorem Chg.mono {G : Nat → Prop} (h : Chg F a b) (hG : ∀ i, F i → G i) : Chg G a b := (Chg.refl G a).trans h (fun i hi => .inl (hG i hi))
theorem Chg.of_below (h : Below a.heap.size a b) : Chg F a b := ⟨h.os, h.tape, h.output, h.size, fun k hk _ => h.block k hk⟩
theorem Chg.below (h : Chg F a b) {B : Nat} (hF : ∀ k, F k → B ≤ k) (hB : B ≤ a.heap.size) : Below B a b := ⟨h.os, h.tape, h.output, h.size, fun k hk => h.block k (by omega) (fun hf => by have := hF k hf; omega)⟩
theorem Chg.drew (h : Chg F a b) : Chg F a b.drew := ⟨h.os, h.tape, h.output, h.size, h.block⟩
theorem Chg.drewN (h : Chg F a b) (n : Nat) : Chg F a (b.drewN n) := ⟨h.os, h.tape, h.output, h.size, h.block⟩
theorem Chg.alloc (h : Chg F a b) (o : Obj) : Chg F a (b.alloc o) := h.trans' (Chg.of_below ((Below.refl _ _).alloc (Nat.le_refl _) o))
theorem Chg.setRow (h : Chg F a b) (hg : F g ∨ a.heap.size ≤ g) (c : Array Value) : Chg F a (b.setRow g c) :=
 h.trans (G := fun k => k = g) ⟨rfl, rfl, rfl, by simp, fun k _ hn => setRow_other b g k c hn⟩ (fun i hi => by subst hi; exact hg)
theorem Chg.setCell (h : Chg F a b) (hg : F g ∨ a.heap.size ≤ g) (j : Nat) (v : Value) : Chg F a (b.setCell ⟨g, j, none⟩ v) :=
 h.trans (G := fun k => k = g) ⟨rfl, rfl, rfl, by simp [World.setCell], fun k _ hn => Below.heap_setCell _ _ _ _ hn⟩ (fun i hi => by subst hi; exact hg)
theorem Chg.grown (h : Chg F a b) {r : Option Nat} (hg : b.grownBy c r) (hr : ∀ k, r = some k → F k ∨ a.heap.size ≤ k) : Chg F a c :=
 h.trans (G := fun k => some k = r) ⟨hg.os, hg.tape, hg.output, hg.size, fun k hk hn => hg.block k hk hn⟩ (fun i hi => hr i hi.symm)
theorem Blk.chg {w' : World} (h : Blk w g cs t) (hc : Chg F w w') (hn : ¬ F g) : Blk w' g cs t := by
 unfold Blk; rw [hc.block g h.lt hn]; exact h
theorem Blk.same {cs' : List Value} {t' : TypeId} (h : Blk w g cs t) (h' : Blk w g cs' t') : t = t' := by
 unfold Blk at h h'; rw [h] at h'; cases h'; rfl
theorem Hb (w : World) (g j : Nat) (v : Value) : Chg (fun k => k = g) w (w.setCell ⟨g, j, none⟩ v) := (Chg.refl (fun k => k = g) w).setCell (.inl rfl) j v
theorem Fo {α : Type} : ∀ (l : List α) (i : Nat) (a : α), l[i]? = some a → l.set i a = l
 | [], _, _, h => by simp at h
 | b :: l, 0, a, h => by simp at h; subst h; rfl
 | b :: l, i + 1, a, h => by rw [List.set_cons_succ, Fo l i a (by simpa using h)]
def a21 (f : Nat) (caps : Array Value) : Value := .func (.func f) #[] caps
end Go.Proofs.YtjgjohdeeeoeoaaGreatDoor
