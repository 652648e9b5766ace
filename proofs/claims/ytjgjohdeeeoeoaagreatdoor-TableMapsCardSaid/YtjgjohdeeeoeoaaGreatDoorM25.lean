/- Inodes: the block less what may not be; an inode's bytes; the block of four. -/
import Derived.Test.YtjgjohdeeeoeoaaGreatDoorM24
import Derived.Test.YtjgjohdeeeoeoaaGreatDoorM09
set_option linter.all false
namespace Go.Proofs.YtjgjohdeeeoeoaaGreatDoor
open Go.RowKit
variable {l rest rest' : Bs} {n q : Ino} {ns : List Ino} {H e ee k : Nat} {K : Nat → Prop} {W W' w : World}
def nk (k : Nat) (ns : List Ino) : List Ino := gd (ns.take k) ++ ns.drop k
theorem P7 (ns : List Ino) : nk 0 ns = ns := by simp [nk, gd]
theorem Lm (h : BOK ns) (k : Nat) : BOK (nk k ns) := ⟨by simp [nk, gd, h.len]; omega, fun p hp => by
 simp only [nk, List.mem_append, gd, List.mem_map] at hp;rcases hp with ⟨q, hq, rfl⟩ | hp
 ·exact Ba (h.ok q (List.mem_of_mem_take hq))
 ·exact h.ok p (List.mem_of_mem_drop hp)⟩
theorem Ll (hk : ns[k]? = some n) : (nk k ns)[k]? = some n ∧ nk (k + 1) ns = (nk k ns).set k (o8 n) := by
 obtain ⟨hl, hn⟩ := List.getElem?_eq_some_iff.1 hk;have e1 : nk k ns = gd (ns.take k) ++ n :: ns.drop (k + 1) := by unfold nk; rw [← hn, ← List.drop_eq_getElem_cons hl]
 have e2 : nk (k + 1) ns = gd (ns.take k) ++ o8 n :: ns.drop (k + 1) := by unfold nk; rw [zo hk]; simp [gd]
 have e3 : (gd (ns.take k)).length = k := by simp [gd]; omega
 rw [e1, e2];constructor
 ·rw [List.getElem?_append_right (by omega), e3]; simp
 ·rw [List.set_append_right _ _ (by omega), e3]; simp
theorem P6 (hk : ns[k]? = some n) (h : ij n = true) : nk (k + 1) ns = nk k ns := by
 obtain ⟨h1, h2⟩ := Ll hk;rw [h2];unfold o8;rw [if_pos h];obtain ⟨hl, hn⟩ := List.getElem?_eq_some_iff.1 h1;apply List.ext_getElem?;intro j;by_cases e : k = j
 ·subst e; rw [List.getElem?_set_self hl, h1]
 ·rw [List.getElem?_set_ne e]
theorem F5 (hk : ns[k]? = some n) (h : ij n = false) : nk (k + 1) ns = (nk k ns).set k zeroI := by
 rw [(Ll hk).2];unfold o8;rw [h];rfl
theorem P5 (h : BOK ns) : nk 4 ns = gd ns := by
 unfold nk;rw [List.take_of_length_le (by rw [h.len]; omega), List.drop_of_length_le (by rw [h.len]; omega), List.append_nil]
theorem Ro {ρ : Operand → Value} {o : Oper} (hq : zeroI = q) (ho : o.op = .build 68 #[]) : (execOp ρ o).run Tryz.prog w = .ok (.value (.agg (af q).toArray)) w := by subst hq; exact lc ho
structure AlW (ns : List Ino) (w W : World) : Prop where
 a : Blk W w.heap.size (ai ns) 104
 r : Blk W (w.heap.size + 1) (ai zeros4) 104
 b : Below w.heap.size w W
theorem AlW.grown (h : AlW ns w W) (hb : Below W.heap.size W W') : AlW ns w W' := ⟨h.a.below hb h.a.lt, h.r.below hb h.r.lt, h.b.trans (hb.mono h.b.size)⟩
theorem AlW.put (h : AlW ns w W) (hn : BOK ns) (hk : k < 4) (hq : q.OK) : AlW (ns.set k q) w (W.setCells w.heap.size (k * 44) (af q)) :=
 ⟨E5 hn h.a hk (Nat.mul_comm k 44) hq, fh (by omega) _ _ _ _ h.r, py _ _ _ h.b (Nat.le_refl _)⟩
set_option maxRecDepth 100000 in
set_option maxHeartbeats 8000000 in
theorem xp (ns : List Ino) (h : BOK ns) (w : World) (hT : RTab w) : Calls Tryz.prog 92 #[.agg (ai ns).toArray] w fun e w' => e = .returned (.agg (ai (gd ns)).toArray) ∧ Below w.heap.size w w' := by
 have HP := zH h; have HT := zH hT
 have HX : Hid (∀ z, z = (ai zeros4).toArray → AlW ns w ((w.alloc (.cells (ai ns).toArray 104)).alloc (.cells z 104))) := zH (fun z hz => by
  subst hz
  exact ⟨(Blk.new _ _ _).alloc _, Blk.new' _ _ _ _ _ (by simp) rfl, ((Below.refl _ _).alloc (Nat.le_refl _) _).alloc (by simp) _⟩)
 have al := zH zeros4_ok;clear h hT;go_enter Tryz.func92, Tryz.ntmps92
 go_upto_region 1 with fail
 refine (fun (k : ∀ W, AlW ns w W → Code.wp _ _ _ _ W) => k _ (HX.out _ rfl)) ?_;intro W hW;have HW := zH hW;clear hW HX
 go_wp2_with (first | (refine a9 rfl (dp HP.out HW.out.a rfl rfl) ?_) | fail)
 go_loopw [6] (fun i wr => ∃ k : Nat, k ≤ 4 ∧ i = .int .i64 (k : Int) ∧ AlW (nk k ns) w wr) (fun i _ => 4 - (intOf i).toNat)
 case atStart => exact ⟨0, by omega, rfl, by rw [P7]; exact HW.out⟩
 case round =>
  clear HW;obtain ⟨k, hk, rfl, hW⟩ := hrel;have HW := zH hW;have ao := IntWalk.i64_in ((k : Int) + 1) (by omega);clear hW;by_cases hlt : k < 4
  ·obtain ⟨n, hn⟩ := HP.out.get hlt
   have an : ∀ W : World, (Instr.index 104 (.agg (ai ns).toArray) (.int .i64 (k : Int))).run Tryz.prog W = .ok (.agg (af n).toArray) W := fun W => Dh Tryz.underlying104 HP.out hn W
   have a1 := zH (HP.out.at hn);have a2 := zH (fb a1.out);have ae : Hid ((af n).toArray.size = 44) := zH (by rw [List.size_toArray, am a1.out]);have a8 := zH hn;clear hn
   go_upto_region 4 with (first | (refine wpList_store_row rfl 68 (.tmp 4) (.tmp 9) rfl wr.heap.size (af n).toArray rfl rfl 68 _ (heap_alloc_new wr _) a2.out (by rw [ae.out]; rfl) (fj n) ?_) | fail)
   refine (fun (k : ∀ W, Blk W wr.heap.size (af n) 68 → Below wr.heap.size wr W → Code.wp _ _ _ _ W) => k _ (ar wr _ (af n) 68).1 (ar wr _ (af n) 68).2) ?_;intro W5 hx5 hb5;obtain ⟨g4, ad⟩ : ∃ g, wr.heap.size = g := ⟨_, rfl⟩;have a6 := zH (HW.out.grown hb5);rw [ad] at hx5 ⊢;have aa := zH hx5;clear hx5 hb5 ad HW
   go_wp2_with (first | (refine aq (by rfl) (et a1.out aa.out rfl rfl) ?_) | fail)
   refine (zm n a1.out W5 (HT.out.grown a6.out.b)).mono ?_;rintro e w6 ⟨rfl, ab⟩;have a7 := zH (a6.out.grown ab);clear ab aa a6;cases hm : ij n
   ·obtain ⟨q, hq⟩ : ∃ q, zeroI = q := ⟨_, rfl⟩
    have a3 : q.OK := (by rw [← hq]; exact zeroI_ok);have aj := zH hq;have a0 := zH (a7.out.put (Lm HP.out k) hlt a3);rw [← hq, ← F5 a8.out hm, hq] at a0;have ak : Hid (w6.there w.heap.size (k * 44) (af q).toArray.size) := zH (a7.out.a.there _ _ (by rw [List.size_toArray, am a3, (Lm HP.out k).cells]; omega));have a5 := zH (fb a3);clear hq a3;have ag := zH hlt;clear hm
    go_wp2_with (first | (refine aq (by rfl) (Ro aj.out rfl) ?_) | (refine aq (by rfl) (Kh ag.out rfl rfl rfl) ?_) | (refine wpList_store_mid rfl 68 (.tmp 15) (.tmp 14) rfl w.heap.size (k * 44) (af q).toArray rfl rfl ak.out a5.out (fj q) ?_) | fail)
    go_roundw
    case rel => exact ⟨k + 1, by omega, by go_num, a0.out⟩
    case measure => simp [intOf]; omega
   ·have a0 : Hid (AlW (nk (k + 1) ns) w w6) := zH (by rw [P6 a8.out hm]; exact a7.out)
    clear hm
    go_wp2_with fail
    go_roundw
    case rel => exact ⟨k + 1, by omega, by go_num, a0.out⟩
    case measure => simp [intOf]; omega
  ·obtain rfl : k = 4 := by omega
   rw [P5 HP.out] at HW;have a4 := zH (z6 HP.out);have a2 := zH (fa a4.out);have a5 : Hid ((ai zeros4).toArray.size = (ai (gd ns)).toArray.size) := zH (by rw [zeros4_ok.size, a4.out.size]);have ah := zH (cn (gd ns));rw [show ((4 : Nat) : Int) = (4 : Int) from rfl];clear hlt hk
   go_wp2_with (first | (refine a9 rfl (dp a4.out HW.out.a rfl rfl) ?_) | (refine wpList_store_row rfl 104 (.tmp 2) (.tmp 17) rfl (w.heap.size + 1) (ai (gd ns)).toArray rfl rfl 104 _ HW.out.r a2.out a5.out ah.out ?_) | fail)
   exact bodyPost_ret (results_cell_row Tryz.results92 _ _ (w.heap.size + 1) 104 _ _ _ rfl (HW.out.r.row _) Tryz.underlying104 rfl a2.out) rfl ⟨rfl, cz HW.out.b (by omega) _⟩
theorem U3 {B B' : Nat} {v u : Value} {m : Bs} (h : OwnB w B v l) (hu : OwnB w B' u m) (hB : B ≤ w.heap.size) (hl : l.length + m.length ≤ 1000000) (ty : TypeId) :
  ∃ v' w', (Builtin.append_ #[29, 29] ty #[v, u]).run Tryz.prog w = .ok v' w' ∧ OwnB w' B v' (l ++ m) ∧ Below B w w' := by
 obtain ⟨a1, a0, e4, q1, q2, q3, q4, q5⟩ := OwnB.form hu;subst e4;exact lq (m := m) h hB hl q3 q4 ty
structure PuW (n : Ino) (w W : World) : Prop where
 a : Blk W w.heap.size (af n) 68
 b : Below w.heap.size w W
theorem PuW.grown (h : PuW n w W) (hb : Below W.heap.size W W') : PuW n w W' := ⟨h.a.below hb h.a.lt, h.b.trans (hb.mono h.b.size)⟩
theorem Ui (h : n.OK) (w : World) : PuW n w ((w.alloc (.cells (af n).toArray 68)).alloc (.cells #[.int .u8 (n.kind : Int), .int .u8 0] 5)) ∧ SrcA ((w.alloc (.cells (af n).toArray 68)).alloc (.cells #[.int .u8 (n.kind : Int), .int .u8 0] 5)) (some ⟨w.heap.size + 1, 0, none⟩) (leb n.kind 1 ++ [0#8]) := by
 have hb : Blk ((w.alloc (.cells (af n).toArray 68)).alloc (.cells #[.int .u8 (n.kind : Int), .int .u8 0] 5)) (w.heap.size + 1) ((leb n.kind 1 ++ [0#8]).map V8) 5 := Blk.new' _ _ _ _ _ (by simp) (by rw [vp h.kind]; rfl);exact ⟨⟨(Blk.new _ _ _).alloc _, ((Below.refl _ _).alloc (Nat.le_refl _) _).alloc (by simp) _⟩, fun _ => ⟨w.heap.size + 1, 0, rfl, hb.lt, fun j hj => hb.cell (by rw [Nat.zero_add, List.getElem?_map, List.getD_eq_getElem?_getD, List.getElem?_eq_getElem hj]; rfl)⟩⟩
theorem a0n (h : l.length = 72) (n : Int) (hn : n = 128) : k8 l n = l ++ List.replicate 56 0#8 := by subst hn; unfold k8; rw [h]; rfl
set_option maxRecDepth 100000 in
set_option maxHeartbeats 8000000 in
theorem Uj (n : Ino) (h : n.OK) (w : World) : Calls Tryz.prog 93 #[.agg (af n).toArray] w fun e w' => ∃ v, e = .returned v ∧ OwnB w' w.heap.size v (mq n) ∧ Below w.heap.size w w' := by
 have HN := zH h;have ak := zH (Blk.new w (af n) 68);have hs := Ui h w;have HX := zH hs.1; have HS := zH hs.2;have c0 := ak.out.cell (j := 0) rfl;generalize hPost : (fun e w' => ∃ v, e = Ending.returned v ∧ OwnB w' w.heap.size v (mq n) ∧ Below w.heap.size w w') = Post;have HP : Hid (∀ v w', OwnB w' w.heap.size v (mq n) → Below w.heap.size w w' → Post (.returned v) w') := zH fun v w' h1 h2 => by rw [← hPost]; exact ⟨v, rfl, h1, h2⟩
 clear h hs hPost;go_enter Tryz.func93, Tryz.ntmps93
 go_upto_region 1 with fail
 have c1 : ((w.alloc (.cells (af n).toArray 68)).alloc (.cells #[.int .u8 (n.kind : Int), .int .u8 0] 5)).cell? ⟨w.heap.size, 1, none⟩ = some (.int .u16 (n.links : Int)) := HX.out.a.cell rfl
 go_wp2_with fail
 obtain ⟨W1, al⟩ : ∃ W, (w.alloc (.cells (af n).toArray 68)).alloc (.cells #[.int .u8 (n.kind : Int), .int .u8 0] 5) = W := ⟨_, rfl⟩;rw [al] at HX HS c1 ⊢;have HU := zH (A8 (leb n.kind 1 ++ [0#8]) (some ⟨w.heap.size + 1, 0, none⟩) 2 n.links W1 (by simp [aw]) HN.out.links HS.out);clear al c0 ak;refine HU.out.mono ?_;rintro e W2 ⟨rfl, a4, am⟩;obtain ⟨l2, a3⟩ : ∃ l, leb n.kind 1 ++ [0#8] ++ leb n.links 2 = l := ⟨_, rfl⟩;have b1 := zH a3;have ag : l2.length = 4 := by rw [← a3]; simp [aw]
 rw [a3] at a4;have ai := zH (OwnB.form a4);have aa := zH (HX.out.grown am);obtain ⟨b6, b2, e2, q1, q2, q3, q4, q5⟩ := ai.out;have e3 : (leb n.kind 1 ++ [0#8]).length + 2 = 4 := by simp [aw]
 rw [e3] at e2 a4 ⊢;rw [ag] at e2;injection e2 with e5 e6 e7
 subst e5 e7;have a9 := zH q3; have a2 := zH ag;obtain ⟨g2, aq⟩ : ∃ g, W1.heap.size = g := ⟨_, rfl⟩;rw [aq] at a9 ⊢;clear a3 ag a4 am ai q1 q2 q3 q4 q5 e3 e6 aq c1 HX HS HU
 go_upto_region 2 with fail
 have a6 : Blk W2.drew w.heap.size (af n) 68 := aa.out.a.drew;have a1 := Fm l2 (some ⟨g2, 0, none⟩) 4 n.size W2.drew (by rw [a2.out]; omega) HN.out.size (a9.out.below (Below.refl _ _).drew (Nat.le_refl _));rw [a2.out] at a1;refine gS (.take 0 (.take 1 (.take 2 (.take 4 (.take 5 (.step 3 (.step 6 (.take 7 (.nil))))))))) (fun X => Blk X w.heap.size (af n) 68) (a6) ?_;refine gT (.slice (some ⟨g2, 0, none⟩) 4 4) ?_;refine gT (.pointer (some ⟨w.heap.size, 2, none⟩)) ?_;refine gU (.int .u32 (n.size : Int)) rfl (fun X hX => az Tryz.underlying24 rfl rfl (hX.cell (j := 2) rfl)) ?_;refine gT (.pointer (some ⟨w.heap.size, 3, none⟩)) ?_;refine gU (.agg (a8 n.root).toArray) rfl (fun X hX => qh HN.out hX rfl rfl) ?_
 refine b8 _ rfl (by rfl) 77 #[.slice (some ⟨g2, 0, none⟩) 4 4, .int .u32 (n.size : Int)] (fun X => by go_simp) (fun u X => u = .slice (some ⟨W2.drew.heap.size, 0, none⟩) 8 8 ∧ SrcA X (some ⟨W2.drew.heap.size, 0, none⟩) (l2 ++ leb n.size 4) ∧ Below W2.drew.heap.size W2.drew X) (a1.mono fun e X ⟨e1, e2, e3⟩ => ⟨_, e1, a6.below e3 a6.lt, rfl, by
  obtain ⟨sp, cp, e4, f1, f2, f3, f4, f5⟩ := OwnB.form e2;injection e4 with e5 e6 e7
  rw [e5]; exact f3, e3⟩) ?_
 rintro u W3 a7 ⟨rfl, ar, an⟩;refine ⟨fun X => Blk X w.heap.size (af n) 68, fun _ h => h, a7, ?_⟩; try simp only [pS]
 have a5 := A7 n.root HN.out.root (l2 ++ leb n.size 4) (some ⟨W2.drew.heap.size, 0, none⟩) 8 W3 (by rw [List.length_append, a2.out, aw]; omega) ar (fun h => by cases h);rw [show (l2 ++ leb n.size 4).length = 8 by rw [List.length_append, a2.out, aw]] at a5;obtain ⟨l4, ae⟩ : ∃ l, l2 ++ leb n.size 4 ++ g8 n.root = l := ⟨_, rfl⟩;rw [ae] at a5;refine b8 _ rfl (by rfl) 24 #[.slice (some ⟨W2.drew.heap.size, 0, none⟩) 8 8, .agg (a8 n.root).toArray] (fun X => by go_simp) (fun u X => OwnB X W3.heap.size u l4 ∧ Below W3.heap.size W3 X) (a5.mono fun e X ⟨v, e1, e2, e3⟩ => ⟨v, e1, a7.below e3 a7.lt, e2, e3⟩) ?_;rintro v4 W4 ay ⟨av, ao⟩;refine ⟨fun X => Blk X w.heap.size (af n) 68, fun _ h => h, ay, ?_⟩; try simp only [pS]
 refine gT (v4) ?_;refine au ?_;have b0 : PuW n w W4 := ((aa.out.grown (Below.refl _ _).drew).grown an).grown ao;have ah := zH ae;clear a6 a1 a7 ar an a5 ae ay ao;have ab := zH b0;have a0 : Hid (l4.length = 72) := zH (by rw [← ah.out, List.length_append, List.length_append, i4 HN.out.root, a2.out, aw]);have aj := zH (OwnB.form av);obtain ⟨b4, ad, e4, q1, q2, q3, q4, q5⟩ := aj.out;rw [a0.out] at e4;subst e4;have b5 := zH q3;have HF := zH (Er l4 b4 ad 128 W4 (by rw [a0.out]; omega) (by omega) q3);rw [a0.out, a0n a0.out 128 rfl] at HF;have b3 : IntKind.i64.wrap ((72 : Int) + 56) = 128 := by decide
 clear b0 av aj q1 q2 q3 q4 q5 a9 aa
 go_wp2_with fail
 refine HF.out.mono ?_;rintro e W5 ⟨v5, rfl, ax, ap⟩
 have HE := zH (HP.out v5 W5 (by
  rw [show mq n = l4 ++ List.replicate 56 0#8 by rw [← ah.out, ← b1.out]; simp [mq]]
  exact ax.mono ab.out.b.size) (ab.out.b.trans (ap.mono ab.out.b.size)))
 clear ax ap
 go_wp2_with fail
 first | exact HE.out | (go_ret; exact HE.out)
def yw (ns : List Ino) (w : World) (x : Ending) (w' : World) : Prop :=
 ((du ns = true ∧ ∃ v, x = .returned (.tuple #[v, .int .i64 0]) ∧ OwnB w' w.heap.size v (i9 ns)) ∨ (du ns = false ∧ x = .returned (.tuple #[.slice none 0 0, .int .i64 5]))) ∧ Below w.heap.size w w'
def Js (ns : List Ino) (w : World) (v i : Value) (wr : World) : Prop := ∃ k : Nat, k ≤ 4 ∧ i = .int .i64 (k : Int) ∧ OwnB wr w.heap.size v (i9 (ns.take k)) ∧ Below w.heap.size w wr
theorem Hy (w : World) (B : Nat) : OwnB w B (.slice none 0 0) [] := ⟨by simp, .inl ⟨rfl, rfl⟩⟩
set_option maxRecDepth 100000 in
set_option maxHeartbeats 8000000 in
theorem T3 (ns : List Ino) (h : BOK ns) (w : World) (hT : RTab w) : Calls Tryz.prog 70 #[.agg (ai ns).toArray] w (yw ns w) := by
 have HP := zH h; have HT := zH hT;have HB := zH (Blk.new w (ai ns) 104);have HW : Hid (Below w.heap.size w (w.alloc (.cells (ai ns).toArray 104))) := zH ((Below.refl _ _).alloc (Nat.le_refl _) _);generalize hPost : yw ns w = Post;have HQ : Hid (∀ x w', yw ns w x w' → Post x w') := zH fun x w' h => by rw [← hPost]; exact h
 clear h hT hPost;go_enter Tryz.func70, Tryz.ntmps70
 go_upto_region 1 with fail
 obtain ⟨G, hG⟩ : ∃ G, w.heap.size = G := ⟨_, rfl⟩;have HG := zH hG;rw [hG] at HB ⊢;generalize (w.alloc (.cells (ai ns).toArray 104)) = W at HB HW ⊢;clear hG;have a3 : Blk W.drew G (ai ns) 104 := HB.out.drew;have ad := xp ns HP.out W.drew ((HT.out.grown HW.out).grown (Below.refl _ _).drew);obtain ⟨eb, aj⟩ : ∃ b, decide (ns = gd ns) = b := ⟨_, rfl⟩;have a5 := zH aj;have al := zH (z6 HP.out);clear aj;refine gS (.take 0 (.take 1 (.step 2 (.take 3 (.nil))))) (fun X => Blk X G (ai ns) 104) (a3) ?_;refine gU (.agg (ai ns).toArray) rfl (fun X hX => dp HP.out hX rfl rfl) ?_;refine gU (.agg (ai ns).toArray) rfl (fun X hX => dp HP.out hX rfl rfl) ?_;refine b8 _ rfl (by rfl) 92 #[.agg (ai ns).toArray] (fun X => by go_simp) (fun u X => u = .agg (ai (gd ns)).toArray ∧ Below W.drew.heap.size W.drew X) (ad.mono fun e X ⟨e1, e2⟩ => ⟨_, e1, a3.below e2 a3.lt, rfl, e2⟩) ?_;rintro u W2 a8 ⟨rfl, ae⟩;refine ⟨fun X => Blk X G (ai ns) 104, fun _ h => h, a8, ?_⟩; try simp only [pS]
 refine gU (.bool (!eb)) rfl (fun X hX => (Kn HP.out al.out rfl rfl rfl).trans (by rw [a5.out])) ?_;refine au ?_;have a6 : Hid (Below w.heap.size w W2) := zH (HW.out.trans (((Below.refl _ _).drew.trans ae).mono HW.out.size));have aa := zH a8;clear a3 ad a8 ae HB HW;cases eb
 ·have hm : du ns = false := by
   have h1 := of_decide_eq_false a5.out;rw [tx] at h1;simpa using h1
  have HE := zH (HQ.out _ _ ⟨.inr ⟨hm, rfl⟩, a6.out⟩);clear hm
  go_wp2_with fail
  exact HE.out
 ·have hm : du ns = true := (tx ns).1 (of_decide_eq_true a5.out)
  have HM := zH hm;clear hm
  go_wp2_with (first | (refine a9 rfl (dp HP.out aa.out rfl rfl) ?_) | fail)
  have HR : Hid (Js ns w (.slice none 0 0) (.int .i64 0) W2) := zH ⟨0, by omega, rfl, Hy _ _, a6.out⟩;clear aa a6;go_loopw [4, 12] (fun v i wr => Js ns w v i wr) (fun _ i _ => 4 - (intOf i).toNat)
  case atStart => exact HR.out
  case round =>
   clear HR;obtain ⟨k, hk, rfl, hO, hB⟩ := hrel;obtain ⟨b2, ay, e, -⟩ := OwnB.form hO;rw [zu HP.out hk] at e;subst e;have HB := zH hB;have HO := zH hO;clear hB hO;have b5 := IntWalk.i64_in ((k : Int) + 1) (by omega);by_cases hlt : k < 4
   ·obtain ⟨n, hn⟩ := HP.out.get hlt
    have b1 : ∀ W : World, (Instr.index 104 (.agg (ai ns).toArray) (.int .i64 (k : Int))).run Tryz.prog W = .ok (.agg (af n).toArray) W := fun W => Dh Tryz.underlying104 HP.out hn W
    have a1 := zH (HP.out.at hn);have ax := zH (fb a1.out);have ap : Hid ((af n).toArray.size = 44) := zH (by rw [List.size_toArray, am a1.out]);have an := zH hn;clear hn
    go_upto_region 7 with (first | (refine wpList_store_row rfl 68 (.tmp 6) (.tmp 14) rfl wr.heap.size (af n).toArray rfl rfl 68 _ (heap_alloc_new wr _) ax.out (by rw [ap.out]; rfl) (fj n) ?_) | fail)
    refine (fun (k : ∀ W, Blk W wr.heap.size (af n) 68 → Below wr.heap.size wr W → Code.wp _ _ _ _ W) => k _ (ar wr _ (af n) 68).1 (ar wr _ (af n) 68).2) ?_;intro W5 hx5 hb5;have ab := zH hx5;have a4 := zH hb5;clear hx5 hb5
    go_wp2_with (first | (refine aq (by rfl) (et a1.out ab.out rfl rfl) ?_) | fail)
    refine (Uj n a1.out W5).mono ?_;rintro e w6 ⟨v6, rfl, a7, ag⟩;have a0 : Below wr.heap.size wr w6 := a4.out.trans (ag.mono a4.out.size);obtain ⟨v7, w7, ak, a2, ah⟩ := U3 (HO.out.below a0 (Nat.le_refl _)) a7 (Nat.le_trans HB.out.size a0.size) (by rw [zu HP.out hk, qm a1.out]; omega) 29;rw [← Mf an.out] at a2
    obtain ⟨b4, n7, b0, rfl⟩ : ∃ sp n c, v7 = .slice sp n c := by
     obtain ⟨sp, c, e, _⟩ := OwnB.form a2;exact ⟨sp, _, c, e⟩
    obtain ⟨b3, n6, az, rfl⟩ : ∃ sp n c, v6 = .slice sp n c := by
     obtain ⟨sp, c, e, _⟩ := OwnB.form a7;exact ⟨sp, _, c, e⟩
    have aw := zH ak; have av := zH a2;have ao : Hid (Below w.heap.size w w7) := zH ((HB.out.trans (a0.mono HB.out.size)).trans ah);clear a0 ak a2 ah a7 ag ab a4 HO HB
    go_wp2_with (first | (at_builtin; refine a9 rfl (ia rfl rfl rfl aw.out) ?_) | fail)
    go_roundw
    case rel => exact ⟨k + 1, by omega, by go_num, av.out, ao.out⟩
    case measure => simp [intOf]; omega
   ·obtain rfl : k = 4 := by omega
    rw [List.take_of_length_le (by rw [HP.out.len]; omega)] at HO;rw [show ((4 : Nat) : Int) = (4 : Int) from rfl];clear hlt hk
    go_wp2_with fail
    exact HQ.out _ _ ⟨.inl ⟨HM.out, _, rfl, HO.out⟩, HB.out⟩
def C3 (l : Bs) (e : Nat) : Prop := e ≠ 0 ∨ l.length < 128 ∨ pm l = false
def Ri (l : Bs) (e k : Nat) (q : Prop) (rest : Bs) (ee : Nat) : Prop := (ee = 0 ∧ e = 0 ∧ k ≤ l.length ∧ rest = l.drop k ∧ q) ∨ (ee ≠ 0 ∧ C3 l e ∧ rest.length ≤ l.length)
theorem Ri.start (l : Bs) (e : Nat) : Ri l e 0 True l e := by
 by_cases h : e = 0
 ·exact .inl ⟨h, h, by omega, by simp, trivial⟩
 ·exact .inr ⟨h, .inl h, Nat.le_refl _⟩
theorem Ri.len {q : Prop} (h : Ri l e k q rest ee) : rest.length ≤ l.length := by
 rcases h with ⟨_, _, _, rfl, _⟩ | ⟨_, _, h⟩
 ·simp
 ·exact h
theorem Ri.next {q : Prop} (h : Ri l e k q rest ee) (n : Nat) (hn : 0 < n) (hk : k + n ≤ 128) : Ri l e (k + n) q (ap rest ee n).2.1 (ap rest ee n).2.2 ∧ ((ap rest ee n).2.2 = 0 → (ap rest ee n).1 = (l.drop k).take n ∧ ee = 0) ∧ ((ap rest ee n).1.length = n ∨ (ap rest ee n).1 = []) := by
 rcases h with ⟨rfl, rfl, h2, rfl, hq⟩ | ⟨h1, h2, h3⟩
 ·by_cases hs : l.length - k < n
  ·have e1 : ap (l.drop k) 0 n = ([], l.drop k, 4) := by
    unfold ap;rw [if_neg (by omega), if_pos (by rw [List.length_drop]; omega)]
   rw [e1];exact ⟨.inr ⟨by simp, .inr (.inl (by omega)), by simp⟩, fun h => by simp at h, .inr rfl⟩
  ·have e1 : ap (l.drop k) 0 n = ((l.drop k).take n, (l.drop k).drop n, 0) := by
    unfold ap;rw [if_neg (by omega), if_neg (by rw [List.length_drop]; omega), Int.toNat_natCast]
   rw [e1];exact ⟨.inl ⟨rfl, rfl, by omega, by rw [List.drop_drop], hq⟩, fun _ => ⟨rfl, rfl⟩, .inl (by simp; omega)⟩
 ·have e1 : ap rest ee n = ([], rest, ee) := by
   unfold ap;rw [if_pos (.inl h1)]
  rw [e1];exact ⟨.inr ⟨h1, h2, h3⟩, fun h => absurd h h1, .inr rfl⟩
theorem Ri.num {q : Prop} (h : Ri l e k q rest ee) (n : Nat) (hn : 0 < n) (hk : k + n ≤ 128) : ∃ x rest' ee', val (ap rest ee n).1 = x ∧ (ap rest ee n).2.1 = rest' ∧ (ap rest ee n).2.2 = ee' ∧ Ri l e (k + n) q rest' ee' ∧ x < 2 ^ (8 * n) ∧ (ee' = 0 → x = val ((l.drop k).take n) ∧ ee = 0) := by
 obtain ⟨h1, h2, h3⟩ := h.next n hn hk;refine ⟨_, _, _, rfl, rfl, rfl, h1, ?_, fun h0 => by rw [(h2 h0).1]; exact ⟨rfl, (h2 h0).2⟩⟩;refine Nat.lt_of_lt_of_le (pc _) (Nat.pow_le_pow_right (by omega) ?_);rcases h3 with h3 | h3 <;> simp [h3]
theorem Ri.nou {q : Prop} (h : Ri l e k q rest ee) (n : Nat) (hn : 0 < n) (hk : k + n ≤ 128) (hz : ((l.drop k).take n).all (· == 0#8) = false → pm l = false) : ∃ rest' ee', (gi rest ee n).1 = rest' ∧ (gi rest ee n).2 = ee' ∧ Ri l e (k + n) (q ∧ ((l.drop k).take n).all (· == 0#8) = true) rest' ee' ∧ (ee' = 0 → ee = 0) := by
 obtain ⟨h1, h2, h3⟩ := h.next n hn hk;refine ⟨_, _, rfl, rfl, ?_, ?_⟩
 ·unfold gi
  cases ha : (ap rest ee n).1.all (· == 0#8)
  ·simp only [Bool.false_eq_true, if_false]
   rcases h1 with ⟨a1, a2, a3, a4, a5⟩ | ⟨a1, a2, a3⟩
   ·rw [(h2 a1).1] at ha
    exact .inr ⟨by omega, .inr (.inr (hz ha)), by rw [a4]; simp⟩
   ·exact .inr ⟨by omega, a2, a3⟩
  ·simp only [if_true]
   rcases h1 with ⟨a1, a2, a3, a4, a5⟩ | h1
   ·rw [(h2 a1).1] at ha
    exact .inl ⟨a1, a2, a3, a4, a5, ha⟩
   ·exact .inr h1
 ·unfold gi
  intro h0;cases ha : (ap rest ee n).1.all (· == 0#8)
  ·rw [ha] at h0; simp at h0
  ·rw [ha] at h0; simp only [if_true] at h0; exact (h2 h0).2
theorem P3 (h : ij n = true) : (eqP n.root zeroP || fz n.root) = true := by
 unfold ij at h;rw [Bool.or_eq_true] at h;rcases h with h | h
 ·rw [ir.1 h]; rfl
 ·simp only [Bool.and_eq_true] at h
  have h2 := h.2;unfold me at h2;cases hz : eqP n.root zeroP
  ·rw [hz] at h2
   simp only [Bool.false_or, Bool.and_eq_true] at h2;simp [h2.2]
  ·rfl
theorem Ri.ptr {q : Prop} (h : Ri l e 8 q rest ee) (hr : cj rest ee = 0 → rest' = rest.drop 64) (hl : rest'.length ≤ rest.length) : Ri l e 72 (q ∧ jo ((l.drop 8).take 64) = true) rest' (cj rest ee) ∧ (cj rest ee = 0 → dx rest ee = pt (l.drop 8) ∧ ee = 0) := by
 rcases h with ⟨rfl, rfl, h2, rfl, hq⟩ | ⟨h1, h2, h3⟩
 ·by_cases hs : l.length < 72
  ·have e1 : cj (l.drop 8) 0 = 4 := by unfold cj; rw [if_neg (by omega), if_pos (by rw [List.length_drop]; omega)]
   rw [e1];exact ⟨.inr ⟨by omega, .inr (.inl (by omega)), Nat.le_trans hl (by simp)⟩, fun h => by simp at h⟩
  ·have e1 : cj (l.drop 8) 0 = if jo ((l.drop 8).take 64) && (eqP (pt (l.drop 8)) zeroP || fz (pt (l.drop 8))) then 0 else 5 := by
    unfold cj; rw [if_neg (by omega), if_neg (by rw [List.length_drop]; omega)]
   have e2 : cj (l.drop 8) 0 = 0 → dx (l.drop 8) 0 = pt (l.drop 8) := fun h => by unfold dx; rw [if_pos h]
   by_cases hc : (jo ((l.drop 8).take 64) && (eqP (pt (l.drop 8)) zeroP || fz (pt (l.drop 8)))) = true
   ·rw [if_pos hc] at e1
    simp only [Bool.and_eq_true] at hc;refine ⟨?_, fun h => ⟨e2 h, rfl⟩⟩;rw [e1];exact .inl ⟨rfl, rfl, by omega, by rw [hr e1, List.drop_drop], hq, hc.1⟩
   ·rw [if_neg hc] at e1
    have hf : pm l = false := by
     rw [Bool.eq_false_iff];intro hf;apply hc;unfold pm jh at hf;simp only [Bool.and_eq_true] at hf;have h5 := P3 hf.2;rw [Bool.and_eq_true];exact ⟨hf.1.1.2, h5⟩
    rw [e1];exact ⟨.inr ⟨by omega, .inr (.inr hf), Nat.le_trans hl (by simp)⟩, fun h => by simp at h⟩
 ·have e1 : cj rest ee = ee := by unfold cj; rw [if_pos h1]
  rw [e1];exact ⟨.inr ⟨h1, h2, Nat.le_trans hl h3⟩, fun h => absurd h h1⟩
structure TiW (w : World) (H : Nat) (K : Nat → Prop) (n : Ino) (rest : Bs) (ee : Nat) (W : World) : Prop where
 res : Blk W w.heap.size (af zeroI) 68
 an : Blk W (w.heap.size + 1) (af n) 68
 rd : RdAt W H K rest ee
 bf : ButFor H w W
 hH : H < w.heap.size
 hK : ∀ g, K g → g < w.heap.size
theorem TiW.start (hR : RdAt w H K l e) (hK : ∀ g, K g → g < w.heap.size) (z : Array Value) (hz : z = (af zeroI).toArray) : TiW w H K zeroI l e ((w.alloc (.cells z 68)).alloc (.cells z 68)) := by
 subst hz;have hb : Below w.heap.size w ((w.alloc (.cells (af zeroI).toArray 68)).alloc (.cells (af zeroI).toArray 68)) := ((Below.refl _ _).alloc (Nat.le_refl _) _).alloc (by simp) _;exact ⟨(Blk.new _ _ _).alloc _, Blk.new' _ _ _ _ _ (by simp) rfl, hR.below hb (Nat.le_refl _), ButFor.of_below hb, hR.lt, hK⟩
theorem TiW.read {ee' : Nat} (h : TiW w H K n rest ee W) (hr : RdAt W' H K rest' ee') (hb : ButFor H W W') : TiW w H K n rest' ee' W' :=
 have h1 := h.hH
 ⟨hb.blk h.res (by omega), hb.blk h.an (by omega), hr, h.bf.trans hb, h.hH, h.hK⟩
theorem TiW.store {n' : Ino} (h : TiW w H K n rest ee W) (hr : Blk W' (w.heap.size + 1) (af n') 68) (hb : ButFor (w.heap.size + 1) W W') : TiW w H K n' rest ee W' :=
 have h1 := h.hH
 ⟨hb.blk h.res (by omega), hr, h.rd.other hb (by omega) (fun hk => by have := h.hK _ hk; omega), ⟨hb.os.trans h.bf.os, hb.tape.trans h.bf.tape, hb.output.trans h.bf.output, Nat.le_trans h.bf.size hb.size, fun k hk hn => (hb.block k (Nat.lt_of_lt_of_le hk h.bf.size) (by omega)).trans (h.bf.block k hk hn)⟩, h1, h.hK⟩
theorem TiW.result (h : TiW w H K n rest ee W) (cs : Array Value) : RdAt (W.setRow w.heap.size cs) H K rest ee ∧ ButFor H w (W.setRow w.heap.size cs) := by
 have h1 := h.hH;refine ⟨h.rd.other (J := w.heap.size) (te cs) (by omega) (fun hk => by have := h.hK _ hk; omega), ?_⟩;exact ⟨h.bf.os, h.bf.tape, h.bf.output, by simpa using h.bf.size, fun k hk hn => (setRow_other W w.heap.size k cs (by omega)).trans (h.bf.block k hk hn)⟩
theorem TiW.root (h : TiW w H K n rest ee W) (hn : n.OK) {p : Pt} (hp : p.OK) : TiW w H K { n with root := p } rest ee (W.setCells (w.heap.size + 1) 3 (a8 p)) := by
 have h1 := fg (w.heap.size + 1) 68 (a8 p) 3 W _ h.an (by rw [am hn, aa hp]; omega)
 have e : (af n).take 3 ++ a8 p ++ (af n).drop (3 + (a8 p).length) = af { n with root := p } := by
  unfold af;rw [List.take_left' (by rfl), List.drop_of_length_le (by rw [List.length_append, aa hp, aa hn.root]; simp [m2]), List.append_nil];rfl
 rw [e] at h1;exact h.store h1 (ButFor.sets _ _ _ (ButFor.refl _ _))
structure TkIPost (l : Bs) (e H : Nat) (K : Nat → Prop) (w : World) (x : Ending) (w' : World) : Prop where
 ok : ∃ n rest ee, x = .returned (.agg (af n).toArray) ∧ n.OK ∧ RdAt w' H K rest ee ∧ rest.length ≤ l.length ∧ ((ee = 0 ∧ e = 0 ∧ 128 ≤ l.length ∧ rest = l.drop 128 ∧ n = ino l ∧ jh l = true) ∨ (ee ≠ 0 ∧ C3 l e))
 bf : ButFor H w w'
theorem Es (h : jh l = false) : pm l = false := by unfold pm; rw [h]; rfl
set_option maxRecDepth 100000 in
set_option maxHeartbeats 8000000 in
theorem Q5 (l : Bs) (e H : Nat) (w : World) (hR : RdAt w H K l e) (hK : ∀ g, K g → g < w.heap.size) (hl : l.length ≤ 100000) (hT : RTab w) (hg : 0 ≠ H) :
  Calls Tryz.prog 100 #[.pointer (some ⟨H, 0, none⟩)] w (TkIPost l e H K w) := by
 have HL := zH hl; have HT := zH hT; have bj := zH hg;have bq : Hid (∀ z, z = (af zeroI).toArray → TiW w H K zeroI l e ((w.alloc (.cells z 68)).alloc (.cells z 68))) := zH (fun z hz => TiW.start hR hK z hz);have bm := zH (Ri.start l e);have c9 := zH (am zeroI_ok);generalize hPost : TkIPost l e H K w = Post;have HQ : Hid (∀ x w', TkIPost l e H K w x w' → Post x w') := zH fun x w' h => by rw [← hPost]; exact h
 clear hR hK hl hT hg hPost;go_enter Tryz.func100, Tryz.ntmps100
 go_upto_region 2 with fail
 refine (fun (k : ∀ W, TiW w H K zeroI l e W → Code.wp _ _ _ _ W) => k _ (bq.out _ rfl)) ?_;intro W0 hw;have b8 := zH hw;clear hw bq
 go_wp2_with fail
 refine (Dg H l e W0 b8.out.rd).mono ?_;intro x0 W1 hh;obtain ⟨a, r1, e1, q1, q2, q3, q4, q5, q6⟩ := bm.out.num 1 (by omega) (by omega);obtain ⟨rfl, q8, q9⟩ := ii hh q1 q2 q3;have ar := b8.out.read q8 q9;obtain ⟨n1, ax⟩ : ∃ n : Ino, { zeroI with kind := a } = n := ⟨_, rfl⟩;have a0 : Hid n1.OK := zH (by rw [← ax]; exact ⟨q5, zeroI_ok.links, zeroI_ok.size, zeroI_ok.root⟩);have c1 : TiW w H K n1 r1 e1 (W1.setCell ⟨w.heap.size + 1, 0, none⟩ (.int .u8 (a : Int))) := ar.store (by rw [← ax]; exact ar.an.set 0 (.int .u8 (a : Int))) ((ButFor.refl _ _).set _ _);have av := zH c1;have a9 := zH ax;have b5 := zH q4;have bs : Hid (e1 = 0 → a = (ino l).kind ∧ e = 0) := zH q6;obtain ⟨y0, cf⟩ := ar.an.has 0 (by rw [c9.out]; omega);have ca := ar.an.free 0;clear hh q1 q2 q3 q4 q5 q6 q8 q9 b8 bm ar c1 ax
 go_wp2_with fail
 generalize (W1.setCell ⟨w.heap.size + 1, 0, none⟩ (.int .u8 (a : Int))) = V1 at av ⊢;clear cf ca;refine (qq H r1 e1 1 V1 (Nat.le_trans b5.out.len HL.out) av.out.rd).mono ?_;obtain ⟨r2, e2, t1, t2, t3, t4⟩ := b5.out.nou 1 (by omega) (by omega) (fun hz => Es (by unfold jh; rw [hz]; rfl));rw [show ((1 : Nat) : Int) = (1 : Int) from rfl] at t1 t2;rw [t1, t2];rintro x W2 ⟨rfl, ak, ae⟩;have b9 := zH (av.out.read ak ae);have bn := zH t3;have bt : Hid (e2 = 0 → e1 = 0) := zH t4;clear t1 t2 t3 t4 ak ae av b5
 go_wp2_with fail
 refine (Ae H r2 e2 W2 b9.out.rd).mono ?_;intro x3 W3 hh;obtain ⟨b, r3, e3, q1, q2, q3, q4, q5, q6⟩ := bn.out.num 2 (by omega) (by omega);obtain ⟨rfl, q8, q9⟩ := ii hh q1 q2 q3;have ba := zH (b9.out.read q8 q9);have bo := zH q4;have bi := zH q5;have bu : Hid (e3 = 0 → b = (ino l).links ∧ e2 = 0) := zH q6;clear hh q1 q2 q3 q4 q5 q6 q8 q9 b9 bn
 go_wp2_with fail
 refine (Fu H r3 e3 W3 ba.out.rd).mono ?_;intro x4 W4 hh;obtain ⟨c, r4, e4, q1, q2, q3, q4, q5, q6⟩ := bo.out.num 4 (by omega) (by omega);obtain ⟨rfl, q8, q9⟩ := ii hh q1 q2 q3;have au := ba.out.read q8 q9;have b6 := zH q4;have bv : Hid (e4 = 0 → c = (ino l).size ∧ e3 = 0) := zH q6;obtain ⟨n4, ay⟩ : ∃ n : Ino, { n1 with links := b, size := c } = n := ⟨_, rfl⟩;have a7 : Hid n4.OK := zH (by rw [← ay]; exact ⟨a0.out.kind, bi.out, q5, a0.out.root⟩);have ap := au.store (n' := { n1 with links := b }) (au.an.set 1 (.int .u16 (b : Int))) ((ButFor.refl _ _).set _ _);have c2 : TiW w H K n4 r4 e4 ((W4.setCell ⟨w.heap.size + 1, 1, none⟩ (.int .u16 (b : Int))).setCell ⟨w.heap.size + 1, 2, none⟩ (.int .u32 (c : Int))) := ap.store (by rw [← ay]; exact ap.an.set 2 (.int .u32 (c : Int))) ((ButFor.refl _ _).set _ _);have a5 := zH c2;have ab := zH ay;have ce := am a0.out;obtain ⟨y1, cg⟩ := au.an.has 1 (by omega);have cb := au.an.free 1;have ai : ({ n1 with links := b } : Ino).OK := ⟨a0.out.kind, bi.out, a0.out.size, a0.out.root⟩;obtain ⟨y2, ch⟩ := ap.an.has 2 (by rw [am ai]; omega);have cd := ap.an.free 2;clear hh q1 q2 q3 q4 q5 q6 q8 q9 ba bo au ap c2 ay ce ai a0
 go_wp2_with fail
 generalize ((W4.setCell ⟨w.heap.size + 1, 1, none⟩ (.int .u16 (b : Int))).setCell ⟨w.heap.size + 1, 2, none⟩ (.int .u32 (c : Int))) = V4 at a5 ⊢;clear cg cb ch cd;have bx : RTab V4 := HT.out.of_heap (a5.out.bf.block _ HT.out.lt bj.out);refine (xz r4 e4 H V4 a5.out.rd (fun g hg => Nat.lt_of_lt_of_le (a5.out.hK g hg) a5.out.bf.size) (Nat.le_trans b6.out.len HL.out) bx bj.out).mono ?_;rintro x5 W5 ⟨rfl, ⟨r5, a6, c0, ao⟩, ag⟩;obtain ⟨t3, t4⟩ := b6.out.ptr c0 ao;obtain ⟨e5, bz⟩ : ∃ x, cj r4 e4 = x := ⟨_, rfl⟩;obtain ⟨p, hp⟩ : ∃ x, dx r4 e4 = x := ⟨_, rfl⟩;have aj : p.OK := by rw [← hp]; exact o4 _ _
 rw [bz] at t3 t4 a6;rw [hp] at t4 ⊢;have bd := a5.out.read a6 ag;have c3 := bd.root a7.out aj;have c7 : Hid (W5.there (w.heap.size + 1) 3 (a8 p).toArray.size) := zH (bd.an.there _ _ (by rw [List.size_toArray, aa aj, am a7.out]; omega));have c6 := zH (bh aj);have aw := zH c3; have bl := zH aj; have b7 := zH t3;have bw : Hid (e5 = 0 → p = pt (l.drop 8) ∧ e4 = 0) := zH t4;clear bx a6 c0 ao ag t3 t4 bz hp aj bd c3 a5 b6
 go_wp2_with (first | (refine wpList_store_mid rfl 28 (.tmp 17) (.tmp 16) rfl (w.heap.size + 1) 3 (a8 p).toArray rfl rfl c7.out c6.out (bb p) ?_) | fail)
 generalize (W5.setCells (w.heap.size + 1) 3 (a8 p)) = V5 at aw ⊢;refine (qq H r5 e5 56 V5 (Nat.le_trans b7.out.len HL.out) aw.out.rd).mono ?_;obtain ⟨r6, e6, t1, t2, t3, t4⟩ := b7.out.nou 56 (by omega) (by omega) (fun hz => Es (by unfold jh; rw [hz]; simp));rw [show ((56 : Nat) : Int) = (56 : Int) from rfl] at t1 t2;rw [t1, t2];rintro x W6 ⟨rfl, al, ah⟩;have bg := aw.out.read al ah;obtain ⟨n6, az⟩ : ∃ n : Ino, { n4 with root := p } = n := ⟨_, rfl⟩;have b0 : n6.OK := by rw [← az]; exact ⟨a7.out.kind, a7.out.links, a7.out.size, bl.out⟩
 rw [az] at bg;have bc := zH bg; have bk := zH b0;have c8 : Hid ((af zeroI).toArray.size = (af n6).toArray.size) := zH (by rw [List.size_toArray, List.size_toArray, am b0, am zeroI_ok]);have br := zH (fb b0)
 have b4 : Hid ((e6 = 0 ∧ e = 0 ∧ 128 ≤ l.length ∧ r6 = l.drop 128 ∧ n6 = ino l ∧ jh l = true) ∨ (e6 ≠ 0 ∧ C3 l e)) := zH (by
  rcases t3 with ⟨a1, a2, a3, a4, ⟨⟨⟨-, b1⟩, b2⟩, b3⟩⟩ | ⟨a1, a2, -⟩
  ·obtain ⟨v4, w4⟩ := bw.out (t4 a1)
   obtain ⟨v3, w3⟩ := bv.out w4;obtain ⟨v2, w2⟩ := bu.out w3;obtain ⟨v1, w1⟩ := bs.out (bt.out w2);refine .inl ⟨a1, a2, a3, a4, ?_, ?_⟩
   ·rw [← az, ← ab.out, ← a9.out, v4, v3, v2, v1]; rfl
   ·unfold jh; rw [b1, b2, b3]; rfl
  ·exact .inr ⟨a1, a2⟩)
 have c5 := zH t3.len;clear t1 t2 t3 t4 al ah bg az b0 aw b7 bs bt bu bv bw a9 ab a7 bl;have ad := zH (bc.out.result (af n6).toArray);have bp := zH bc.out.res;have c4 := zH bc.out.an
 go_wp2_with (first | (refine aq (by rfl) (et bk.out c4.out rfl rfl) ?_) | (refine wpList_store_row rfl 68 (.tmp 2) (.tmp 20) rfl w.heap.size (af n6).toArray rfl rfl 68 _ bp.out br.out c8.out (fj n6) ?_) | fail)
 exact bodyPost_ret (results_cell_row Tryz.results100 _ _ w.heap.size 68 _ _ _ rfl (bp.out.row _) Tryz.underlying68 rfl br.out) rfl (HQ.out _ _ ⟨⟨n6, r6, e6, rfl, bk.out, ad.out.1, c5.out, b4.out⟩, ad.out.2⟩)
end Go.Proofs.YtjgjohdeeeoeoaaGreatDoor
