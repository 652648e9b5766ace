/- The law's tells. -/
import Derived.Test.YtjgjohdeeeoeoaaGreatDoorM41
import Derived.Test.YtjgjohdeeeoeoaaGreatDoorM40
set_option linter.all false
namespace Go.Proofs.YtjgjohdeeeoeoaaGreatDoor
open Go.RowKit
attribute [local go_sem] Oper.semAt_some
variable {z : Array Value} {K b bs : Bxs} {h0 hv : List Ino} {l : List Itm} {cs xs : List Value} {D c cap g gR k n off : Nat} {s : Sh} {ty : TypeId} {u v v' : Value} {X w' : World}
theorem N4 (hl : hv.length = 256) (ho : ∀ n ∈ hv, n.OK) : ∀ x ∈ lh hv, Itm.OK x := by
 rw [zq hl];intro x hx;obtain ⟨i, hi, h2⟩ := List.mem_flatMap.1 hx;have hi := List.mem_range.1 hi;unfold uk at h2;split at h2
 ·simp at h2
  subst h2;refine ⟨by show i < _; omega, ?_⟩;rw [List.getElem?_eq_getElem (by omega)];exact ho _ (List.getElem_mem _)
 ·simp at h2
theorem S8 {ρ : Operand → Value} {o : Oper} {a b : Operand} {w : World} {x : Itm} (hx : x.2.OK) (ho : o.op = .binOp .neq 76 a b 76) (ha : ρ a = .agg (tcI x).toArray) (hb : ρ b = .agg (tcI x).toArray) :
  (execOp ρ o).run Tryz.prog w = .ok (.value (.bool false)) w := by
 have h' : (Op.equal 76 (.agg (tcI x).toArray) (.agg (tcI x).toArray)).run Tryz.prog w = .ok true w := (Fy 9995 hx hx w).trans (by rw [ir.2 rfl]; simp)
 have a0 : (binOp .neq 76 (.agg (tcI x).toArray) (.agg (tcI x).toArray)).run Tryz.prog w = .ok (.bool false) w := by
  show ((do pure (.bool (!(← Op.equal 76 (.agg (tcI x).toArray) (.agg (tcI x).toArray)))) : Sem Value)).run Tryz.prog w = _;simp only [Sem.run_bind, h', Result.andThen_ok, Sem.run_pure, Bool.not_true]
 have hg : (eqGuard .neq 76 a b (.agg (tcI x).toArray) (.agg (tcI x).toArray)).run Tryz.prog w = .ok () w := by
  unfold eqGuard;go_simp
 unfold execOp;simp only [ho, ha, hb, Sem.run_bind, hg, a0, Result.andThen_ok, Sem.run_pure]
theorem S2 {ρ : Operand → Value} {o : Oper} {x : Operand} {w : World} {l : Itm} (hl : l.2.OK) (hr : w.rangeAt g off (tcI l)) (ho : o.op = .load 76 x) (hx : ρ x = .pointer (some ⟨g, off, none⟩)) : (execOp ρ o).run Tryz.prog w = .ok (.value (.agg (tcI l).toArray)) w :=
 c6 (ty := 76) (cs := tcI l) ho hx hr Tryz.underlying76 rfl (by rw [wv, bw hl])
theorem Ry {ρ : Operand → Value} {o : Oper} {x y : Operand} {w : World} (ho : o.op = .indexAddr 55 x y) (hx : ρ x = .slice (some ⟨g, 0, none⟩) n cap) (hy : ρ y = .int .i64 (k : Int)) (hk : k < n ∧ n ≤ cap) : (execOp ρ o).run Tryz.prog w = .ok (.value (.pointer (some ⟨g, k * 45, none⟩))) w := by
 have h := uc (w := w) ho hx hy hk;rw [Nat.zero_add] at h;exact h
def Gx (w : World) (D : Nat) (s : Sh) (bs : Bxs) (hv : List Ino) (m : Nat) (e : Ending) (Y : World) : Prop :=
 ∃ s' rs, e = .returned (.tuple #[.int .i64 (vy hv : Int), .bool true]) ∧ More s s' rs ∧ Fr w D s' bs Y ∧ Lim m s'
set_option maxRecDepth 100000 in
set_option maxHeartbeats 16000000 in
theorem Ar {w : World} {root : Pt} {hh mids : List Pt} (hF : Fr w D s bs X) (ht : IsTab s.blocks root hv hh mids) (hbad : s.bad = []) (hbk : BlkOK s) (gh ch : Nat) (hch : 256 ≤ ch) (hav : ∀ s' bs' Y, Fr w D s' bs' Y → (∀ y ∈ bs, y ∈ bs') → Jr Y gh hv) {m : Nat} (hk : Lim m s) (hm : m + 20000 < 100000000) :
  Calls Tryz.prog 18 #[.pointer (some ⟨D, 0, none⟩), .agg (a8 root).toArray, .slice (some ⟨gh, 0, none⟩) 256 ch] X (Gx w D s bs hv (m + 173 + 74 * 255)) := by
 have HL := zH ht.len; have c3 := zH ht.ok; have HR := zH ht.root; have HT := zH ht; have bu := zH hbad; have bv := zH hbk; have HV := zH hav; have bw := zH hch; have HM := zH hm;have ah := zH (hF.add ((Below.refl _ _).alloc (Nat.le_refl _) (.cells (a8 root).toArray 28)) (Nat.le_refl _) (Blk.new X (a8 root) 28));have a4 := Ky (w := w) (D := D) (bs := (X.heap.size, a8 root, 28) :: bs) ah.out ht hbad hk (by omega) hbk;rw [ht.blocks] at a4;have a0 := zH a4;have a2 := zH (N4 ht.len ht.ok);generalize hPost : Gx w D s bs hv (m + 173 + 74 * 255) = Post;have c4 : Hid (∀ e Y, Gx w D s bs hv (m + 173 + 74 * 255) e Y → Post e Y) := zH fun e Y hh => by rw [← hPost]; exact hh
 obtain ⟨G, hG⟩ : ∃ G, X.heap.size = G := ⟨_, rfl⟩;rw [hG] at ah a0;clear hF ht hbad hbk hch hav hk hm a4 hPost;go_enter Tryz.func18, Tryz.ntmps18
 go_upto_region 1 with fail
 (try rw [hG])
 generalize (X.alloc (.cells (a8 root).toArray 28)) = W0 at ah a0 ⊢;have aa := zH (ah.out.at (g := G) (cs := a8 root) (t := 28) (by simp));clear hG
 go_wp2_with (first | (refine a9 rfl (ax HR.out aa.out rfl rfl) ?_) | fail)
 refine a0.out.mono ?_;rintro e W1 ⟨lv, nv, ob, nb, cb, s1, rfl, aj, bf, bj, r1, r2, -⟩;have b5 := zH bf; have b9 := zH bj; have b0 := zH r1; have bc := zH aj;obtain ⟨cj, a3, rfl⟩ := r1.form;obtain ⟨ck, c6, rfl⟩ := r2.form;obtain ⟨N, hN⟩ : ∃ N, (lh hv).length = N := ⟨_, rfl⟩;rw [hN] at r1 ⊢;have a7 := zH hN;clear bf bj r1 r2 aj a0 ah aa hN
 go_wp2_with fail
 go_loopw [11, 12] (fun n i wr => ∃ (k : Nat) (s' : Sh) (rs : List Pt), k + 1 ≤ 256 ∧ i = .int .i64 ((k + 1 : Nat) : Int) ∧ n = .int .i64 (((fx hv (k + 1)).length : Nat) : Int) ∧ More s s' rs ∧ Lim (m + 173 + 74 * k) s' ∧ Fr w D s' (ob ++ (nb ++ (G, a8 root, 28) :: bs)) wr) (fun _ i _ => 256 - (intOf i).toNat)
 case atStart => exact ⟨0, s1, cb, by omega, rfl, rfl, bc.out, b9.out, b5.out⟩
 case round =>
  clear b5 b9 bc;obtain ⟨k, s2, cd, hk, rfl, rfl, bn, bm, hf⟩ := hrel;have a6 := zH bn; have ay := zH bm; have HF := zH hf;have aa := zH (hf.at (g := G) (cs := a8 root) (t := 28) (by simp));clear bn bm hf;obtain ⟨c, hc⟩ : ∃ c, k + 1 = c := ⟨_, rfl⟩;have ab := zH hc;rw [hc];have ce := IntWalk.i64_in ((c : Int) + 1) (by omega);by_cases hlt : c < 256
  ·obtain ⟨q, hq⟩ : ∃ q, hv[c]? = some q := ⟨_, List.getElem?_eq_getElem (by have := HL.out; omega)⟩
   have HQ : Hid q.OK := zH (c3.out q (List.mem_of_getElem? hq));have bb := zH hq;have av : Hid (c < 256 ∧ 256 ≤ ch) := zH ⟨hlt, bw.out⟩;have cg : IntKind.u16.wrap (c : Int) = (c : Int) := (by rw [IntKind.wrap_u16]; omega);have al : df c = true := (by unfold df; simp; omega);obtain ⟨bh, ci, b3⟩ := IsTab.get (s := s2) (root := root) (hv := hv) (h := hh) (mids := mids) (by rw [a6.out.bl.1]; exact HT.out) (num := c) al
   obtain ⟨ge, gp⟩ : gtE s2 root c = 0 ∧ gtN s2 root c = q := by
    rcases bh with ⟨h1, h2⟩ | ⟨_, _, h3⟩
    ·rw [hq] at h2
     exact ⟨h1, Option.some.inj h2⟩
    ·exact absurd (by rw [a6.out.bl.2]; exact bu.out) h3
   have ai : BlkOK s2 := fun b hb => bv.out b (by rw [← a6.out.bl.1]; exact hb)
   have a1 := Cx HF.out root HR.out c (by omega) ay.out (by have := HM.out; omega) ai;rw [ge, gp] at a1;obtain ⟨s3, br⟩ : ∃ s3, gtS s2 root c = s3 := ⟨_, rfl⟩;rw [br] at a1 b3;have ad := zH a1;have ae := zH (a6.out.trans b3);have c5 := zH (fb HQ.out);have c0 : Hid ((af q).toArray.size = 44) := zH (by rw [List.size_toArray, am HQ.out]);have ap : hv.getD c zeroI = q := (by rw [List.getD_eq_getElem?_getD, hq]; rfl);obtain ⟨nn, ak⟩ : ∃ n, (fx hv c).length = n := ⟨_, rfl⟩
   have bp : eqI q zeroI = false → (lh hv)[nn]? = some (c, q) ∧ (fx hv (c + 1)).length = nn + 1 := fun hz => by
    have h1 := T4 HL.out hlt (by omega) (show nzB hv c = true by unfold nzB; rw [ap, hz]; rfl);rw [ak, ap] at h1;exact h1
   have bq : eqI q zeroI = true → (fx hv (c + 1)).length = nn := fun hz => by rw [Hz (show nzB hv c = false by unfold nzB; rw [ap, hz]; rfl), ak]
   have ca : nn ≤ c := (by rw [← ak]; exact Bh hv c);have cl := IntWalk.i64_in ((nn : Int) + 1) (by omega);rw [ak];have c1 := zH bp; have c2 := zH bq;clear hq ge gp a1 br b3 ak bp bq ca bh al ai ap
   go_wp2_with (first | (refine a9 rfl (ax HR.out aa.out rfl rfl) ?_) | fail)
   refine ad.out.mono ?_;rintro e W2 ⟨rfl, bg, bk⟩;have b6 := zH bg; have ba := zH bk;clear bg bk ad HF aa ay a6
   go_upto_region 7 with (first | (refine wpList_store_row rfl 68 (.tmp 13) (.tmp 34) rfl W2.heap.size (af q).toArray rfl rfl 68 _ (heap_alloc_new W2 _) c5.out (by rw [c0.out]; rfl) (fj q) ?_) | fail)
   refine (fun (k : ∀ W, Fr w D s3 ((W2.heap.size, af q, 68) :: (ob ++ (nb ++ (G, a8 root, 28) :: bs))) W → Code.wp _ _ _ _ W) => k _ (b6.out.add (ar W2 _ (af q) 68).2 (Nat.le_refl _) (ar W2 _ (af q) 68).1)) ?_;intro W3 hW3;obtain ⟨g3, bi⟩ : ∃ g, W2.heap.size = g := ⟨_, rfl⟩;rw [bi] at hW3 ⊢;have a5 := hW3.drew;have ag : Hid (∀ y ∈ bs, y ∈ (g3, af q, 68) :: (ob ++ (nb ++ (G, a8 root, 28) :: bs))) := zH fun y hy => by simp [hy]
   clear bi b6 hW3;refine gS (.take 0 (.take 1 (.take 2 (.take 3 (.take 4 (.take 5 (.take 6 (.take 7 (.step 8 (.take 9 (.take 10 (.nil)))))))))))) (Fr w D s3 ((g3, af q, 68) :: (ob ++ (nb ++ (G, a8 root, 28) :: bs)))) (a5) ?_;refine gT (.int .i64 0) ?_;refine gT (.bool false) ?_;refine gT (.bool false) ?_;refine gU (.agg (af q).toArray) rfl (fun X hX => et HQ.out (hX.at (g := g3) (cs := af q) (t := 68) (by simp)) rfl rfl) ?_;refine gT (.slice (some ⟨gh, 0, none⟩) 256 ch) ?_;refine gT (.int .i64 (c : Int)) ?_;refine gU (.pointer (some ⟨gh, c * 44, none⟩)) rfl (fun X hX => yj rfl rfl rfl av.out) ?_;refine gU (.agg (af q).toArray) rfl (fun X hX => ez HQ.out ((HV.out _ _ _ hX ag.out).2 _ _ bb.out) rfl rfl) ?_;refine b8 _ rfl (by rfl) 22 #[.agg (af q).toArray] (fun X => by go_simp) (fun u X => u = .agg (af q).toArray) ((Ge q HQ.out W3.drew).mono fun e X ⟨e1, e2⟩ => ⟨_, e1, a5.below e2, rfl⟩) ?_;rintro u Y1 an rfl;refine ⟨Fr w D s3 ((g3, af q, 68) :: (ob ++ (nb ++ (G, a8 root, 28) :: bs))), fun _ h => h, an, ?_⟩; try simp only [pS]
   refine gU (.bool false) rfl (fun X hX => (Cr HQ.out HQ.out rfl rfl rfl).trans (by rw [ir.2 rfl]; rfl)) ?_;refine gT (.bool false) ?_;refine au ?_;have ao := zH an;have cf := zH (an.at (g := g3) (cs := af q) (t := 68) (by simp));have b7 := zH ((HV.out _ _ _ an ag.out).2 _ _ bb.out);clear a5 an;by_cases hz : eqI q zeroI = true
   ·have az := zH (c2.out hz)
    go_wp2_with (first | (refine aq (by rfl) (yj rfl rfl rfl av.out) ?_) | (refine aq (by rfl) (ez HQ.out b7.out rfl rfl) ?_) | (refine aq (by rfl) (qg rfl) ?_) | (refine aq (by rfl) (ua hz rfl rfl rfl HQ.out zeroI_ok) ?_) | fail)
    go_roundw
    case rel => exact ⟨k + 1, s3, _, by omega, by rw [ab.out]; go_num, by rw [ab.out, az.out], ae.out, (by have := ba.out; rw [show m + 173 + 74 * (k + 1) = m + 173 + 74 * k + 74 by omega]; exact this), ao.out.sub (fun y hy => List.mem_cons_of_mem _ hy)⟩
    case measure => simp [intOf]; omega
   ·rw [Bool.not_eq_true] at hz
    obtain ⟨b1, bo⟩ := c1.out hz;have az := zH bo;have b2 : nn < N := (by have := (List.getElem?_eq_some_iff.1 b1).1; rw [a7.out] at this; exact this);have bt := zH b1;have aw : Hid (∀ y ∈ ob, y ∈ (g3, af q, 68) :: (ob ++ (nb ++ (G, a8 root, 28) :: bs))) := zH fun y hy => by simp [hy]
    obtain ⟨gl, bd, c8, -, -⟩ := OwnT.at (ao.out.row b0.out aw.out) a2.out (by rw [a7.out]; omega);injection c8 with hgl1 hgl2 hgl3
    subst hgl1 hgl3
    have bz : Hid (∀ Y, Fr w D s3 ((g3, af q, 68) :: (ob ++ (nb ++ (G, a8 root, 28) :: bs))) Y → Y.rangeAt gl (nn * 45) (tcI (c, q))) := zH fun Y hY => by
     obtain ⟨g', c', e', -, h'⟩ := OwnT.at (hY.row b0.out aw.out) a2.out (by rw [a7.out]; omega);injection e' with e1 e2 e3
     injection e1 with e4
     injection e4 with e5
     rw [e5];exact h' nn (c, q) bt.out
    have b4 : Hid (nn < N ∧ N ≤ a3) := zH ⟨b2, by
     obtain ⟨g', c', e', c7, -⟩ := OwnT.at (ao.out.row b0.out aw.out) a2.out (by rw [a7.out]; omega);injection e' with e1 e2 e3
     rw [a7.out] at c7
     omega⟩
    clear b1 hgl2 bo
    go_upto_region 10 with (first | (refine aq (by rfl) (yj rfl rfl rfl av.out) ?_) | (refine aq (by rfl) (ez HQ.out b7.out rfl rfl) ?_) | (refine aq (by rfl) (qg rfl) ?_) | (refine aq (by rfl) (ua hz rfl rfl rfl HQ.out zeroI_ok) ?_) | fail)
    have a5 := ao.out.drew;refine gS (.take 0 (.take 1 (.take 2 (.take 3 (.take 4 (.take 5 (.take 6 (.take 7 (.take 8 (.take 9 (.take 10 (.take 11 (.take 12 (.take 13 (.take 14 (.nil)))))))))))))))) (Fr w D s3 ((g3, af q, 68) :: (ob ++ (nb ++ (G, a8 root, 28) :: bs)))) (a5) ?_;refine gT (.int .i64 (nn : Int)) ?_;refine gT (.slice (some ⟨gl, 0, none⟩) N a3) ?_;refine gT (.int .i64 (N : Int)) ?_;refine gU (.bool false) rfl (fun X hX => Xe b4.out.1 rfl rfl rfl) ?_;refine gT (.bool false) ?_;refine gT (.slice (some ⟨gl, 0, none⟩) N a3) ?_;refine gT (.int .i64 (nn : Int)) ?_;refine gU (.pointer (some ⟨gl, nn * 45, none⟩)) rfl (fun X hX => Ry rfl rfl rfl b4.out) ?_;refine gU (.agg (tcI (c, q)).toArray) rfl (fun X hX => S2 (l := (c, q)) HQ.out (bz.out _ hX) rfl rfl) ?_;refine gT (.int .i64 (c : Int)) ?_;refine gT (.int .u16 (c : Int)) ?_;refine gU (.agg (af q).toArray) rfl (fun X hX => et HQ.out (hX.at (g := g3) (cs := af q) (t := 68) (by simp)) rfl rfl) ?_;refine gU (.agg (tcI (c, q)).toArray) rfl (fun X hX => n8 (f := c) HQ.out rfl rfl rfl) ?_;refine gU (.bool false) rfl (fun X hX => S8 (x := (c, q)) HQ.out rfl rfl rfl) ?_;refine gT (.bool false) ?_;refine au ?_;have bx := zH a5;clear a5
    go_wp2_with fail
    go_roundw
    case rel => exact ⟨k + 1, s3, _, by omega, by rw [ab.out]; go_num, by rw [ab.out, az.out]; go_num, ae.out, (by have := ba.out; rw [show m + 173 + 74 * (k + 1) = m + 173 + 74 * k + 74 by omega]; exact this), bx.out.sub (fun y hy => List.mem_cons_of_mem _ hy)⟩
    case measure => simp [intOf]; omega
  ·obtain rfl : c = 256 := by omega
   rw [← zq HL.out, a7.out, show ((256 : Nat) : Int) = (256 : Int) from rfl];have c9 : k = 255 := (by have := ab.out; omega);subst c9;have HE := zH (c4.out (.returned (.tuple #[.int .i64 (vy hv : Int), .bool true])) _ ⟨s2, cd, rfl, a6.out, HF.out.sub (fun y hy => by simp [hy]), ay.out⟩);clear hlt hk ce hc
   go_wp2_with fail
   first | exact HE.out | (go_ret; exact HE.out)
def cu (l : List Ino) : List Value := l.flatMap af
theorem zn : ∀ (l : List Ino) (i : Nat) (p : Ino), (∀ q ∈ l, q.OK) → l[i]? = some p → ∀ j, j < 44 → (cu l)[i * 44 + j]? = (af p)[j]?
 | [], i, p, _, h, _, _ => by simp at h
 | q :: l, 0, p, hq, h, j, hj => by
  simp only [List.getElem?_cons_zero, Option.some.injEq] at h;subst h;have := am (hq q (by simp));show (af q ++ cu l)[0 * 44 + j]? = _;rw [Nat.zero_mul, Nat.zero_add, List.getElem?_append_left (by omega)]
 | q :: l, i + 1, p, hq, h, j, hj => by
  have := am (hq q (by simp));have ih := zn l i p (fun x hx => hq x (by simp [hx])) (by simpa using h) j hj;show (af q ++ cu l)[(i + 1) * 44 + j]? = _;rw [List.getElem?_append_right (by omega), ← ih];congr 1;omega
theorem D3 {l : List Ino} (h : ∀ q ∈ l, q.OK) : (cu l).length = l.length * 44 := by
 induction l with
 | nil => rfl
 | cons a l ih =>
  have h1 := am (h a (by simp));have h2 := ih fun q hq => h q (by simp [hq])
  show (af a ++ cu l).length = _;rw [List.length_append, h1, h2, List.length_cons];omega
theorem wh : ∀ {l : List Ino} (_ : ∀ p ∈ l, p.OK) {k : Nat} (_ : k < l.length) {q : Ino} (_ : q.OK), (cu l).take (k * 44) ++ af q ++ (cu l).drop (k * 44 + 44) = cu (l.set k q)
 | [], _, k, hk, q, hq => by simp at hk
 | a :: l, h, 0, hk, q, hq => by
  have h1 := am (h a (by simp));show (af a ++ cu l).take (0 * 44) ++ af q ++ (af a ++ cu l).drop (0 * 44 + 44) = af q ++ cu l;rw [List.drop_append_of_le_length (by omega), List.drop_of_length_le (by omega)];simp
 | a :: l, h, k + 1, hk, q, hq => by
  have h1 := am (h a (by simp));have ih := wh (l := l) (fun p hp => h p (by simp [hp])) (k := k) (by simpa using hk) hq;show (af a ++ cu l).take ((k + 1) * 44) ++ af q ++ (af a ++ cu l).drop ((k + 1) * 44 + 44) = af a ++ cu (l.set k q);rw [← ih, List.take_append, List.drop_append, h1, List.take_of_length_le (by omega), List.drop_of_length_le (by omega), show (k + 1) * 44 - 44 = k * 44 by omega, show (k + 1) * 44 + 44 - 44 = k * 44 + 44 by omega];simp
theorem a0u : (Tryz.prog.info? 62).map (fun i => (i.zero, i.size, i.bytes)) = some (some (.agg (af zeroI).toArray), 44, 64) := by kernel_rfl
theorem a24 (n : Nat) : madeCells (af zeroI).toArray (n * 44) = (cu (List.replicate n zeroI)).toArray := by
 have hz := am zeroI_ok
 have hl : (cu (List.replicate n zeroI)).length = n * 44 := by
  show ((List.replicate n zeroI).flatMap af).length = n * 44;rw [List.length_flatMap, List.map_replicate, hz];simp
 have a0 : ∀ i, i < n * 44 → (cu (List.replicate n zeroI))[i]? = (af zeroI)[i % 44]? := fun i hi => by
  have h1 := zn (List.replicate n zeroI) (i / 44) zeroI (fun q hq => by rw [List.eq_of_mem_replicate hq]; exact zeroI_ok) (by rw [List.getElem?_replicate, if_pos (by omega)]) (i % 44) (by omega);rw [show i / 44 * 44 + i % 44 = i by omega] at h1;exact h1
 generalize cu (List.replicate n zeroI) = l at hl a0;generalize af zeroI = zc at hz a0;apply Array.ext
 ·rw [size_madeCells, List.size_toArray, hl]
 ·intro i h1 h2
  rw [size_madeCells] at h1;have h3 := a0 i h1;rw [List.getElem?_eq_getElem (by omega), List.getElem?_eq_getElem (by omega)] at h3;have h4 := Option.some.inj h3;have e : l.toArray[i] = l[i]'(by simpa using h2) := (by simp);rw [e, h4];simp [madeCells, hz];rw [List.getElem?_eq_getElem (by omega)];rfl
theorem S5 {ρ : Operand → Value} {o : Oper} {w : World} (ho : o.op = .makeSlice 51 (.const (.int .i64 256)) (.const (.int .i64 256))) (hx : ρ (.const (.int .i64 256)) = .int .i64 256) : (execOp ρ o).run Tryz.prog w = .ok (.value (.slice (some ⟨w.heap.size, 0, none⟩) 256 256)) (w.alloc (.cells (cu (List.replicate 256 zeroI)).toArray 62)) := by
 obtain ⟨i, hi, h⟩ := Option.map_eq_some_iff.1 a0u;simp only [Prod.mk.injEq] at h;have hr := run_make (P := Tryz.prog) w 51 62 i _ Tryz.underlying51 hi h.1 .i64 .i64 256 256 (by omega) (by omega) (by rw [h.2.2]; omega) (by omega);rw [h.2.1] at hr;rw [show (Value.agg (af zeroI).toArray).cells = (af zeroI).toArray from rfl, show Int.toNat 256 = 256 from rfl, a24] at hr;unfold execOp;simp only [ho, hx, Sem.run_bind, hr, Result.andThen_ok, Sem.run_pure]
theorem RowB.putI {l : List Ino} (h : RowB 62 44 [(g, cs, 62)] (.slice (some ⟨g, 0, none⟩) n cap) n (cu l)) (hl : l.length = n) (hok : ∀ p ∈ l, p.OK) (hk : k < n) {q : Ino} (hq : q.OK) :
  k * 44 + (af q).length ≤ cs.length ∧ RowB 62 44 [(g, cs.take (k * 44) ++ af q ++ cs.drop (k * 44 + (af q).length), 62)] (.slice (some ⟨g, 0, none⟩) n cap) n (cu (l.set k q)) := by
 obtain ⟨h1, h2⟩ := h;rcases h2 with ⟨e, _⟩ | ⟨g', cap', cs', e, e2, hc, hm, hs, ht⟩
 ·cases e
 ·injection e with e3 _ e4
  subst e4;simp only [List.cons.injEq, Prod.mk.injEq, and_true] at e2;obtain ⟨_, e5⟩ := e2;subst e5;have a0 := am hq;have a4 : k * 44 + 44 ≤ n * 44 := (by omega);have a3 : n * 44 ≤ cap * 44 := Nat.mul_le_mul_right _ hc;have a2 : k * 44 + (af q).length ≤ cs.length := (by omega);refine ⟨a2, ?_, .inr ⟨g, cap, _, rfl, rfl, hc, hm, ?_, ?_⟩⟩
  ·rw [← wh hok (by omega) hq]
   rw [← ht] at h1 ⊢;simp only [List.length_append, List.length_take, List.length_drop] at h1 ⊢;omega
  ·simp only [List.length_append, List.length_take, List.length_drop]
   omega
  ·rw [← wh hok (by omega) hq, ← ht, a0]
   have a1 : (cs.take (k * 44)).length = k * 44 := (by rw [List.length_take]; omega);rw [List.take_append, List.take_append, List.length_append, a1, a0];rw [List.take_of_length_le (l := List.take (k * 44) cs) (by omega), List.take_of_length_le (l := af q) (by omega)];rw [List.take_take, List.drop_take, show min (k * 44) (n * 44) = k * 44 by omega]
theorem Xu {w : World} (hF : Fr w D s bs X) (h : RowB 62 44 b (.slice (some ⟨g, 0, none⟩) 256 c) 256 (cu hv)) (hs : ∀ y ∈ b, y ∈ bs) (hl : hv.length = 256) (hok : ∀ n ∈ hv, n.OK) : Jr X g hv := by
 rcases h.2 with ⟨e, _⟩ | ⟨g', c', cs, e, e2, hc, _, hsz, ht⟩
 ·cases e
 ·injection e with e3 _ e4
  injection e3 with e5
  injection e5 with e6
  subst e6 e4;have hB := hF.at (g := g) (cs := cs) (t := 62) (hs _ (by rw [e2]; simp));refine ⟨hB.lt, fun i n hi j v hj => hB.cell ?_⟩;have a0 : j < 44 := (by have := (List.getElem?_eq_some_iff.1 hj).1; rw [am (hok n (List.mem_of_getElem? hi))] at this; exact this);have a1 : i < 256 := (by have := (List.getElem?_eq_some_iff.1 hi).1; omega);have h1 := zn hv i n hok hi j a0;rw [hj, ← ht, List.getElem?_take, if_pos (by omega)] at h1;exact h1
theorem a0t : (Tryz.prog.info? 62).map (fun i => (i.zero.map (·.cells.size), i.size, i.bytes)) = some (some 44, 44, 64) := by kernel_rfl
theorem a06 : Jq 51 62 44 := fun Y v n xs ys g c m h hn hy hcell h1 => by
 obtain ⟨i0, hi, h2⟩ := Option.map_eq_some_iff.1 a0t;simp only [Prod.mk.injEq] at h2;obtain ⟨z, a0, a1⟩ := Option.map_eq_some_iff.1 h2.1;obtain ⟨v', w', hr, k2, k3, _, k5⟩ := run_append_own_at (P := Tryz.prog) Y 0 51 51 62 i0 z 44 64 Tryz.underlying51 hi a0 h2.2.1 h2.2.2 a1 (by decide) v n xs h ⟨g, 0, none⟩ m c ys hy hcell h1 (by unfold maxLen; omega) (by omega) (Nat.zero_le _);exact ⟨v', w', hr, k2, k3, k5⟩
theorem T0 : (Tryz.prog.info? 51).map (fun i => (i.zero.map (·.cells.size), i.size, i.bytes)) = some (some 1, 1, 24) := by kernel_rfl
theorem Wh : Jq 52 51 1 := fun Y v n xs ys g c m h hn hy hcell h1 => by
 obtain ⟨i0, hi, h2⟩ := Option.map_eq_some_iff.1 T0;simp only [Prod.mk.injEq] at h2;obtain ⟨z, a0, a1⟩ := Option.map_eq_some_iff.1 h2.1;obtain ⟨v', w', hr, k2, k3, _, k5⟩ := run_append_own_at (P := Tryz.prog) Y 0 52 52 51 i0 z 1 24 Tryz.underlying52 hi a0 h2.2.1 h2.2.2 a1 (by decide) v n xs h ⟨g, 0, none⟩ m c ys hy hcell h1 (by unfold maxLen; omega) (by omega) (Nat.zero_le _);exact ⟨v', w', hr, k2, k3, k5⟩
section
variable {ρ : Operand → Value} {o : Oper} {x y : Operand} {w : World}
theorem Eh {sp : Option Addr} (ho : o.op = .buildSlice 52 1 #[(0, x)]) (hx : ρ x = .slice sp n cap) :
  (execOp ρ o).run Tryz.prog w = .ok (.value (.slice (some ⟨w.heap.size, 0, none⟩) 1 1)) (w.alloc (.cells #[.slice sp n cap] 51)) := by
 obtain ⟨i, hi, h2⟩ := Option.map_eq_some_iff.1 T0;simp only [Prod.mk.injEq] at h2;obtain ⟨z, a0, a1⟩ := Option.map_eq_some_iff.1 h2.1
 have hr := run_buildSlice (P := Tryz.prog) w 52 51 1 #[(0, .slice sp n cap)] #[.slice sp n cap] i z Tryz.underlying52 hi a0 (by rw [h2.2.1]; omega) (by rw [h2.2.1]; omega)
  (ol (size := 1) (by simp [h2.2.1]) (by simp [Value.cells]) (by simp [h2.2.1]))
 unfold execOp;simp only [ho];rw [show (Array.map (fun x : Nat × Operand => (x.1, ρ x.2)) #[(0, x)]) = #[(0, .slice sp n cap)] by simp [hx]];simp only [Sem.run_bind, hr, Result.andThen_ok];rfl
theorem Rm {w : World} (ho : o.op = .call { callee := .builtin .append, args := #[x, y], argTypes := #[51, 51] }) (hx : ρ x = v) (hy : ρ y = u)
  (hr : (Builtin.append_ #[51, 51] o.type #[v, u]).run Tryz.prog w = .ok v' w') : (execOp ρ o).run Tryz.prog w = .ok (.value v') w' := by
 unfold execOp;simp only [ho, resolve, invoke, builtin, Sem.run_bind, Sem.run_pure, Result.andThen_ok, List.map_toArray, List.map_cons, List.map_nil, hx, hy, hr]
theorem Rn {w : World} (ho : o.op = .call { callee := .builtin .append, args := #[x, y], argTypes := #[52, 52] }) (hx : ρ x = v) (hy : ρ y = u)
  (hr : (Builtin.append_ #[52, 52] o.type #[v, u]).run Tryz.prog w = .ok v' w') : (execOp ρ o).run Tryz.prog w = .ok (.value v') w' := by
 unfold execOp;simp only [ho, resolve, invoke, builtin, Sem.run_bind, Sem.run_pure, Result.andThen_ok, List.map_toArray, List.map_cons, List.map_nil, hx, hy, hr]
theorem Rz {ad : Addr} (ho : o.op = .load 51 x) (hx : ρ x = .pointer (some ad)) (hc : w.cell? ad = some v) : (execOp ρ o).run Tryz.prog w = .ok (.value v) w := by
 unfold execOp; simp only [ho]; go_simp
theorem Rx (ho : o.op = .indexAddr 52 x y) (hx : ρ x = .slice (some ⟨g, 0, none⟩) n cap) (hy : ρ y = .int .i64 (k : Int)) (hk : k < n ∧ n ≤ cap) :
  (execOp ρ o).run Tryz.prog w = .ok (.value (.pointer (some ⟨g, k, none⟩))) w := by
 have h1 : ¬ n ≤ k := by omega
 unfold execOp;simp only [ho];go_simp
theorem Cq (ho : o.op = .indexAddr 51 x y) (hx : ρ x = .slice (some ⟨g, 0, none⟩) n cap) (hy : ρ y = .int .u16 (k : Int)) (hk : k < n ∧ n ≤ cap) :
  (execOp ρ o).run Tryz.prog w = .ok (.value (.pointer (some ⟨g, k * 44, none⟩))) w := by
 have h1 : ¬ n ≤ k := by omega
 unfold execOp;simp only [ho];go_simp
end
structure Rt where
 root : Pt
 hv : List Ino
 hh : List Pt
 mids : List Pt
 v : Value
def MapI (K : Bxs) (v : Value) (hv : List Ino) : Prop := hv.length = 256 ∧ ∃ b, RowB 62 44 b v 256 (cu hv) ∧ ∀ y ∈ b, y ∈ K
theorem MapI.mono {K' : Bxs} (m : MapI K v hv) (hs : ∀ y ∈ K, y ∈ K') : MapI K' v hv := by
 obtain ⟨h1, b, h2, h3⟩ := m;exact ⟨h1, b, h2, fun y hy => hs y (h3 y hy)⟩
theorem MapI.form (m : MapI K v hv) : ∃ g c, v = .slice (some ⟨g, 0, none⟩) 256 c ∧ 256 ≤ c := by
 obtain ⟨_, b, ⟨_, h2⟩, _⟩ := m;rcases h2 with ⟨_, h3, _⟩ | ⟨g, cap, cs, e, _, hc, _⟩
 ·omega
 ·exact ⟨g, cap, e, hc⟩
theorem MapI.src {w : World} (m : MapI K (.slice (some ⟨g, 0, none⟩) 256 c) hv) (hF : Fr w D s bs X) (hs : ∀ y ∈ K, y ∈ bs) (hok : ∀ p ∈ hv, p.OK) : Jr X g hv := by
 obtain ⟨h1, b, h2, h3⟩ := m;exact Xu hF h2 (fun y hy => hs y (h3 y hy)) h1 hok
structure UmS (w : World) (D gR : Nat) (s : Sh) (k : Nat) (hist : List Rt) (r : Rt) (rv mv : Value) (rb mb K : Bxs) (X : World) : Prop where
 fr : Fr w D s ((gR, a8 r.root, 28) :: (rb ++ (mb ++ K))) X
 roots : RowB 28 41 rb rv hist.length.succ (ma ((hist ++ [r]).map Rt.root))
 maps : RowB 51 1 mb mv hist.length.succ ((hist ++ [r]).map Rt.v)
 len : hist.length ≤ k
 rcs : ∀ q ∈ hist ++ [r], IsTab s.blocks q.root q.hv q.hh q.mids ∧ MapI K q.v q.hv
 bad : s.bad = []
 room : s.room = -1
 bl : s.blocks.length ≤ 80 * k
 bk : BlkOK s
 lim : Lim (23000 * k) s
 apR : pg w rb ((gR, a8 r.root, 28) :: (mb ++ K))
 apM : pg w mb ((gR, a8 r.root, 28) :: (rb ++ K))
 apG : pg w [(gR, a8 r.root, 28)] (rb ++ (mb ++ K))
theorem Vu {w : World} {gH gr gm : Nat} (hh : h0 = List.replicate 256 zeroI) (hF : Fr w D sh0 [(gm, [.slice (some ⟨gH, 0, none⟩) 256 256], 51), (gr, a8 zeroP, 28), (gH, cu h0, 62), (gR, a8 zeroP, 28)] X) (hw : w.heap.size ≤ gR ∧ w.heap.size ≤ gr ∧ w.heap.size ≤ gm) (hn : gR ≠ gH ∧ gR ≠ gr ∧ gR ≠ gm ∧ gr ≠ gm ∧ gr ≠ gH ∧ gm ≠ gH) :
  UmS w D gR sh0 0 [] ⟨zeroP, h0, List.replicate 64 zeroP, holes, .slice (some ⟨gH, 0, none⟩) 256 256⟩ (.slice (some ⟨gr, 0, none⟩) 1 1) (.slice (some ⟨gm, 0, none⟩) 1 1) [(gr, a8 zeroP, 28)] [(gm, [.slice (some ⟨gH, 0, none⟩) 256 256], 51)] [(gH, cu h0, 62)] X := by
 have hz := aa ak
 have hl : (cu h0).length = 256 * 44 := by
  rw [hh, D3 (fun q hq => by rw [List.eq_of_mem_replicate hq]; exact zeroI_ok), List.length_replicate]
 have a0 : ma [zeroP] = a8 zeroP := by simp [ma]
 refine ⟨hF.sub (fun y hy => by simp at hy ⊢; rcases hy with e | e | e | e <;> simp [e]), ⟨?_, .inr ⟨gr, 1, _, rfl, rfl, Nat.le_refl _, by unfold maxLen; omega, by rw [hz], ?_⟩⟩, ⟨rfl, .inr ⟨gm, 1, _, rfl, rfl, Nat.le_refl _, by unfold maxLen; omega, rfl, rfl⟩⟩, Nat.le_refl _, fun q hq => ?_, rfl, rfl, Nat.le_refl _, fun b hb => by simp [sh0] at hb, a23, fun y hy => ?_, fun y hy => ?_, fun y hy => ?_⟩
 ·show (ma [zeroP]).length = _
  rw [a0, hz];rfl
 ·show _ = ma [zeroP]
  rw [a0, List.take_of_length_le (by rw [hz]; exact Nat.le_refl _)]
 ·simp only [List.nil_append, List.mem_singleton] at hq
  subst hq;exact ⟨by show IsTab _ zeroP h0 _ holes; rw [hh]; exact Gb _, by show h0.length = 256; rw [hh]; exact List.length_replicate, [(gH, cu h0, 62)], ⟨hl, .inr ⟨gH, 256, _, rfl, rfl, Nat.le_refl _, by unfold maxLen; omega, hl, List.take_of_length_le (by rw [hl]; exact Nat.le_refl _)⟩⟩, fun y hy => hy⟩
 ·simp only [List.mem_singleton] at hy
  subst hy;refine ⟨hw.2.1, fun z hz => ?_⟩;simp at hz;rcases hz with rfl | rfl | rfl
  ·exact hn.2.1
  ·exact fun e => hn.2.2.2.1 e.symm
  ·exact fun e => hn.2.2.2.2.1 e.symm
 ·simp only [List.mem_singleton] at hy
  subst hy;refine ⟨hw.2.2, fun z hz => ?_⟩;simp at hz;rcases hz with rfl | rfl | rfl
  ·exact hn.2.2.1
  ·exact hn.2.2.2.1
  ·exact fun e => hn.2.2.2.2.2 e.symm
 ·simp only [List.mem_singleton] at hy
  subst hy;refine ⟨hw.1, fun z hz => ?_⟩;simp at hz;rcases hz with rfl | rfl | rfl
  ·exact fun e => hn.2.1 e.symm
  ·exact fun e => hn.2.2.1 e.symm
  ·exact fun e => hn.1 e.symm
theorem Xs {w : World} (h : Fr w D s bs X) : Fr w D { s with made := [] } bs (X.setCell ⟨D, 2, none⟩ (.slice none 0 0)) := by
 obtain ⟨⟨L1, v1, h1, h2, h3, h4⟩, k, hl⟩ := h
 have a5 : w.heap.size ≤ D := by
  by_cases e : w.heap.size ≤ D
  ·exact e
  ·have := h4 D (by omega); rw [h1.ld] at this; omega
 have hc : Chg (fun x => x = D) X (X.setCell ⟨D, 2, none⟩ (.slice none 0 0)) := (Chg.refl (fun x => x = D) X).setCell (g := D) (.inl rfl) 2 _;have a4 : (X.setCell ⟨D, 2, none⟩ (.slice none 0 0)).heap.size = X.heap.size := by simp [World.setCell]
 have a0 : ∀ {j x : Nat}, j ≠ 1 → L1 x = j → ¬ x = D := fun hj hx e => by rw [e, h1.ld] at hx; exact hj hx.symm
 obtain ⟨vs, r1, r2, r3, r4, r5⟩ := h1.row;refine ⟨⟨L1, { v1 with md := .slice none 0 0 }, ⟨h1.blk.set 2 _, h1.ld, ⟨vs, bc r1 hc (fun g hg => a0 (by omega) (r2 g hg)), r2, r3, fun i u b hu hb => ?_, r5⟩, ?_, U2, ⟨bc h1.gn.1 hc (fun g hg => a0 (by omega) (h1.gn.2 g hg)), h1.gn.2⟩, ⟨bc h1.rd.1 hc (fun g hg => a0 (by omega) (h1.rd.2 g hg)), h1.rd.2⟩, fun g hg => by rw [a4]; exact h1.lt g hg, fun q hq => by simp at hq, h1.okg, h1.okr, ?_⟩, h2, h3, h4⟩, fun b hb => (k b hb).chg hc (a0 (by omega) (h3 b hb)), hl.trans (hc.below (fun g hg => by have : g = D := hg; omega) hl.size)⟩
 ·obtain ⟨sp, a2, e, k1, k2, k3, k4⟩ := r4 i u b hu hb
  exact ⟨sp, a2, e, k1, k2, k3.chgF hc (fun a ha => a0 (by omega) (k4 a ha)), k4⟩
 ·obtain ⟨sp, a2, e, k1, k2, k3⟩ := h1.bad
  refine ⟨sp, a2, e, k1, k2, fun h0 => ?_⟩;obtain ⟨g, o, e1, hg, a3, a1⟩ := k3 h0;refine ⟨g, o, e1, by rw [a4]; exact hg, a3, fun i x hx => ?_⟩;rw [World.cell?_of_block (w := X) (a := ⟨g, o + i, none⟩) (hc.block g hg (a0 (by omega) a3))];exact a1 i x hx
 ·exact ⟨h1.tab.1.of_heap (hc.block _ h1.tab.1.lt (a0 (by omega) h1.tab.2)), h1.tab.2⟩
theorem Vt {p : Pt} (h : ka l = false) : (tsR s p l).e = 1 ∧ (tsR s p l).s = s ∧ (tsR s p l).p = zeroP := by unfold tsR; rw [if_pos h]; exact ⟨rfl, rfl, rfl⟩
theorem Py {x : Itm} (h : l[k]? = some x) : jj hv (l.take (k + 1)) = (jj hv (l.take k)).set x.1 x.2 := by
 rw [j7 h];unfold jj;rw [List.foldl_append];rfl
theorem wu (hv : List Ino) (x : Itm) (l : List Itm) : jj hv (x :: l) = jj (hv.set x.1 x.2) l := rfl
theorem Ah : ∀ (l : List Itm) (hv : List Ino) (n : Nat), (∀ x ∈ l, x.1 ≠ n) → (jj hv l)[n]? = hv[n]?
 | [], _, _, _ => rfl
 | x :: l, hv, n, h => by
  rw [wu, Ah l _ n fun y hy => h y (by simp [hy]), List.getElem?_set, if_neg (h x (by simp))]
theorem Ly : ∀ (l : List Itm) (hv : List Ino), AscI l → ∀ x ∈ l, x.1 < hv.length → (jj hv l)[x.1]? = some x.2
 | [], _, _, x, h, _ => by simp at h
 | y :: l, hv, ha, x, h, hx => by
  unfold AscI at ha;rw [List.pairwise_cons] at ha;rw [wu];rcases List.mem_cons.1 h with h | h
  ·subst h
   rw [Ah l _ _ fun z hz => by have := ha.1 z hz; omega, List.getElem?_set, if_pos rfl, if_pos hx]
  ·exact Ly l _ ha.2 x h (by rw [List.length_set]; exact hx)
theorem Bq : ∀ (l : List Itm) (hv : List Ino), (∀ x ∈ l, hv[x.1]? = some x.2) → jj hv l = hv
 | [], _, _ => rfl
 | x :: l, hv, h => by
  have e : hv.set x.1 x.2 = hv := G2 _ _ _ (h x (by simp));rw [wu, e];exact Bq l hv fun y hy => h y (by simp [hy])
def y7 (hv : List Ino) (l : List Itm) : Bool := l.all fun x => eqI (hv.getD x.1 zeroI) x.2
theorem Iu {x : Itm} (h : l[k]? = some x) : y7 hv (l.take (k + 1)) = (y7 hv (l.take k) && eqI (hv.getD x.1 zeroI) x.2) := by
 rw [j7 h];unfold y7;rw [List.all_append];simp
theorem Pw (hl : hv.length = 256) (hs : ka l = true) : y7 hv l = true ↔ jj hv l = hv := by
 have hn : ∀ x ∈ l, x.1 < 256 := fun x hx => by
  have := (rc hs x hx).1;unfold df at this;simp at this;omega
 have hg : ∀ x ∈ l, hv[x.1]? = some (hv.getD x.1 zeroI) := fun x hx => by
  have := hn x hx;rw [List.getD_eq_getElem?_getD, List.getElem?_eq_getElem (by omega)]; rfl
 unfold y7;rw [List.all_eq_true];constructor
 ·intro h
  exact Bq l hv fun x hx => by rw [hg x hx, ir.1 (h x hx)]
 ·intro h x hx
  have h1 := Ly l hv (Af hs) x hx (by have := hn x hx; omega);rw [h, hg x hx] at h1;rw [ir];exact Option.some.inj h1
theorem Z2 (h : ∀ n ∈ hv, n.OK) (hl : ∀ x ∈ l, Itm.OK x) : ∀ n ∈ jj hv l, n.OK := fun n hn => by
 rcases Ag l hv n hn with h1 | ⟨x, hx, rfl⟩
 ·exact h n h1
 ·exact (hl x hx).2
section
variable {ρ : Operand → Value} {o : Oper} {x y : Operand} {w : World}
theorem a2o {b : Nat} {d : TypeDesc} (ho : o.op = .load ty x) (hx : ρ x = .pointer (some ⟨b, off, none⟩)) (hc : w.rangeAt b off cs) (hu : Tryz.prog.underlying ty = some d) (hd : d.isRow = true) (hi : (Tryz.prog.info? ty).map (·.size) = some cs.length) : (execOp ρ o).run Tryz.prog w = .ok (.value (.agg cs.toArray)) w := by
 have hr := run_loadAt_mid (P := Tryz.prog) w b off ty cs d hc hu hd hi;unfold execOp;simp only [ho, hx];simp only [Sem.run_bind, hr, Result.andThen_ok, Sem.run_pure]
theorem V6 : (Tryz.prog.info? 64).map (·.size) = some 45 := by kernel_rfl
theorem Xi {l : Itm} (hl : l.2.OK) (hr : w.rangeAt g off (tcI l)) (ho : o.op = .load 64 x) (hx : ρ x = .pointer (some ⟨g, off, none⟩)) : (execOp ρ o).run Tryz.prog w = .ok (.value (.agg (tcI l).toArray)) w :=
 a2o ho hx hr Tryz.underlying64 rfl (by rw [V6, bw hl])
theorem ro {j : Nat} (hj : j = 0 ∨ j = 1) (ho : o.op = .fieldAddr 64 x j) (hx : ρ x = .pointer (some ⟨g, 0, none⟩)) : (execOp ρ o).run Tryz.prog w = .ok (.value (.pointer (some ⟨g, j, none⟩))) w := by
 unfold execOp;simp only [ho];rcases hj with rfl | rfl <;> go_simp
end
theorem a0o {w Y : World} (h : Fr w D s bs X) (hb : Below X.heap.size X Y) (hn : ∀ y ∈ b, Blk Y y.1 y.2.1 y.2.2 ∧ X.heap.size ≤ y.1) : Fr w D s (b ++ bs) Y :=
 h.turn (F := fun _ => False) (Chg.of_below hb) (fun g hf => hf.elim) (fun y hy => by
  rcases List.mem_append.1 hy with hy | hy
  ·exact ⟨(hn y hy).1, .inl (hn y hy).2⟩
  ·exact ⟨(h.bx y hy).below hb (h.bx y hy).lt, .inr ⟨y, hy, rfl⟩⟩)
theorem RowB.big {e : TypeId} {size : Nat} (h : RowB e size b v n xs) (h0 : 0 < n) : ∃ g cap cs, v = .slice (some ⟨g, 0, none⟩) n cap ∧ b = [(g, cs, e)] ∧ n ≤ cap := by
 rcases h.2 with ⟨_, h3, _⟩ | ⟨g, cap, cs, e1, e2, hc, _⟩
 ·omega
 ·exact ⟨g, cap, cs, e1, e2, hc⟩
theorem Ms (hh : h0 = List.replicate 256 zeroI) {ρ : Operand → Value} {o : Oper} {w : World} (ho : o.op = .makeSlice 51 (.const (.int .i64 256)) (.const (.int .i64 256))) (hx : ρ (.const (.int .i64 256)) = .int .i64 256) : (execOp ρ o).run Tryz.prog w = .ok (.value (.slice (some ⟨w.heap.size, 0, none⟩) 256 256)) (w.alloc (.cells (cu h0).toArray 62)) := by
 subst hh;exact S5 ho hx
theorem a09 {w : World} {gX : Nat} {c0 c1 : List Value} {rb mb BS : Bxs} (hBS : (gR, c0, 28) :: (rb ++ (mb ++ K)) = BS)
  (aR : pg w rb ((gR, c0, 28) :: (mb ++ K))) (aM : pg w mb ((gR, c0, 28) :: (rb ++ K))) (aG : pg w [(gR, c0, 28)] (rb ++ (mb ++ K)))
  (hX : ∀ z ∈ BS, z.1 ≠ gX) :
  pg w rb ((gR, c1, 28) :: (mb ++ ((gX, cs, 62) :: K))) ∧ pg w mb ((gR, c1, 28) :: (rb ++ ((gX, cs, 62) :: K))) ∧ pg w [(gR, c1, 28)] (rb ++ (mb ++ ((gX, cs, 62) :: K))) := by
 have hm : ∀ z : Nat × List Value × TypeId, z ∈ (gR, c0, 28) :: (rb ++ (mb ++ K)) → z ∈ BS := fun z hz => by rw [← hBS]; exact hz
 refine ⟨fun y hy => ⟨(aR y hy).1, fun z hz => ?_⟩, fun y hy => ⟨(aM y hy).1, fun z hz => ?_⟩, fun y hy => ⟨by simp only [List.mem_singleton] at hy; rw [hy]; exact (aG (gR, c0, 28) (by simp)).1, fun z hz => ?_⟩⟩
 ·have a0 := hm y (by simp [hy])
  rcases List.mem_cons.1 hz with h | h
  ·subst h; exact (aR y hy).2 (gR, c0, 28) (by simp)
  ·rcases List.mem_append.1 h with h | h
   ·exact (aR y hy).2 z (by simp [h])
   ·rcases List.mem_cons.1 h with h | h
    ·subst h; exact fun e => hX y a0 e.symm
    ·exact (aR y hy).2 z (by simp [h])
 ·have a0 := hm y (by simp [hy])
  rcases List.mem_cons.1 hz with h | h
  ·subst h; exact (aM y hy).2 (gR, c0, 28) (by simp)
  ·rcases List.mem_append.1 h with h | h
   ·exact (aM y hy).2 z (by simp [h])
   ·rcases List.mem_cons.1 h with h | h
    ·subst h; exact fun e => hX y a0 e.symm
    ·exact (aM y hy).2 z (by simp [h])
 ·have a0 := hm (gR, c0, 28) (by simp)
  simp only [List.mem_singleton] at hy;subst hy;have a := (aG (gR, c0, 28) (by simp)).2;rcases List.mem_append.1 hz with h | h
  ·exact a z (by simp [h])
  ·rcases List.mem_append.1 h with h | h
   ·exact a z (by simp [h])
   ·rcases List.mem_cons.1 h with h | h
    ·subst h; exact fun e => hX (gR, c0, 28) a0 e.symm
    ·exact a z (by simp [h])
theorem RowB.cellI {w : World} (h : RowB 51 1 b (.slice (some ⟨g, 0, none⟩) n c) n xs) (hF : Fr w D s bs X) (hs : ∀ y ∈ b, y ∈ bs) (hk : xs[k]? = some v) : n ≤ c ∧ X.cell? ⟨g, k, none⟩ = some v := by
 rcases h.2 with ⟨e, h3, _⟩ | ⟨g', cap', cs', e, e2, hc, _, _, ht⟩
 ·cases e
 ·injection e with e3 _ e4
  injection e3 with e5
  injection e5 with e6
  subst e6 e4;have hB := hF.at (g := g) (cs := cs') (t := 51) (hs _ (by rw [e2]; simp));refine ⟨hc, hB.cell ?_⟩;rw [← ht, List.getElem?_take] at hk;split at hk
  ·exact hk
  ·cases hk
theorem Zh (R : Value → Nat → World → Prop) {c : Code} {Q : Exit → Act → World → Prop} {a : Act} {w : World} (h : ∃ A : Value → Nat → Act, c.wp Tryz.prog (fun e a w => e = .normal ∧ ∃ v g, a = A v g ∧ R v g w) a w ∧ ∀ v g W, R v g W → Q .normal (A v g) W) : c.wp Tryz.prog Q a w := by
 obtain ⟨A, h1, h2⟩ := h;exact Code.wp_mono (fun e a w ⟨e1, v, g, e2, e3⟩ => by subst e1 e2; exact h2 v g _ e3) h1
theorem Zl (h : (Tryz.prog.info? ty).map (fun i => i.zero) = some (some (.agg z))) (W : World) : (zeroValue ty).run Tryz.prog W = .ok (.agg z) W := by
 obtain ⟨i, h1, h2⟩ := Option.map_eq_some_iff.1 h;simp [zeroValue, typeInfo, h1, h2]
theorem Hk {ρ : Operand → Value} {o : Oper} {w : World} (hg : w.heap.size = g) (h : (Tryz.prog.info? ty).map (fun i => i.zero) = some (some (.agg z))) (ho : o.op = .alloc ty) : (execOp ρ o).run Tryz.prog w = .ok (.value (.pointer (some ⟨g, 0, none⟩))) (w.alloc (.cells z ty)) := by
 subst hg
 have hr : (Instr.alloc ty true (.tuple #[])).run Tryz.prog w = .ok (.pointer (some ⟨w.heap.size, 0, none⟩)) (w.alloc (.cells z ty)) := by
  unfold Instr.alloc;simp only [Sem.run_bind, Zl h, Result.andThen_ok];simp [newVar, newRow, newObj];rfl
 unfold execOp;simp only [ho, Sem.run_bind, hr, Result.andThen_ok, Sem.run_pure]
theorem Jn : (Tryz.prog.info? 28).map (fun i => i.zero) = some (some (.agg (a8 zeroP).toArray)) := by kernel_rfl
theorem Hv (l : List Ino) : ∀ u ∈ cu l, u.oneCell' = true := fun u hu => by
 obtain ⟨p, _, hu⟩ := List.mem_flatMap.1 hu;exact tq p u hu
end Go.Proofs.YtjgjohdeeeoeoaaGreatDoor
