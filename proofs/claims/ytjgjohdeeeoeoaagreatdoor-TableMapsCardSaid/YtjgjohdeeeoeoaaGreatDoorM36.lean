/- The items of each leaf, as the program gathers them. -/
import Derived.Test.YtjgjohdeeeoeoaaGreatDoorM35
import Derived.WideMake
import Derived.Test.YtjgjohdeeeoeoaaGreatDoorM30
import Derived.Test.YtjgjohdeeeoeoaaGreatDoorM22
import Derived.Test.YtjgjohdeeeoeoaaGreatDoorM11
import Derived.Deep.Slices
set_option linter.all false
namespace Go.Proofs.YtjgjohdeeeoeoaaGreatDoor
open Go.RowKit
attribute [local go_sem] Oper.semAt_some
variable {M N cap n : Nat}
section
variable {ρ : Operand → Value} {o : Oper} {x y z : Operand} {w : World}
set_option maxRecDepth 100000 in
theorem Kr {sp : Option Addr} (hn : n ≤ cap) (ho : o.op = .slice 55 x none (some y) (some z)) (hx : ρ x = .slice sp N cap) (hy : ρ y = .int .i64 (n : Int)) (hz : ρ z = .int .i64 (n : Int)) (h0 : 0 < n) :
  (execOp ρ o).run Tryz.prog w = .ok (.value (.slice sp n n)) w := by
 have hr : (Instr.sliceAt 55 (.slice sp N cap) none (some (.int .i64 (n : Int))) (some (.int .i64 (n : Int)))).run Tryz.prog w = .ok (.slice sp n n) w := by
  rw [run_sliceAt_slice w 55 _ _ _ _ Ch, run_slice_hm w 55 sp N cap Ch .i64 .i64 n n (by omega) (by omega) (by omega), K7, G4];have e : Option.map (fun x : Addr => x.add 0) sp = sp := (by cases sp with | none => rfl | some a => cases a; simp [Addr.add]);simp [Result.andThen, sliced, e]
 unfold execOp;simp only [ho, hx, hy, hz, Option.map_some, Option.map_none, Sem.run_bind, hr, Result.andThen_ok, Sem.run_pure]
set_option maxRecDepth 100000 in
theorem Kt {g o' : Nat} (hn : n ≤ N) (ho : o.op = .slice 55 x (some y) none none) (hx : ρ x = .slice (some ⟨g, o', none⟩) N cap) (hy : ρ y = .int .i64 (n : Int)) :
  (execOp ρ o).run Tryz.prog w = .ok (.value (.slice (if cap = n then some ⟨g, o', none⟩ else some ⟨g, o' + n * 45, none⟩) (N - n) (cap - n))) w := by
 have hr : (Instr.sliceAt 55 (.slice (some ⟨g, o', none⟩) N cap) (some (.int .i64 (n : Int))) none none).run Tryz.prog w = .ok (.slice (if cap = n then some ⟨g, o', none⟩ else some ⟨g, o' + n * 45, none⟩) (N - n) (cap - n)) w := by
  rw [run_sliceAt_slice w 55 _ _ _ _ Ch, run_slice_l w 55 (some ⟨g, o', none⟩) N cap Ch .i64 n (by omega) (by omega), K7, G4]
  have e : (Addr.mk g o' none).add (n * 45) = ⟨g, o' + n * 45, none⟩ := by
   unfold Addr.add;split
   ·rename_i h; rw [h, Nat.add_zero]
   ·rfl
  simp only [Result.andThen, sliced, Int.toNat_natCast, Option.map_some, e]
 unfold execOp;simp only [ho, hx, hy, Option.map_some, Option.map_none, Sem.run_bind, hr, Result.andThen_ok, Sem.run_pure]
theorem Kp {k : Nat} {b : Spt} {w' : World} (hr : (Instr.mapUpdate 96 (.map (some M)) (.int .u32 (k : Int)) (SpV b)).run Tryz.prog w = .ok () w') (ho : o.op = .mapUpdate 96 x y z) (hx : ρ x = .map (some M)) (hy : ρ y = .int .u32 (k : Int)) (hz : ρ z = SpV b) :
  (execOp ρ o).run Tryz.prog w = .ok .skip w' := by
 unfold execOp;simp only [ho, hx, hy, hz, Sem.run_bind, hr, Result.andThen_ok, Sem.run_pure]
theorem Kk {ad : Addr} {v : Value} (ho : o.op = .load 96 x) (hx : ρ x = .pointer (some ad)) (hc : w.cell? ad = some v) : (execOp ρ o).run Tryz.prog w = .ok (.value v) w := by
 unfold execOp; simp only [ho]; go_simp
end
def Qk (w : World) (g o : Nat) (N cap M : Nat) (f : Nat → Option Spt) (n : Nat) (off k : Nat) (e : Ending) (w' : World) : Prop :=
 ∃ sp', e = .returned (.slice sp' (N - k) (cap - k)) ∧ (k < N → sp' = some ⟨g, o + k * 45, none⟩) ∧ (∃ n', n' ≤ n + 1 ∧ MapG TU w' M (B1 f off (some (g, o, k))) n') ∧ Chg (fun j => j = M) w w'
set_option maxRecDepth 100000 in
set_option maxHeartbeats 8000000 in
theorem Hr (x : Itm) (l : List Itm) (hok : ∀ y ∈ x :: l, Itm.OK y) (g o cap : Nat) (hc : (x :: l).length ≤ cap) (hl : (x :: l).length ≤ 1000) (w : World) (hS : SrcT w (some ⟨g, o, none⟩) (x :: l)) {B : Nat} (hB : w.cell? ⟨B, 0, none⟩ = some (.map (some M))) {f : Nat → Option Spt} (hM : MapG TU w M f n) (hn : n < 1000) :
  Calls Tryz.prog 65 #[.slice (some ⟨g, o, none⟩) (x :: l).length cap, .pointer (some ⟨B, 0, none⟩)] w (Qk w g o (x :: l).length cap M f n (x.1 / 4) (fm (x.1 / 4) (x :: l))) := by
 obtain ⟨L, hL⟩ : ∃ L, x :: l = L := ⟨_, rfl⟩;have hx0 : L[0]? = some x := by rw [← hL]; rfl
 have ao : 0 < L.length := by rw [← hL]; simp
 rw [hL] at hok hc hl hS ⊢;clear hL;obtain ⟨off, a0⟩ : ∃ n, x.1 / 4 = n := ⟨_, rfl⟩;have av : x.1 < 65536 := (hok x (List.mem_of_getElem? hx0)).1;rw [a0];have ai := zH a0;obtain ⟨K, hK⟩ : ∃ K, fm off L = K := ⟨_, rfl⟩;have an : K ≤ L.length := by rw [← hK]; exact zt off L
 have b1 : 0 < K := by
  rcases Nat.eq_zero_or_pos K with e | e
  ·rw [e] at hK
   exact absurd a0 (ni (l := L) (off := off) (x := x) (by rw [hK]; exact hx0))
  ·exact e
 rw [hK];obtain ⟨N, hN⟩ : ∃ N, L.length = N := ⟨_, rfl⟩;obtain ⟨g', o', e1, hg, b2⟩ := hS (by omega);injection e1 with e1
 injection e1 with e1 e2 _
 subst e1 e2;have am : ∀ i y, L[i]? = some y → w.cell? ⟨g, o + i * 45, none⟩ = some (.int .u16 (y.1 : Int)) := fun i y hy => Ft (b2 i y hy)
 have b4 := zH am; have b6 := zH hok; have HN := zH hN; have HK := zH hK; have a2 := zH hM; have az := zH hn; have HB := zH hB;rw [hN] at hc hl ao an ⊢;generalize hPost : Qk w g o N cap M f n off K = Post;have HP : Hid (∀ sp' w', (K < N → sp' = some ⟨g, o + K * 45, none⟩) → (∃ n', n' ≤ n + 1 ∧ MapG TU w' M (B1 f off (some (g, o, K))) n') → Chg (fun j => j = M) w w' → Post (.returned (.slice sp' (N - K) (cap - K))) w') := zH fun sp' w' h1 h2 h3 => by rw [← hPost]; exact ⟨sp', rfl, h1, h2, h3⟩
 have HC := zH hc; have HL := zH hl; have ay := zH ao; have ae := zH an; have ag := zH b1;have c0 := am 0 x hx0;rw [Nat.zero_mul, Nat.add_zero] at c0;obtain ⟨xo, b3⟩ : ∃ n, x.1 = n := ⟨_, rfl⟩;rw [b3] at c0 av a0;have al := zH av;have aj := zH a0;clear hok hc hl hS hB hM hn hx0 ao av a0 hK an b1 hN hg b2 am hPost b3 ai;go_enter Tryz.func65, Tryz.ntmps65
 go_wp2_with (first | (refine a9 rfl (uc (k := 0) rfl rfl rfl ⟨ay.out, HC.out⟩) ?_; rw [Nat.zero_mul, Nat.add_zero]) | fail)
 refine (kn xo al.out w).mono ?_;rintro e w6 ⟨rfl, rfl⟩;rw [aj.out];clear c0
 go_wp2_with fail
 go_loopw [5] (fun v wr => ∃ k : Nat, 0 < k ∧ k ≤ N ∧ v = .int .i64 (k : Int) ∧ (∀ i y, i < k → L[i]? = some y → y.1 / 4 = off) ∧ wr = w6) (fun v _ => N - (intOf v).toNat)
 case atStart => exact ⟨1, by omega, ay.out, rfl, fun i y hi hy => by
  obtain rfl : i = 0 := by omega
  exact D6 (l := L) (k := 0) (by rw [HK.out]; exact ag.out) hy, rfl⟩
 case round =>
  obtain ⟨k, ba, bb, rfl, a7, rfl⟩ := hrel;have a3 := zH a7;have bc := IntWalk.i64_in ((k : Int) + 1) (by have := HL.out; omega);clear a7;by_cases hlt : k < N
  ·obtain ⟨y, hy⟩ : ∃ y, L[k]? = some y := ⟨_, List.getElem?_eq_getElem (by have := HN.out; omega)⟩
   have HY := zH hy;have ax : y.1 < 65536 := (b6.out y (List.mem_of_getElem? hy)).1;have ck := b4.out k y hy;obtain ⟨yo, aw⟩ : ∃ n, y.1 = n := ⟨_, rfl⟩;rw [aw] at ck ax;have b0 := zH aw;have b7 := zH ax;have b5 : Hid (k < N ∧ N ≤ cap) := zH ⟨hlt, HC.out⟩;clear hy ax aw
   go_wp2_with (first | (refine aq (by rfl) (uc (k := k) rfl rfl rfl b5.out) ?_) | fail)
   refine (kn yo b7.out wr).mono ?_;rintro e w7 ⟨rfl, rfl⟩;by_cases he : yo / 4 = off
   ·have ap : (((yo / 4 : Nat) : Int) == (off : Int)) = true := by simp [he]
    have HG : Hid (∀ i z, i < k + 1 → L[i]? = some z → z.1 / 4 = off) := zH (fun i z hi hz => by
     rcases Nat.lt_succ_iff_lt_or_eq.1 hi with h | rfl
     ·exact a3.out i z h hz
     ·rw [HY.out] at hz; cases hz; rw [b0.out]; exact he)
    obtain ⟨q, hq⟩ : ∃ q, yo / 4 = q := ⟨_, rfl⟩;rw [hq] at ap ⊢;clear he hq ck
    go_wp2_with fail
    go_roundw
    case rel => exact ⟨k + 1, by omega, by omega, by go_num, HG.out, by first | rfl | trivial⟩
    case measure => simp [intOf]; omega
   ·have ap : (((yo / 4 : Nat) : Int) == (off : Int)) = false := by simp; omega
    have b9 : K = k := by
     rw [← HK.out];exact Lh (fun i z hi hz => a3.out i z hi hz) (by have := HN.out; omega) (fun z hz => by rw [HY.out] at hz; cases hz; rw [b0.out]; exact he)
    subst b9;obtain ⟨q, hq⟩ : ∃ q, yo / 4 = q := ⟨_, rfl⟩;rw [hq] at ap ⊢;clear he hq ck
    go_upto_region 4 with fail
    have ah : Hid (MapG TU w7.drew M f n) := zH (a2.out.kept rfl);obtain ⟨w8, a1, ab, a5⟩ := ah.out.put (by have := az.out; omega) (x := off) (by show off < 4294967296; have := aj.out; have := al.out; omega) (some (g, o, K));have aa : Chg (fun j => j = M) w7 w8 := ((Chg.refl (fun j => j = M) w7).drew).grown a5 (fun k e => .inl (by cases e; rfl));have ad : (if (f off).isSome then n else n + 1) ≤ n + 1 := (by split <;> omega)
    have a8 : w8.cell? ⟨B, 0, none⟩ = some (.map (some M)) := by
     have ar : B ≠ M := fun e => by
      subst e;obtain ⟨es, c, ho⟩ := a2.out.obj;have := HB.out;simp [World.cell?, ho] at this
     rw [World.cell?_of_block (w := w7.drew) (a := ⟨B, 0, none⟩) (a5.block B (lj HB.out) (fun e => ar (by cases e; rfl)))];exact HB.out
    have a4 := zH a1; have af := zH a8;obtain ⟨sq, a6⟩ : ∃ sq, (if cap = K then some (Addr.mk g o none) else some ⟨g, o + K * 45, none⟩) = sq := ⟨_, rfl⟩;have HE := zH (HP.out sq w8 (fun h => by rw [← a6, if_neg (by have := HC.out; omega)]) ⟨_, ad, ab⟩ aa);have ak := zH a6;clear a1 ab a5 aa ad a8 a6;refine gS (.take 0 (.take 1 (.take 2 (.take 3 (.take 4 (.take 5 (.step 6 (.nil)))))))) (fun X => X.cell? ⟨B, 0, none⟩ = some (.map (some M))) HB.out ?_;refine gU (.map (some M)) rfl (fun X hX => Kk rfl rfl hX) ?_;refine gT (.int .u32 (off : Int)) ?_;refine gT (.slice (some ⟨g, o, none⟩) N cap) ?_;refine gT (.int .i64 (K : Int)) ?_;refine gT (.int .i64 (K : Int)) ?_;refine gU (.slice (some ⟨g, o, none⟩) K K) rfl (fun X hX => Kr (by have := HC.out; have := ae.out; omega) rfl rfl rfl rfl ag.out) ?_;refine pf _ rfl (by rfl) w8 (Kp (b := some (g, o, K)) a4.out rfl rfl rfl rfl) (fun X => X.cell? ⟨B, 0, none⟩ = some (.map (some M))) af.out (fun _ h => h) ?_;refine au ?_
    go_wp2_with (first | (refine a9 rfl ((Kt ae.out rfl rfl rfl).trans (by rw [ak.out])) ?_) | fail)
    first | exact HE.out | (go_ret; exact HE.out)
  ·have b8 : K = N := by
    rw [← HK.out]
    exact Lh (fun i z hi hz => a3.out i z (by omega) hz) (by have := HN.out; omega) (fun z hz => by
     have := (List.getElem?_eq_some_iff.1 hz).1;have := HN.out
     omega)
   obtain rfl : k = N := by omega
   obtain rfl : K = k := b8
   go_upto_region 4 with fail
   have ah : Hid (MapG TU wr.drew M f n) := zH (a2.out.kept rfl);obtain ⟨w8, a1, ab, a5⟩ := ah.out.put (by have := az.out; omega) (x := off) (by show off < 4294967296; have := aj.out; have := al.out; omega) (some (g, o, K));have aa : Chg (fun j => j = M) wr w8 := ((Chg.refl (fun j => j = M) wr).drew).grown a5 (fun k e => .inl (by cases e; rfl));have ad : (if (f off).isSome then n else n + 1) ≤ n + 1 := (by split <;> omega)
   have a8 : w8.cell? ⟨B, 0, none⟩ = some (.map (some M)) := by
    have ar : B ≠ M := fun e => by
     subst e;obtain ⟨es, c, ho⟩ := a2.out.obj;have := HB.out;simp [World.cell?, ho] at this
    rw [World.cell?_of_block (w := wr.drew) (a := ⟨B, 0, none⟩) (a5.block B (lj HB.out) (fun e => ar (by cases e; rfl)))];exact HB.out
   have a4 := zH a1; have af := zH a8;obtain ⟨sq, a6⟩ : ∃ sq, (if cap = K then some (Addr.mk g o none) else some ⟨g, o + K * 45, none⟩) = sq := ⟨_, rfl⟩;have HE := zH (HP.out sq w8 (fun h => by rw [← a6, if_neg (by have := HC.out; omega)]) ⟨_, ad, ab⟩ aa);have ak := zH a6
   (try rw [Nat.sub_self] at HE)
   clear a1 ab a5 aa ad a8 a6;refine gS (.take 0 (.take 1 (.take 2 (.take 3 (.take 4 (.take 5 (.step 6 (.nil)))))))) (fun X => X.cell? ⟨B, 0, none⟩ = some (.map (some M))) HB.out ?_;refine gU (.map (some M)) rfl (fun X hX => Kk rfl rfl hX) ?_;refine gT (.int .u32 (off : Int)) ?_;refine gT (.slice (some ⟨g, o, none⟩) K cap) ?_;refine gT (.int .i64 (K : Int)) ?_;refine gT (.int .i64 (K : Int)) ?_;refine gU (.slice (some ⟨g, o, none⟩) K K) rfl (fun X hX => Kr (by have := HC.out; have := ae.out; omega) rfl rfl rfl rfl ag.out) ?_;refine pf _ rfl (by rfl) w8 (Kp (b := some (g, o, K)) a4.out rfl rfl rfl rfl) (fun X => X.cell? ⟨B, 0, none⟩ = some (.map (some M))) af.out (fun _ h => h) ?_;refine au ?_
   go_wp2_with (first | (refine a9 rfl ((Kt ae.out rfl rfl rfl).trans (by rw [ak.out])) ?_) | fail)
   first | exact HE.out | (go_ret; exact HE.out)
theorem Xl {ρ : Operand → Value} {o : Oper} {w : World} (ho : o.op = .makeMap 96 none) : (execOp ρ o).run Tryz.prog w = .ok (.value (.map (some w.heap.size))) (w.alloc (.map #[] 0)) := by
 have hr := run_makeMap_plain (P := Tryz.prog) w 96;unfold execOp;simp only [ho];simp [hr, Result.andThen]
theorem Pk (g o : Nat) : jk g o [] = fun _ => none := by funext off; simp [jk, cq]
structure ByS (w : World) (sp : Option Addr) (l : List Itm) (B : Nat) (i : Nat) (X : World) : Prop where
 bel : Below w.heap.size w X
 box : X.cell? ⟨B, 0, none⟩ = some (.map (some (w.heap.size)))
 new : B = w.heap.size + 1
 map : ∀ g o, (0 < l.length → sp = some ⟨g, o, none⟩) → ∃ n, n ≤ i ∧ MapG TU X w.heap.size (jk g o (l.take i)) n
 ile : i ≤ l.length
 apart : ∀ z, l[i]? = some z → ∀ y ∈ l.take i, y.1 / 4 ≠ z.1 / 4
def Qj (w : World) (sp : Option Addr) (l : List Itm) (e : Ending) (w' : World) : Prop :=
 ∃ M, e = .returned (.map (some M)) ∧ w.heap.size ≤ M ∧ Below w.heap.size w w' ∧ ∀ g o, (0 < l.length → sp = some ⟨g, o, none⟩) → ∃ n, n ≤ l.length ∧ MapG TU w' M (jk g o l) n
set_option maxRecDepth 100000 in
set_option maxHeartbeats 8000000 in
theorem Hc (l : List Itm) (hok : ∀ y ∈ l, Itm.OK y) (hasc : AscI l) (sp : Option Addr) (cap : Nat) (hc : l.length ≤ cap) (hl : l.length ≤ 900) (w : World) (hS : SrcT w sp l) :
  Calls Tryz.prog 35 #[.slice sp l.length cap] w (Qj w sp l) := by
 have al := zH hok; have a8 := zH hasc; have HC := zH hc; have HL := zH hl; have HS := zH hS;generalize hPost : Qj w sp l = Post;have HP : Hid (∀ M X, w.heap.size ≤ M → Below w.heap.size w X → (∀ g o, (0 < l.length → sp = some ⟨g, o, none⟩) → ∃ n, n ≤ l.length ∧ MapG TU X M (jk g o l) n) → Post (.returned (.map (some M))) X) := zH fun M X h1 h2 h3 => by rw [← hPost]; exact ⟨M, rfl, h1, h2, h3⟩
 obtain ⟨N, hN⟩ : ∃ N, l.length = N := ⟨_, rfl⟩;have HN := zH hN;rw [hN];clear hok hasc hc hl hS hPost hN;go_enter Tryz.func35, Tryz.ntmps35
 go_upto_region 2 with (first | (refine a9 rfl (Xl rfl) ?_) | fail)
 refine (fun (k : ∀ W, ByS w sp l (w.heap.size + 1) 0 W → Code.wp _ _ _ _ W) => k _ ?_) ?_
 ·have h1 : Below w.heap.size w ((w.alloc (.map #[] 0)).alloc (.cells #[.map (some w.heap.size)] 96)) := ((Below.refl _ _).alloc (Nat.le_refl _) _).alloc (by simp) _
  have hb := Blk.new' (w.alloc (.map #[] 0)) #[.map (some w.heap.size)] [.map (some w.heap.size)] 96 (w.heap.size + 1) (by simp) rfl;refine ⟨h1, hb.cell (j := 0) rfl, rfl, fun g o _ => ⟨0, Nat.le_refl _, ?_⟩, Nat.zero_le _, fun z hz y hy => by simp at hy⟩;rw [List.take_zero, Pk];exact (MapG.made (T := TU) w).kept (Below.heap_alloc _ _ _ (by simp))
 intro W hW;obtain ⟨B, hB⟩ : ∃ B, w.heap.size + 1 = B := ⟨_, rfl⟩;rw [hB] at hW ⊢;have HW := zH hW;clear hW hB
 go_wp2_with fail
 go_loopw [0] (fun v wr => ∃ i ad a1, v = .slice ad (N - i) a1 ∧ ByS w sp l B i wr ∧ (N - i ≤ a1) ∧ (i < N → ∀ g o, sp = some ⟨g, o, none⟩ → ad = some ⟨g, o + i * 45, none⟩)) (fun v _ => match v with | .slice _ n _ => n | _ => 0)
 case atStart => exact ⟨0, sp, cap, rfl, HW.out, by have := HC.out; have := HN.out; omega, fun _ g o e => by rw [e, Nat.zero_mul, Nat.add_zero]⟩
 case round =>
  obtain ⟨i, ad, a1, rfl, ai, a4, ah⟩ := hrel;have a0 := zH ai;clear ai HW;by_cases hlt : i < N
  ·obtain ⟨x, hx⟩ : ∃ x, l[i]? = some x := ⟨_, List.getElem?_eq_getElem (by have := HN.out; omega)⟩
   obtain ⟨g, o, rfl, hg, ag⟩ := HS.out (by have := HN.out; omega);obtain rfl := ah hlt g o rfl;obtain ⟨n, hn, hm⟩ := a0.out.map g o (fun _ => rfl)
   have hd : l.drop i = x :: l.drop (i + 1) := by
    obtain ⟨h1, e1⟩ := List.getElem?_eq_some_iff.1 hx;rw [List.drop_eq_getElem_cons h1, e1]
   have a5 : (x :: l.drop (i + 1)).length = N - i := by rw [← hd, List.length_drop, HN.out]
   have a6 : SrcT wr (some ⟨g, o + i * 45, none⟩) (x :: l.drop (i + 1)) := fun _ => ⟨g, o + i * 45, rfl, Nat.lt_of_lt_of_le hg a0.out.bel.size, fun j z hz => by
    rw [← hd, List.getElem?_drop] at hz;have h1 := ag (i + j) z hz;rw [show o + i * 45 + j * 45 = o + (i + j) * 45 by omega];intro q v hv;rw [a0.out.bel.cell (p := ⟨g, o + (i + j) * 45 + q, none⟩) hg]
    exact h1 q v hv⟩
   have a7 := Hr x (l.drop (i + 1)) (fun y hy => al.out y (List.mem_of_mem_drop (by rw [← hd] at hy; exact hy))) g (o + i * 45) a1 (by rw [a5]; exact a4) (by rw [a5]; have := HL.out; have := HN.out; omega) wr a6 a0.out.box hm (by have := HL.out; have := HN.out; have := a0.out.ile; omega);rw [a5] at a7;obtain ⟨K, hK⟩ : ∃ K, fm (x.1 / 4) (x :: l.drop (i + 1)) = K := ⟨_, rfl⟩;have af : fm (x.1 / 4) (l.drop i) = K := (by rw [hd]; exact hK);have an : K ≤ N - i := (by rw [← hK, ← a5]; exact zt _ _)
   have ap : 0 < K := by
    rcases Nat.eq_zero_or_pos K with e | e
    ·rw [e] at hK
     exact absurd rfl (ni (l := x :: l.drop (i + 1)) (off := x.1 / 4) (x := x) (by rw [hK]; rfl))
    ·exact e
   rw [hK] at a7;have a3 := Io (g := g) (o := o) (l := l) hx (a0.out.apart x hx);have a2 := N9 a8.out hx;rw [af] at a3 a2;have ae := zH a7
   have ak : Hid (∀ w8, (∃ n', n' ≤ n + 1 ∧ MapG TU w8 w.heap.size (B1 (jk g o (l.take i)) (x.1 / 4) (some (g, o + i * 45, K))) n') → Chg (fun j => j = w.heap.size) wr w8 → ByS w (some ⟨g, o, none⟩) l B (i + K) w8) := zH (fun w8 ⟨n', h1, h2⟩ h3 => by
    refine ⟨?_, ?_, a0.out.new, fun g' o' e => ⟨n', by omega, ?_⟩, by have := HN.out; omega, a2⟩
    ·exact a0.out.bel.trans ⟨h3.os, h3.tape, h3.output, h3.size, fun k hk => h3.block k (Nat.lt_of_lt_of_le hk a0.out.bel.size) (by omega)⟩
    ·rw [World.cell?_of_block (w := wr) (a := ⟨B, 0, none⟩) (h3.block B (lj a0.out.box) (by have := a0.out.new; omega))]
     exact a0.out.box
    ·have e' := e (by have := HN.out; omega)
     injection e' with e'
     injection e' with e1 e2 _
     subst e1 e2;rw [a3]
     exact h2)
   have ab : ¬ ((N - i : Nat) : Int) ≤ 0 := (by omega);have HI : Hid (i < N) := zH hlt;clear hx hg ag hm hd a5 a6 a7 hK af a3 a2 hn;obtain ⟨R, hR⟩ : ∃ R, N - i = R := ⟨_, rfl⟩;rw [hR] at ab an a4 ae ⊢;have HR := zH hR;clear hR hlt
   go_wp2_with fail
   refine ae.out.mono ?_;rintro e w8 ⟨ao, rfl, h1, h2, h3⟩;have am := zH (ak.out w8 h2 h3);have aa := zH h1;clear h1 h2 h3
   go_wp2_with fail
   go_roundw
   case rel => exact ⟨i + K, ao, a1 - K, by rw [show N - (i + K) = R - K by have := HR.out; omega], am.out, by have := HR.out; omega, fun hi g' o' e => by
    injection e with e
    injection e with e1 e2 _
    subst e1 e2
    rw [aa.out (by have := HR.out; omega), show o + i * 45 + K * 45 = o + (i + K) * 45 by omega]⟩
   case measure => simp; omega
  ·have hi : i = N := by have := a0.out.ile; have := HN.out; omega
   subst hi;have hz : ((i - i : Nat) : Int) = 0 := (by omega);have aj : i - i = 0 := (by omega);have hb := a0.out.box
   have HE := zH (HP.out w.heap.size wr (Nat.le_refl _) a0.out.bel (fun g o e => by
    obtain ⟨n, h1, h2⟩ := a0.out.map g o e;rw [List.take_of_length_le (by have := HN.out; omega)] at h2
    exact ⟨n, by have := HN.out; omega, h2⟩))
   rw [aj];clear hlt ah a4 hz aj
   go_wp2_with fail
   first | exact HE.out | (go_ret; exact HE.out)
end Go.Proofs.YtjgjohdeeeoeoaaGreatDoor
namespace Go.Proofs.YtjgjohdeeeoeoaaGreatDoor
open Go.RowKit
variable {ns : List Ino} {l : List Itm} {ls : List Lf} {os ss : List Nat} {g n o off : Nat} {p : Pt} {s : Sh}
def SameB (s s' : Sh) : Prop := s'.blocks = s.blocks ∧ s'.bad = s.bad
theorem SameB.refl (s : Sh) : SameB s s := ⟨rfl, rfl⟩
theorem SameB.trans {a b c : Sh} (h : SameB a b) (k : SameB b c) : SameB a c := ⟨k.1.trans h.1, k.2.trans h.2⟩
theorem uw (s : Sh) (p : Pt) : SameB s (rnS s p) := by unfold rnS rdS; split <;> exact ⟨rfl, rfl⟩
theorem Vl (s : Sh) (p : Pt) : SameB s (tbS s p) := by unfold tbS rdS; split <;> exact ⟨rfl, rfl⟩
theorem zj {f : Sh → List Pt → List Lf → Pt → Nat → Bw} (hf : ∀ s ns ls q a, SameB s (f s ns ls q a).s) (wide first fr tt : Nat) : ∀ (qs : List Pt) (i : Nat) (s : Sh) (ns : List Pt) (ls : List Lf), SameB s (goB f wide first fr tt qs i s ns ls).s
 | [], _, s, _, _ => SameB.refl s
 | q :: qs, i, s, ns, ls => by
  by_cases hc : first + i * wide + wide ≤ fr ∨ tt ≤ first + i * wide
  ·rw [jc hc]; exact zj hf wide first fr tt qs _ _ _ _
  ·by_cases he : (f s ns ls q (first + i * wide)).e = 0
   ·rw [mp hc he]
    exact (hf _ _ _ _ _).trans (zj hf wide first fr tt qs _ _ _ _)
   ·rw [ug hc he]; exact hf _ _ _ _ _
theorem px (fr tt : Nat) : ∀ (n : Nat) (s : Sh) (ns : List Pt) (ls : List Lf) (p : Pt) (first : Nat), SameB s (bg fr tt n s ns ls p first).s
 | 0, s, ns, ls, p, first => by
  unfold bg;split <;> exact SameB.refl s
 | n + 1, s, ns, ls, p, first => by
  rw [bu];split
  ·exact SameB.refl s
  ·split
   ·exact uw s p
   ·exact (uw s p).trans (zj (fun s ns ls q a => px fr tt n s ns ls q a) (8 ^ n) first fr tt (rnN s p) 0 (rnS s p) (ns ++ [p]) ls)
theorem sc (s : Sh) (p : Pt) (off : Nat) : SameB s (jb s p off) := by
 unfold jb;split
 ·exact SameB.refl s
 ·exact px off (off + 1) 2 s [] [] p 0
theorem E2 (s : Sh) (p : Pt) (off : Nat) : SameB s (blS s p off) := by
 unfold blS;split
 ·exact sc s p off
 ·exact (sc s p off).trans (Vl _ _)
theorem Ma (s : Sh) (p : Pt) : SameB s (ky s p) := by
 unfold ky;split
 ·exact SameB.refl s
 ·exact px _ _ 2 s [] [] p 0
def BlkOK (s : Sh) : Prop := ∀ b ∈ s.blocks, b.length ≤ 100000
theorem BlkOK.same {s' : Sh} (h : BlkOK s) (k : SameB s s') : BlkOK s' := fun b hb => h b (by rw [← k.1]; exact hb)
theorem BlkOK.rdB (h : BlkOK s) (q : Pt) : (rdB s q).length ≤ 100000 := by
 unfold Go.Proofs.YtjgjohdeeeoeoaaGreatDoor.rdB;split
 ·simp
 ·split
  ·simp
  ·rw [List.getD_eq_getElem?_getD]
   cases hb : s.blocks[at0 q - 1]? with
   | none => simp
   | some b => exact h b (List.mem_of_getElem? hb)
theorem BlkOK.taS (h : BlkOK s) (hn : BOK ns) (off : Nat) : BlkOK (taS s ns off) := by
 unfold Go.Proofs.YtjgjohdeeeoeoaaGreatDoor.taS;split
 ·exact h
 ·split
  ·exact h
  ·unfold nwS
   split
   ·exact h
   ·intro b hb
    rcases List.mem_append.1 hb with hb | hb
    ·exact h b hb
    ·simp at hb
     subst hb;rw [E3 hn];omega
theorem Vg (ho : off < 4294967296) : (taP s ns off).OK := by
 unfold taP;split
 ·exact ak
 ·split
  ·exact ak
  ·exact zz (Ap ho) _
structure Sg where
 e : Nat
 s : Sh
 l : List Lf
def jn (p : Pt) (l : List Itm) (s : Sh) (off : Nat) : List Ino := wth (blN s p off) (cq off l)
def dz (p : Pt) (l : List Itm) : List Nat → Sh → List Lf → Sg
 | [], s, ls => ⟨0, s, ls⟩
 | off :: os, s, ls =>
  if blE s p off ≠ 0 then ⟨blE s p off, blS s p off, []⟩
  else if jn p l s off = blN s p off then dz p l os (blS s p off) ls
  else if taE (blS s p off) (jn p l s off) ≠ 0 then ⟨taE (blS s p off) (jn p l s off), taS (blS s p off) (jn p l s off) off, []⟩
  else dz p l os (taS (blS s p off) (jn p l s off) off) (ls ++ [(off, taP (blS s p off) (jn p l s off) off)])
theorem Iw (h : blE s p off ≠ 0) : dz p l (off :: os) s ls = ⟨blE s p off, blS s p off, []⟩ := by
 conv => lhs; unfold dz
 rw [if_pos h]
theorem Dm (h : blE s p off = 0) (h2 : jn p l s off = blN s p off) : dz p l (off :: os) s ls = dz p l os (blS s p off) ls := by
 conv => lhs; unfold dz
 rw [if_neg (by simp [h]), if_pos h2]
theorem Uw (h : blE s p off = 0) (h2 : ¬ jn p l s off = blN s p off) (h3 : taE (blS s p off) (jn p l s off) ≠ 0) :
  dz p l (off :: os) s ls = ⟨taE (blS s p off) (jn p l s off), taS (blS s p off) (jn p l s off) off, []⟩ := by
 conv => lhs; unfold dz
 rw [if_neg (by simp [h]), if_neg h2, if_pos h3]
theorem Ix (h : blE s p off = 0) (h2 : ¬ jn p l s off = blN s p off) (h3 : taE (blS s p off) (jn p l s off) = 0) :
  dz p l (off :: os) s ls = dz p l os (taS (blS s p off) (jn p l s off) off) (ls ++ [(off, taP (blS s p off) (jn p l s off) off)]) := by
 conv => lhs; unfold dz
 rw [if_neg (by simp [h]), if_neg h2, if_neg (by simp [h3])]
def dr (l : List Itm) : List Nat := (List.range 64).filter (fun off => decide (cq off l ≠ []))
def tsR (s : Sh) (p : Pt) (l : List Itm) : Ww :=
 if ka l = false then ⟨zeroP, 1, s⟩
 else if (dz p l (dr l) s []).e ≠ 0 then ⟨zeroP, (dz p l (dr l) s []).e, (dz p l (dr l) s []).s⟩
 else vh (dz p l (dr l) s []).s p 0 (dz p l (dr l) s []).l
theorem Bp (h : ka l = true) : ∀ i, i < l.length → de l i = true := fun i hi => by
 unfold ka at h;exact List.all_eq_true.1 h i (by simpa using hi)
theorem rc (h : ka l = true) : ∀ x ∈ l, df x.1 = true ∧ ij x.2 = true := fun x hx => by
 obtain ⟨i, hi⟩ := List.getElem?_of_mem hx;have hg := Bp h i (List.getElem?_eq_some_iff.1 hi).1;unfold de at hg;rw [hi] at hg;simp only [Bool.and_eq_true] at hg
 simp_all
theorem Af (h : ka l = true) : AscI l := by
 have a0 : ∀ i x y, l[i]? = some x → l[i + 1]? = some y → x.1 < y.1 := fun i x y hx hy => by
  have hg := Bp h (i + 1) (List.getElem?_eq_some_iff.1 hy).1;unfold de at hg;rw [hy] at hg;simp [hx] at hg;omega
 unfold AscI;rw [List.pairwise_iff_getElem];intro i j hi hj hij
 induction j with
 | zero => omega
 | succ j ih =>
  have h1 := a0 j l[j] l[j + 1] (List.getElem?_eq_getElem (by omega)) (List.getElem?_eq_getElem hj);rcases Nat.lt_succ_iff_lt_or_eq.1 hij with h2 | rfl
  ·exact Nat.lt_trans (ih (by omega) h2) h1
  ·exact h1
theorem Q4 {P : Nat → Bool} (hd : ss.Nodup) (hm : ∀ x, x ∈ ss ↔ (x < 64 ∧ P x = true)) : ss.mergeSort t0 = (List.range 64).filter P := by
 have tr : ∀ a b c : Nat, t0 a b = true → t0 b c = true → t0 a c = true := fun a b c h1 h2 => by simp only [t0, decide_eq_true_eq] at *; omega
 have tt : ∀ a b : Nat, (t0 a b || t0 b a) = true := fun a b => by simp only [t0, Bool.or_eq_true, decide_eq_true_eq]; omega
 have hp : ss.Perm ((List.range 64).filter P) := by
  refine (List.perm_ext_iff_of_nodup hd (List.nodup_range.sublist List.filter_sublist)).2 fun x => ?_
  rw [hm x, List.mem_filter, List.mem_range]
 refine List.Perm.eq_of_pairwise (le := fun a b => t0 a b = true) (fun a b _ _ h1 h2 => ?_) (List.pairwise_mergeSort tr tt ss) ?_ ((List.mergeSort_perm ss t0).trans hp)
 ·simp only [t0, decide_eq_true_eq] at h1 h2
  omega
 ·refine List.Pairwise.sublist List.filter_sublist ?_
  refine List.Pairwise.imp ?_ (List.pairwise_lt_range (n := 64));intro a b h;simp only [t0, decide_eq_true_eq];omega
theorem a0p (h : ka l = true) (hg : cq off l ≠ []) : off < 64 := by
 obtain ⟨x, hx⟩ := List.exists_mem_of_ne_nil _ hg;unfold cq at hx;obtain ⟨h1, h2⟩ := List.mem_filter.1 hx;have h3 := (rc h x h1).1;unfold df at h3;simp at h2 h3;omega
theorem Bj (h : ka l = true) (hk : tw TU (jk g o l) n ss) : ss.mergeSort t0 = dr l := by
 refine Q4 hk.2.1 fun x => ?_
 rw [hk.2.2 x];unfold jk;by_cases e : cq x l = []
 ·rw [if_pos e]; simp [e]
 ·rw [if_neg e]
  have := a0p h e;simp [e, this];show x < 4294967296;omega
theorem wj (h : off ∈ dr l) : off < 64 ∧ cq off l ≠ [] := by
 unfold dr at h;obtain ⟨h1, h2⟩ := List.mem_filter.1 h;exact ⟨List.mem_range.1 h1, by simpa using h2⟩
theorem Bm (h : ka l = true) (hk : tw TU (jk g o l) n ss) : (dr l).length = ss.length := by rw [← Bj h hk, List.length_mergeSort]
theorem Xt {w : World} (hasc : AscI l) (hS : SrcT w (some ⟨g, o, none⟩) l) (off : Nat) (hg : cq off l ≠ []) : SrcT w (some ⟨g, o + l.findIdx (fun x => x.1 / 4 == off) * 45, none⟩) (cq off l) := by
 intro h0
 have hl : 0 < l.length := by
  cases l with
  | nil => simp [cq] at hg
  | cons a l => simp
 obtain ⟨g', o', e, a2, a1⟩ := hS hl;injection e with e
 injection e with e1 e2 _
 subst e1 e2;refine ⟨g, _, rfl, a2, fun i x hx => ?_⟩
 suffices hq : l[l.findIdx (fun x => x.1 / 4 == off) + i]? = some x by
  have := a1 _ x hq;rw [show o + (l.findIdx (fun x => x.1 / 4 == off) + i) * 45 = o + l.findIdx (fun x => x.1 / 4 == off) * 45 + i * 45 by omega] at this;exact this
 clear a1 hS a2 h0 hl
 induction l generalizing i with
 | nil => simp [cq] at hg
 | cons a l ih =>
  have a0 : AscI l := List.Pairwise.of_cons hasc;by_cases ha : a.1 / 4 = off
  ·rw [List.findIdx_cons, show ((a.1 / 4 == off) = true) by simpa using ha]
   simp only [cond_true, Nat.zero_add];have e1 : cq off (a :: l) = a :: cq off l := (by simp [cq, ha]);rw [e1] at hx;cases i with
   | zero => simpa using hx
   | succ i =>
    rw [List.getElem?_cons_succ] at hx ⊢;by_cases hgl : cq off l = []
    ·rw [hgl] at hx; simp at hx
    ·have h2 := ih a0 hgl i hx
     have h3 : l.findIdx (fun x => x.1 / 4 == off) = 0 := by
      cases l with
      | nil => simp [cq] at hgl
      | cons b l =>
       by_cases hb : b.1 / 4 = off
       ·rw [List.findIdx_cons, show ((b.1 / 4 == off) = true) by simpa using hb]; rfl
       ·exfalso
        apply hgl;unfold cq;rw [List.filter_eq_nil_iff];intro y hy;have a3 : a.1 < b.1 := (List.pairwise_cons.1 hasc).1 b (List.mem_cons_self ..)
        have a4 : b.1 ≤ y.1 := by
         rcases List.mem_cons.1 hy with rfl | hy
         ·exact Nat.le_refl _
         ·exact Nat.le_of_lt ((List.pairwise_cons.1 a0).1 y hy)
        simp;omega
     rw [h3, Nat.zero_add] at h2;exact h2
  ·rw [List.findIdx_cons, show ((a.1 / 4 == off) = false) by simpa using ha]
   simp only [cond_false];have e1 : cq off (a :: l) = cq off l := (by simp [cq, ha]);rw [e1] at hx hg;rw [show l.findIdx (fun x => x.1 / 4 == off) + 1 + i = (l.findIdx (fun x => x.1 / 4 == off) + i) + 1 by omega, List.getElem?_cons_succ];exact ih a0 hg i hx
end Go.Proofs.YtjgjohdeeeoeoaaGreatDoor
namespace Go.Proofs.YtjgjohdeeeoeoaaGreatDoor
open Go.RowKit
attribute [local go_sem] Oper.semAt_some
theorem More.bl {s s' : Sh} {rs : List Pt} (h : More s s' rs) : s'.blocks = s.blocks ∧ s'.bad = s.bad := by
 unfold More at h;rw [h];exact ⟨rfl, rfl⟩
theorem Xe {ρ : Operand → Value} {o : Oper} {x y : Operand} {a b : Nat} {t : TypeId} {w : World} (hab : a < b) (ho : o.op = .binOp .geq 3 x y t) (hx : ρ x = .int .i64 (a : Int)) (hy : ρ y = .int .i64 (b : Int)) : (execOp ρ o).run Tryz.prog w = .ok (.value (.bool false)) w := by
 have e : decide ((b : Int) ≤ (a : Int)) = false := by simp; omega
 unfold execOp;simp only [ho];go_simp
theorem RowB.form {e : TypeId} {size : Nat} {b : Bxs} {v : Value} {n : Nat} {xs : List Value} (h : RowB e size b v n xs) : ∃ sp cap, v = .slice sp n cap := by
 rcases h.2 with ⟨rfl, rfl, _⟩ | ⟨g, cap, cs, rfl, _⟩
 ·exact ⟨none, 0, rfl⟩
 ·exact ⟨_, _, rfl⟩
section
variable {ρ : Operand → Value} {o : Oper} {x y : Operand} {w : World}
end
end Go.Proofs.YtjgjohdeeeoeoaaGreatDoor
namespace Go.Proofs.YtjgjohdeeeoeoaaGreatDoor
open Go.ChangeShapes Go.WideShapes Go.ChangeAt Go.WideMaps Go.WideElems Go.RowKit Go.Deep
section
variable {H : Type} {enc : TypeId × Value → H} {W : World} {b' : Nat} {spare : Nat → Bool} {held : Bool}
end
end Go.Proofs.YtjgjohdeeeoeoaaGreatDoor
namespace Go.Proofs.YtjgjohdeeeoeoaaGreatDoor
open Go.ChangeShapes Go.WideShapes Go.ChangeAt Go.WideMaps Go.WideElems Go.RowKit Go.Deep
attribute [local go_sem] Oper.semAt_some
structure AcT where
 b : List (BitVec 8)
 sp : Option Addr
 cap : Nat
 H : Int
 sm : Bool
instance : Inhabited AcT := ⟨⟨[], none, 0, 0, false⟩⟩
section
variable {H : Type} {enc : TypeId × Value → H} {W : World} {spare : Nat → Bool} {held : Bool} {b' : Nat}
end
end Go.Proofs.YtjgjohdeeeoeoaaGreatDoor
namespace Go.Proofs.YtjgjohdeeeoeoaaGreatDoor
open Go.RowKit
attribute [local go_sem] Oper.semAt_some
variable {bs : Bxs} {cs xs : List Value} {D g n size : Nat} {s : Sh} {e t : TypeId} {v : Value} {X Y w : World}
theorem Fr.turn {bs' : Bxs} {F : Nat → Prop} (h : Fr w D s bs X) (hc : Chg F X Y) (hF : ∀ g, F g → w.heap.size ≤ g ∧ (X.heap.size ≤ g ∨ ∃ b ∈ bs, b.1 = g)) (hb : ∀ b ∈ bs', Blk Y b.1 b.2.1 b.2.2 ∧ (X.heap.size ≤ b.1 ∨ ∃ c ∈ bs, c.1 = b.1)) : Fr w D s bs' Y := by
 obtain ⟨⟨L1, v1, h1, h2, h3, h4⟩, k, hl⟩ := h;refine ⟨⟨L1, v1, h1.out hc (fun g hg hlt => .inl ?_) (fun _ _ => .inl rfl) (fun g hg => Nat.lt_of_lt_of_le (h1.lt g hg) hc.size), h2, fun b hb' => ?_, h4⟩, fun b hb' => (hb b hb').1, hl.trans (hc.below (fun g hg => (hF g hg).1) hl.size)⟩
 ·rcases (hF g hg).2 with e | ⟨b, hb1, rfl⟩
  ·omega
  ·exact h3 b hb1
 ·rcases (hb b hb').2 with e | ⟨c, hc1, e⟩
  ·exact h1.not e
  ·rw [← e]; exact h3 c hc1
def pg (w : World) (b bs : Bxs) : Prop := ∀ y ∈ b, w.heap.size ≤ y.1 ∧ ∀ z ∈ bs, z.1 ≠ y.1
theorem RowB.blk {b : Bxs} (h : RowB e size b v n xs) {k : Nat} (hk : v.ownBlock = some k) : ∃ y ∈ b, y.1 = k := by
 rcases h.2 with ⟨rfl, _⟩ | ⟨g, cap, cs, rfl, rfl, _⟩
 ·cases hk
 ·exact ⟨(g, cs, e), by simp, by cases hk; rfl⟩
def Jq (t e : TypeId) (size : Nat) : Prop := ∀ (Y : World) (v : Value) (n : Nat) (xs ys : List Value) (g c : Nat) (m : Nat), Y.ownsRow 0 e size v n xs → n + m < 100000000 → ys.length = m * size → (∀ j u, ys[j]? = some u → Y.cell? ((⟨g, 0, none⟩ : Addr).add j) = some u) → (∀ u ∈ ys, u.oneCell' = true) →
 ∃ v' w', (Builtin.append_ #[t, t] t #[v, .slice (some ⟨g, 0, none⟩) m c]).run Tryz.prog Y = .ok v' w' ∧ w'.ownsRow 0 e size v' (n + m) (xs ++ ys) ∧ Y.grownBy w' v.ownBlock ∧ (v'.ownBlock = v.ownBlock ∨ v'.ownBlock = some Y.heap.size)
theorem a05 : Jq 48 28 41 := fun Y v n xs ys g c m h hn hy hcell h1 => by
 obtain ⟨i0, z, hi, a0, a1, a2, a3⟩ := ou;obtain ⟨v', w', hr, h2, h3, _, h5⟩ := run_append_own_at (P := Tryz.prog) Y 0 48 48 28 i0 z 41 56 Tryz.underlying48 hi a0 a2 a3 a1 (by decide) v n xs h ⟨g, 0, none⟩ m c ys hy hcell h1 (by unfold maxLen; omega) (by omega) (Nat.zero_le _);exact ⟨v', w', hr, h2, h3, h5⟩
set_option maxRecDepth 100000 in
theorem Hq (app : Jq t e size) {rb : Bxs} {ys : List Value} (h : Fr w D s (rb ++ bs) X) (hr : RowB e size rb v n xs) (ha : pg w rb bs) {c m : Nat} (hn : n + m < 100000000) (hY : Below X.heap.size X Y) (hy : ys.length = m * size) (hcell : ∀ j u, ys[j]? = some u → Y.cell? ((⟨g, 0, none⟩ : Addr).add j) = some u) (h1 : ∀ u ∈ ys, u.oneCell' = true) :
  ∃ v' w' rb', (Builtin.append_ #[t, t] t #[v, .slice (some ⟨g, 0, none⟩) m c]).run Tryz.prog Y = .ok v' w' ∧ RowB e size rb' v' (n + m) (xs ++ ys) ∧ Fr w D s (rb' ++ bs) w' ∧ pg w rb' bs := by
 have h' := h.below hY;obtain ⟨v', w', a0, ho, a3, a4⟩ := app Y v n xs ys g c m (h'.row hr (fun y hy => List.mem_append.2 (.inl hy))) hn hy hcell h1;obtain ⟨rb', r1, r2⟩ := RowB.of ho;have hc : Chg (fun k => v.ownBlock = some k) Y w' := (Chg.refl _ _).grown a3 (fun k hk => .inl hk)
 have a1 : ∀ y ∈ rb', (∃ b ∈ rb, b.1 = y.1) ∨ y.1 = Y.heap.size := fun y hy => by
  have e := (r2 y hy).2;rcases a4 with e2 | e2
  ·left; rw [e2] at e; exact hr.blk e
  ·right; rw [e2] at e; injection e with e3; exact e3.symm
 have a2 : ∀ z ∈ bs, z.1 < Y.heap.size := fun z hz => (h'.bx z (List.mem_append.2 (.inr hz))).lt
 refine ⟨v', w', rb', a0, r1, h'.turn hc (fun k hk => ?_) (fun b hb => ?_), fun y hy => ?_⟩
 ·obtain ⟨y, hy, rfl⟩ := hr.blk hk
  exact ⟨(ha y hy).1, .inr ⟨y, List.mem_append.2 (.inl hy), rfl⟩⟩
 ·rcases List.mem_append.1 hb with hb | hb
  ·refine ⟨(r2 b hb).1, ?_⟩
   rcases a1 b hb with ⟨c', hc', e⟩ | e
   ·exact .inr ⟨c', List.mem_append.2 (.inl hc'), e⟩
   ·exact .inl (by omega)
  ·refine ⟨(h'.bx b (List.mem_append.2 (.inr hb))).chg hc (fun hk => ?_), .inr ⟨b, List.mem_append.2 (.inr hb), rfl⟩⟩
   obtain ⟨y, hy, e⟩ := hr.blk hk;exact (ha y hy).2 b hb e.symm
 ·rcases a1 y hy with ⟨c', hc', e⟩ | e
  ·rw [← e]; exact ha c' hc'
  ·exact ⟨by rw [e]; exact Nat.le_trans h.bel.size hY.size, fun z hz e2 => by have := a2 z hz; omega⟩
theorem Cw {cs' : List Value} (h : Fr w D s ((g, cs, t) :: bs) X) (hg : w.heap.size ≤ g) (ha : ∀ z ∈ bs, z.1 ≠ g) : Fr w D s ((g, cs', t) :: bs) (X.setRow g cs'.toArray) := by
 have hc := tf X g cs'.toArray;refine h.turn hc (fun k hk => ?_) (fun b hb => ?_)
 ·have e : k = g := hk
  subst e;exact ⟨hg, .inr ⟨_, List.mem_cons_self .., rfl⟩⟩
 ·rcases List.mem_cons.1 hb with rfl | hb
  ·exact ⟨(h.at (g := g) (cs := cs) (t := t) (by simp)).row cs', .inr ⟨_, List.mem_cons_self .., rfl⟩⟩
  ·exact ⟨(h.bx b (List.mem_cons_of_mem _ hb)).chg hc (fun e => ha b hb e), .inr ⟨b, List.mem_cons_of_mem _ hb, rfl⟩⟩
theorem Se {o : Nat} {vs : List Value} (h : Fr w D s ((g, cs, t) :: bs) X) (hg : w.heap.size ≤ g) (ha : ∀ z ∈ bs, z.1 ≠ g) (ho : o + vs.length ≤ cs.length) : Fr w D s ((g, cs.take o ++ vs ++ cs.drop (o + vs.length), t) :: bs) (X.setCells g o vs) := by
 have hc := Chg.setsG (fun k => k = g) rfl vs o X;refine h.turn hc (fun k hk => ?_) (fun b hb => ?_)
 ·have e : k = g := hk
  subst e;exact ⟨hg, .inr ⟨_, List.mem_cons_self .., rfl⟩⟩
 ·rcases List.mem_cons.1 hb with rfl | hb
  ·exact ⟨fg g t vs o X cs (h.at (g := g) (cs := cs) (t := t) (by simp)) ho, .inr ⟨_, List.mem_cons_self .., rfl⟩⟩
  ·exact ⟨(h.bx b (List.mem_cons_of_mem _ hb)).chg hc (fun e => ha b hb e), .inr ⟨b, List.mem_cons_of_mem _ hb, rfl⟩⟩
theorem U2 {j : Nat} {L : Nat → Nat} : OwnM X 0 (.slice none 0 0) [] ∧ ∀ g, (Value.slice none 0 0).ownBlock = some g → L g = j := ⟨World.ownsRow_nil _ _ _ _, fun g hg => by cases hg⟩
theorem Fr.cells (h : Fr w D s bs X) : ∃ v, Blk X D (i6 v s.room) 50 ∧ OwnM X 0 v.md s.made ∧ OwnM X 0 v.gn s.gone ∧ (∀ q ∈ s.made, q.OK) ∧ ∀ q ∈ s.gone, q.OK := by
 obtain ⟨⟨L1, v1, h1, h2, h3, h4⟩, k, hl⟩ := h;exact ⟨v1, h1.blk, h1.md.1, h1.gn.1, h1.okm, h1.okg⟩
theorem Z7 {B : Nat} {l : List Lf} (h : OwnL X B v l) (hok : ∀ x ∈ l, Lf.OK x) : ∃ sp cap, v = .slice sp l.length cap ∧ l.length ≤ cap ∧ SrcF X sp l := by
 by_cases h0 : 0 < l.length
 ·obtain ⟨g, cap, e, hc, hr⟩ := h.at hok h0
  refine ⟨_, cap, e, hc, fun _ => ⟨g, 0, rfl, ?_, fun i x hx => by rw [Nat.zero_add]; exact hr i x hx⟩⟩;exact (h.lt g (by rw [e]; rfl)).2
 ·obtain ⟨sp, cap, e, hc⟩ := d6 h
  rcases h.2 with ⟨e2, _⟩ | ⟨g, cap2, cur, e2, _, _, hc2, _⟩
  ·exact ⟨none, 0, by rw [e2]; congr 1; omega, by omega, fun h => absurd h h0⟩
  ·exact ⟨_, _, e2, hc2, fun h => absurd h h0⟩
end Go.Proofs.YtjgjohdeeeoeoaaGreatDoor
