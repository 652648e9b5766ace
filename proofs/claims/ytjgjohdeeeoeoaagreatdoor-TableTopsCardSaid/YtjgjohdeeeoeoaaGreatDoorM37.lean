/- The items of each leaf, as the program gathers them. -/
import Derived.Test.YtjgjohdeeeoeoaaGreatDoorM36
import Derived.WideMake
import Derived.Test.YtjgjohdeeeoeoaaGreatDoorM34
import Derived.Test.YtjgjohdeeeoeoaaGreatDoorM27
import Derived.Test.YtjgjohdeeeoeoaaGreatDoorM12
import Derived.Deep.Slices
namespace Go.Proofs.YtjgjohdeeeoeoaaGreatDoor
open Go.RowKit
attribute [local go_sem] Oper.semAt_some
section
variable {ρ : Operand → Value} {o : Oper} {x y z : Operand} {w : World}
set_option maxRecDepth 100000 in
theorem ex_sl3T {sp : Option Addr} {N cap n : Nat} (hn : n ≤ cap) (ho : o.op = .slice 55 x none (some y) (some z)) (hx : ρ x = .slice sp N cap) (hy : ρ y = .int .i64 (n : Int)) (hz : ρ z = .int .i64 (n : Int)) (h0 : 0 < n) :
    (execOp ρ o).run Tryz.prog w = .ok (.value (.slice sp n n)) w := by
  have hr : (Instr.sliceAt 55 (.slice sp N cap) none (some (.int .i64 (n : Int))) (some (.int .i64 (n : Int)))).run Tryz.prog w = .ok (.slice sp n n) w := by
    rw [run_sliceAt_slice w 55 _ _ _ _ elemTm, run_slice_hm w 55 sp N cap elemTm .i64 .i64 n n (by omega) (by omega) (by omega), elemTm', sizeOfTm]
    have e : Option.map (fun x : Addr => x.add 0) sp = sp := by cases sp with | none => rfl | some a => cases a; simp [Addr.add]
    simp [Result.andThen, sliced, e]
  unfold execOp
  simp only [ho, hx, hy, hz, Option.map_some, Option.map_none, Sem.run_bind, hr, Result.andThen_ok, Sem.run_pure]
set_option maxRecDepth 100000 in
theorem ex_slRT {g o' N cap n : Nat} (hn : n ≤ N) (ho : o.op = .slice 55 x (some y) none none) (hx : ρ x = .slice (some ⟨g, o', none⟩) N cap) (hy : ρ y = .int .i64 (n : Int)) :
    (execOp ρ o).run Tryz.prog w = .ok (.value (.slice (if cap = n then some ⟨g, o', none⟩ else some ⟨g, o' + n * 45, none⟩) (N - n) (cap - n))) w := by
  have hr : (Instr.sliceAt 55 (.slice (some ⟨g, o', none⟩) N cap) (some (.int .i64 (n : Int))) none none).run Tryz.prog w = .ok (.slice (if cap = n then some ⟨g, o', none⟩ else some ⟨g, o' + n * 45, none⟩) (N - n) (cap - n)) w := by
    rw [run_sliceAt_slice w 55 _ _ _ _ elemTm, run_slice_l w 55 (some ⟨g, o', none⟩) N cap elemTm .i64 n (by omega) (by omega), elemTm', sizeOfTm]
    have e : (Addr.mk g o' none).add (n * 45) = ⟨g, o' + n * 45, none⟩ := by
      unfold Addr.add
      split
      · rename_i h; rw [h, Nat.add_zero]
      · rfl
    simp only [Result.andThen, sliced, Int.toNat_natCast, Option.map_some, e]
  unfold execOp
  simp only [ho, hx, hy, Option.map_some, Option.map_none, Sem.run_bind, hr, Result.andThen_ok, Sem.run_pure]
theorem ex_putU {M : Nat} {k : Nat} {b : Spt} {w' : World} (hr : (Instr.mapUpdate 96 (.map (some M)) (.int .u32 (k : Int)) (SpV b)).run Tryz.prog w = .ok () w') (ho : o.op = .mapUpdate 96 x y z) (hx : ρ x = .map (some M)) (hy : ρ y = .int .u32 (k : Int)) (hz : ρ z = SpV b) :
    (execOp ρ o).run Tryz.prog w = .ok .skip w' := by
  unfold execOp
  simp only [ho, hx, hy, hz, Sem.run_bind, hr, Result.andThen_ok, Sem.run_pure]
theorem ex_ldMU {ad : Addr} {v : Value} (ho : o.op = .load 96 x) (hx : ρ x = .pointer (some ad)) (hc : w.cell? ad = some v) : (execOp ρ o).run Tryz.prog w = .ok (.value v) w := by
  unfold execOp; simp only [ho]; go_simp
end
def GaPost (w : World) (g o : Nat) (N cap M : Nat) (f : Nat → Option Spt) (n : Nat) (off k : Nat) (e : Ending) (w' : World) : Prop :=
  ∃ sp', e = .returned (.slice sp' (N - k) (cap - k)) ∧ (k < N → sp' = some ⟨g, o + k * 45, none⟩) ∧ (∃ n', n' ≤ n + 1 ∧ MapG TU w' M (putF f off (some (g, o, k))) n') ∧ Chg (fun j => j = M) w w'
set_option maxRecDepth 100000 in
set_option maxHeartbeats 8000000 in
theorem gather_any (x : Itm) (l : List Itm) (hok : ∀ y ∈ x :: l, Itm.OK y) (g o cap : Nat) (hc : (x :: l).length ≤ cap) (hl : (x :: l).length ≤ 1000) (w : World) (hS : SrcT w (some ⟨g, o, none⟩) (x :: l)) {B M n : Nat} (hB : w.cell? ⟨B, 0, none⟩ = some (.map (some M))) {f : Nat → Option Spt} (hM : MapG TU w M f n) (hn : n < 1000) :
    Calls Tryz.prog 65 #[.slice (some ⟨g, o, none⟩) (x :: l).length cap, .pointer (some ⟨B, 0, none⟩)] w (GaPost w g o (x :: l).length cap M f n (x.1 / 4) (leadN (x.1 / 4) (x :: l))) := by
  obtain ⟨L, hL⟩ : ∃ L, x :: l = L := ⟨_, rfl⟩
  have hx0 : L[0]? = some x := by rw [← hL]; rfl
  have hN0 : 0 < L.length := by rw [← hL]; simp
  rw [hL] at hok hc hl hS ⊢
  clear hL
  obtain ⟨off, hoff⟩ : ∃ n, x.1 / 4 = n := ⟨_, rfl⟩
  have hxo : x.1 < 65536 := (hok x (List.mem_of_getElem? hx0)).1
  rw [hoff]
  have HOFF := Lib.hid hoff
  obtain ⟨K, hK⟩ : ∃ K, leadN off L = K := ⟨_, rfl⟩
  have hKL : K ≤ L.length := by rw [← hK]; exact leadN_le off L
  have hK0 : 0 < K := by
    rcases Nat.eq_zero_or_pos K with e | e
    · rw [e] at hK
      exact absurd hoff (lead_stop (l := L) (off := off) (x := x) (by rw [hK]; exact hx0))
    · exact e
  rw [hK]
  obtain ⟨N, hN⟩ : ∃ N, L.length = N := ⟨_, rfl⟩
  obtain ⟨g', o', e1, hg, hat⟩ := hS (by omega)
  injection e1 with e1
  injection e1 with e1 e2 _
  subst e1 e2
  have hAT : ∀ i y, L[i]? = some y → w.cell? ⟨g, o + i * 45, none⟩ = some (.int .u16 (y.1 : Int)) := fun i y hy => rng_numT (hat i y hy)
  have HAT := Lib.hid hAT; have HOK := Lib.hid hok; have HN := Lib.hid hN; have HK := Lib.hid hK; have HMAP := Lib.hid hM; have HNN := Lib.hid hn; have HB := Lib.hid hB
  rw [hN] at hc hl hN0 hKL ⊢
  generalize hPost : GaPost w g o N cap M f n off K = Post
  have HP : Hid (∀ sp' w', (K < N → sp' = some ⟨g, o + K * 45, none⟩) → (∃ n', n' ≤ n + 1 ∧ MapG TU w' M (putF f off (some (g, o, K))) n') → Chg (fun j => j = M) w w' → Post (.returned (.slice sp' (N - K) (cap - K))) w') := Lib.hid fun sp' w' h1 h2 h3 => by rw [← hPost]; exact ⟨sp', rfl, h1, h2, h3⟩
  have HC := Lib.hid hc; have HL := Lib.hid hl; have HN0 := Lib.hid hN0; have HKL := Lib.hid hKL; have HK0 := Lib.hid hK0
  have c0 := hAT 0 x hx0
  rw [Nat.zero_mul, Nat.add_zero] at c0
  obtain ⟨xo, hxe⟩ : ∃ n, x.1 = n := ⟨_, rfl⟩
  rw [hxe] at c0 hxo hoff
  have HXO := Lib.hid hxo
  have HOX := Lib.hid hoff
  clear hok hc hl hS hB hM hn hx0 hN0 hxo hoff hK hKL hK0 hN hg hat hAT hPost hxe HOFF
  go_enter Tryz.func65, Tryz.ntmps65
  go_wp2_with (first | (refine wpL_val rfl (ex_iaTm (k := 0) rfl rfl rfl ⟨HN0.out, HC.out⟩) ?_; rw [Nat.zero_mul, Nat.add_zero]) | fail)
  refine (tbLeafOf_any xo HXO.out w).mono ?_
  rintro e w6 ⟨rfl, rfl⟩
  rw [HOX.out]
  clear c0
  go_wp2_with fail
  go_loopw [5] (fun v wr => ∃ k : Nat, 0 < k ∧ k ≤ N ∧ v = .int .i64 (k : Int) ∧ (∀ i y, i < k → L[i]? = some y → y.1 / 4 = off) ∧ wr = w6) (fun v _ => N - (intOf v).toNat)
  case atStart => exact ⟨1, by omega, HN0.out, rfl, fun i y hi hy => by
    obtain rfl : i = 0 := by omega
    exact lead_at (l := L) (k := 0) (by rw [HK.out]; exact HK0.out) hy, rfl⟩
  case round =>
    obtain ⟨k, hk0, hkN, rfl, hall, rfl⟩ := hrel
    have HALL := Lib.hid hall
    have wk1 := IntWalk.i64_in ((k : Int) + 1) (by have := HL.out; omega)
    clear hall
    by_cases hlt : k < N
    · obtain ⟨y, hy⟩ : ∃ y, L[k]? = some y := ⟨_, List.getElem?_eq_getElem (by have := HN.out; omega)⟩
      have HY := Lib.hid hy
      have hyo : y.1 < 65536 := (HOK.out y (List.mem_of_getElem? hy)).1
      have ck := HAT.out k y hy
      obtain ⟨yo, hye⟩ : ∃ n, y.1 = n := ⟨_, rfl⟩
      rw [hye] at ck hyo
      have HYE := Lib.hid hye
      have HYO := Lib.hid hyo
      have HKN : Hid (k < N ∧ N ≤ cap) := Lib.hid ⟨hlt, HC.out⟩
      clear hy hyo hye
      go_wp2_with (first | (refine wpL_valG (by rfl) (ex_iaTm (k := k) rfl rfl rfl HKN.out) ?_) | fail)
      refine (tbLeafOf_any yo HYO.out wr).mono ?_
      rintro e w7 ⟨rfl, rfl⟩
      by_cases he : yo / 4 = off
      · have hei : (((yo / 4 : Nat) : Int) == (off : Int)) = true := by simp [he]
        have HG : Hid (∀ i z, i < k + 1 → L[i]? = some z → z.1 / 4 = off) := Lib.hid (fun i z hi hz => by
          rcases Nat.lt_succ_iff_lt_or_eq.1 hi with h | rfl
          · exact HALL.out i z h hz
          · rw [HY.out] at hz; cases hz; rw [HYE.out]; exact he)
        obtain ⟨q, hq⟩ : ∃ q, yo / 4 = q := ⟨_, rfl⟩
        rw [hq] at hei ⊢
        clear he hq ck
        go_wp2_with fail
        go_roundw
        case rel => exact ⟨k + 1, by omega, by omega, by go_num, HG.out, by first | rfl | trivial⟩
        case measure => simp [intOf]; omega
      · have hei : (((yo / 4 : Nat) : Int) == (off : Int)) = false := by simp; omega
        have hKk : K = k := by
          rw [← HK.out]
          exact lead_eq (fun i z hi hz => HALL.out i z hi hz) (by have := HN.out; omega) (fun z hz => by rw [HY.out] at hz; cases hz; rw [HYE.out]; exact he)
        subst hKk
        obtain ⟨q, hq⟩ : ∃ q, yo / 4 = q := ⟨_, rfl⟩
        rw [hq] at hei ⊢
        clear he hq ck
        go_upto_region 4 with fail
        have HMD : Hid (MapG TU w7.drew M f n) := Lib.hid (HMAP.out.kept rfl)
        obtain ⟨w8, hrun, hm8, hg8⟩ := HMD.out.put (by have := HNN.out; omega) (x := off) (by show off < 4294967296; have := HOX.out; have := HXO.out; omega) (some (g, o, K))
        have hc8 : Chg (fun j => j = M) w7 w8 := ((Chg.refl (fun j => j = M) w7).drew).grown hg8 (fun k e => .inl (by cases e; rfl))
        have hn8 : (if (f off).isSome then n else n + 1) ≤ n + 1 := by split <;> omega
        have hb8 : w8.cell? ⟨B, 0, none⟩ = some (.map (some M)) := by
          have hne : B ≠ M := fun e => by
            subst e
            obtain ⟨es, c, ho⟩ := HMAP.out.obj
            have := HB.out
            simp [World.cell?, ho] at this
          rw [World.cell?_of_block (w := w7.drew) (a := ⟨B, 0, none⟩) (hg8.block B (lt_of_cell HB.out) (fun e => hne (by cases e; rfl)))]
          exact HB.out
        have HRUN := Lib.hid hrun; have HB8 := Lib.hid hb8
        obtain ⟨sq, hsq⟩ : ∃ sq, (if cap = K then some (Addr.mk g o none) else some ⟨g, o + K * 45, none⟩) = sq := ⟨_, rfl⟩
        have HE := Lib.hid (HP.out sq w8 (fun h => by rw [← hsq, if_neg (by have := HC.out; omega)]) ⟨_, hn8, hm8⟩ hc8)
        have HSQ := Lib.hid hsq
        clear hrun hm8 hg8 hc8 hn8 hb8 hsq
        refine gS (.take 0 (.take 1 (.take 2 (.take 3 (.take 4 (.take 5 (.step 6 (.nil)))))))) (fun X => X.cell? ⟨B, 0, none⟩ = some (.map (some M))) HB.out ?_
        refine wpG_take _ (.map (some M)) rfl (by rfl) (fun X hX => ex_ldMU rfl rfl hX) ?_; try simp only [pS]
        refine gT (.int .u32 (off : Int)) ?_; try simp only [pS]
        refine gT (.slice (some ⟨g, o, none⟩) N cap) ?_; try simp only [pS]
        refine gT (.int .i64 (K : Int)) ?_; try simp only [pS]
        refine gT (.int .i64 (K : Int)) ?_; try simp only [pS]
        refine wpG_take _ (.slice (some ⟨g, o, none⟩) K K) rfl (by rfl) (fun X hX => ex_sl3T (by have := HC.out; have := HKL.out; omega) rfl rfl rfl rfl HK0.out) ?_; try simp only [pS]
        refine wpG_st _ rfl (by rfl) w8 (ex_putU (b := some (g, o, K)) HRUN.out rfl rfl rfl rfl) (fun X => X.cell? ⟨B, 0, none⟩ = some (.map (some M))) HB8.out (fun _ h => h) ?_
        refine wpG_nil ?_
        go_wp2_with (first | (refine wpL_val rfl ((ex_slRT HKL.out rfl rfl rfl).trans (by rw [HSQ.out])) ?_) | fail)
        first | exact HE.out | (go_ret; exact HE.out)
    · have hKN : K = N := by
        rw [← HK.out]
        exact lead_eq (fun i z hi hz => HALL.out i z (by omega) hz) (by have := HN.out; omega) (fun z hz => by
          have := (List.getElem?_eq_some_iff.1 hz).1
          have := HN.out
          omega)
      obtain rfl : k = N := by omega
      obtain rfl : K = k := hKN
      go_upto_region 4 with fail
      have HMD : Hid (MapG TU wr.drew M f n) := Lib.hid (HMAP.out.kept rfl)
      obtain ⟨w8, hrun, hm8, hg8⟩ := HMD.out.put (by have := HNN.out; omega) (x := off) (by show off < 4294967296; have := HOX.out; have := HXO.out; omega) (some (g, o, K))
      have hc8 : Chg (fun j => j = M) wr w8 := ((Chg.refl (fun j => j = M) wr).drew).grown hg8 (fun k e => .inl (by cases e; rfl))
      have hn8 : (if (f off).isSome then n else n + 1) ≤ n + 1 := by split <;> omega
      have hb8 : w8.cell? ⟨B, 0, none⟩ = some (.map (some M)) := by
        have hne : B ≠ M := fun e => by
          subst e
          obtain ⟨es, c, ho⟩ := HMAP.out.obj
          have := HB.out
          simp [World.cell?, ho] at this
        rw [World.cell?_of_block (w := wr.drew) (a := ⟨B, 0, none⟩) (hg8.block B (lt_of_cell HB.out) (fun e => hne (by cases e; rfl)))]
        exact HB.out
      have HRUN := Lib.hid hrun; have HB8 := Lib.hid hb8
      obtain ⟨sq, hsq⟩ : ∃ sq, (if cap = K then some (Addr.mk g o none) else some ⟨g, o + K * 45, none⟩) = sq := ⟨_, rfl⟩
      have HE := Lib.hid (HP.out sq w8 (fun h => by rw [← hsq, if_neg (by have := HC.out; omega)]) ⟨_, hn8, hm8⟩ hc8)
      have HSQ := Lib.hid hsq
      (try rw [Nat.sub_self] at HE)
      clear hrun hm8 hg8 hc8 hn8 hb8 hsq
      refine gS (.take 0 (.take 1 (.take 2 (.take 3 (.take 4 (.take 5 (.step 6 (.nil)))))))) (fun X => X.cell? ⟨B, 0, none⟩ = some (.map (some M))) HB.out ?_
      refine wpG_take _ (.map (some M)) rfl (by rfl) (fun X hX => ex_ldMU rfl rfl hX) ?_; try simp only [pS]
      refine gT (.int .u32 (off : Int)) ?_; try simp only [pS]
      refine gT (.slice (some ⟨g, o, none⟩) K cap) ?_; try simp only [pS]
      refine gT (.int .i64 (K : Int)) ?_; try simp only [pS]
      refine gT (.int .i64 (K : Int)) ?_; try simp only [pS]
      refine wpG_take _ (.slice (some ⟨g, o, none⟩) K K) rfl (by rfl) (fun X hX => ex_sl3T (by have := HC.out; have := HKL.out; omega) rfl rfl rfl rfl HK0.out) ?_; try simp only [pS]
      refine wpG_st _ rfl (by rfl) w8 (ex_putU (b := some (g, o, K)) HRUN.out rfl rfl rfl rfl) (fun X => X.cell? ⟨B, 0, none⟩ = some (.map (some M))) HB8.out (fun _ h => h) ?_
      refine wpG_nil ?_
      go_wp2_with (first | (refine wpL_val rfl ((ex_slRT HKL.out rfl rfl rfl).trans (by rw [HSQ.out])) ?_) | fail)
      first | exact HE.out | (go_ret; exact HE.out)
theorem ex_mkMU {ρ : Operand → Value} {o : Oper} {w : World} (ho : o.op = .makeMap 96 none) : (execOp ρ o).run Tryz.prog w = .ok (.value (.map (some w.heap.size))) (w.alloc (.map #[] 0)) := by
  have hr := run_makeMap_plain (P := Tryz.prog) w 96
  unfold execOp
  simp only [ho]
  simp [hr, Result.andThen]
theorem partF_nil (g o : Nat) : partF g o [] = fun _ => none := by funext off; simp [partF, grpI]
structure ByS (w : World) (sp : Option Addr) (l : List Itm) (B : Nat) (i : Nat) (X : World) : Prop where
  bel : Below w.heap.size w X
  box : X.cell? ⟨B, 0, none⟩ = some (.map (some (w.heap.size)))
  new : B = w.heap.size + 1
  map : ∀ g o, (0 < l.length → sp = some ⟨g, o, none⟩) → ∃ n, n ≤ i ∧ MapG TU X w.heap.size (partF g o (l.take i)) n
  ile : i ≤ l.length
  apart : ∀ z, l[i]? = some z → ∀ y ∈ l.take i, y.1 / 4 ≠ z.1 / 4
def ByPost (w : World) (sp : Option Addr) (l : List Itm) (e : Ending) (w' : World) : Prop :=
  ∃ M, e = .returned (.map (some M)) ∧ w.heap.size ≤ M ∧ Below w.heap.size w w' ∧ ∀ g o, (0 < l.length → sp = some ⟨g, o, none⟩) → ∃ n, n ≤ l.length ∧ MapG TU w' M (partF g o l) n
set_option maxRecDepth 100000 in
set_option maxHeartbeats 8000000 in
theorem byLeaf_any (l : List Itm) (hok : ∀ y ∈ l, Itm.OK y) (hasc : AscI l) (sp : Option Addr) (cap : Nat) (hc : l.length ≤ cap) (hl : l.length ≤ 900) (w : World) (hS : SrcT w sp l) :
    Calls Tryz.prog 35 #[.slice sp l.length cap] w (ByPost w sp l) := by
  have HOK := Lib.hid hok; have HASC := Lib.hid hasc; have HC := Lib.hid hc; have HL := Lib.hid hl; have HS := Lib.hid hS
  generalize hPost : ByPost w sp l = Post
  have HP : Hid (∀ M X, w.heap.size ≤ M → Below w.heap.size w X → (∀ g o, (0 < l.length → sp = some ⟨g, o, none⟩) → ∃ n, n ≤ l.length ∧ MapG TU X M (partF g o l) n) → Post (.returned (.map (some M))) X) := Lib.hid fun M X h1 h2 h3 => by rw [← hPost]; exact ⟨M, rfl, h1, h2, h3⟩
  obtain ⟨N, hN⟩ : ∃ N, l.length = N := ⟨_, rfl⟩
  have HN := Lib.hid hN
  rw [hN]
  clear hok hasc hc hl hS hPost hN
  go_enter Tryz.func35, Tryz.ntmps35
  go_upto_region 2 with (first | (refine wpL_val rfl (ex_mkMU rfl) ?_) | fail)
  refine (fun (k : ∀ W, ByS w sp l (w.heap.size + 1) 0 W → Code.wp _ _ _ _ W) => k _ ?_) ?_
  · have h1 : Below w.heap.size w ((w.alloc (.map #[] 0)).alloc (.cells #[.map (some w.heap.size)] 96)) := ((Below.refl _ _).alloc (Nat.le_refl _) _).alloc (by simp) _
    have hb := Blk.new' (w.alloc (.map #[] 0)) #[.map (some w.heap.size)] [.map (some w.heap.size)] 96 (w.heap.size + 1) (by simp) rfl
    refine ⟨h1, hb.cell (j := 0) rfl, rfl, fun g o _ => ⟨0, Nat.le_refl _, ?_⟩, Nat.zero_le _, fun z hz y hy => by simp at hy⟩
    rw [List.take_zero, partF_nil]
    exact (MapG.made (T := TU) w).kept (Below.heap_alloc _ _ _ (by simp))
  intro W hW
  obtain ⟨B, hB⟩ : ∃ B, w.heap.size + 1 = B := ⟨_, rfl⟩
  rw [hB] at hW ⊢
  have HW := Lib.hid hW
  clear hW hB
  go_wp2_with fail
  go_loopw [0] (fun v wr => ∃ i sp' cap', v = .slice sp' (N - i) cap' ∧ ByS w sp l B i wr ∧ (N - i ≤ cap') ∧ (i < N → ∀ g o, sp = some ⟨g, o, none⟩ → sp' = some ⟨g, o + i * 45, none⟩)) (fun v _ => match v with | .slice _ n _ => n | _ => 0)
  case atStart => exact ⟨0, sp, cap, rfl, HW.out, by have := HC.out; have := HN.out; omega, fun _ g o e => by rw [e, Nat.zero_mul, Nat.add_zero]⟩
  case round =>
    obtain ⟨i, sp', cap', rfl, hst, hcap, hsp⟩ := hrel
    have HST := Lib.hid hst
    clear hst HW
    by_cases hlt : i < N
    · obtain ⟨x, hx⟩ : ∃ x, l[i]? = some x := ⟨_, List.getElem?_eq_getElem (by have := HN.out; omega)⟩
      obtain ⟨g, o, rfl, hg, hat⟩ := HS.out (by have := HN.out; omega)
      obtain rfl := hsp hlt g o rfl
      obtain ⟨n, hn, hm⟩ := HST.out.map g o (fun _ => rfl)
      have hd : l.drop i = x :: l.drop (i + 1) := by
        obtain ⟨h1, e1⟩ := List.getElem?_eq_some_iff.1 hx
        rw [List.drop_eq_getElem_cons h1, e1]
      have hdl : (x :: l.drop (i + 1)).length = N - i := by rw [← hd, List.length_drop, HN.out]
      have hsrc : SrcT wr (some ⟨g, o + i * 45, none⟩) (x :: l.drop (i + 1)) := fun _ => ⟨g, o + i * 45, rfl, Nat.lt_of_lt_of_le hg HST.out.bel.size, fun j z hz => by
        rw [← hd, List.getElem?_drop] at hz
        have h1 := hat (i + j) z hz
        rw [show o + i * 45 + j * 45 = o + (i + j) * 45 by omega]
        intro q v hv
        rw [HST.out.bel.cell (p := ⟨g, o + (i + j) * 45 + q, none⟩) hg]
        exact h1 q v hv⟩
      have hga := gather_any x (l.drop (i + 1)) (fun y hy => HOK.out y (List.mem_of_mem_drop (by rw [← hd] at hy; exact hy))) g (o + i * 45) cap' (by rw [hdl]; exact hcap) (by rw [hdl]; have := HL.out; have := HN.out; omega) wr hsrc HST.out.box hm (by have := HL.out; have := HN.out; have := HST.out.ile; omega)
      rw [hdl] at hga
      obtain ⟨K, hK⟩ : ∃ K, leadN (x.1 / 4) (x :: l.drop (i + 1)) = K := ⟨_, rfl⟩
      have hK' : leadN (x.1 / 4) (l.drop i) = K := by rw [hd]; exact hK
      have hKN : K ≤ N - i := by rw [← hK, ← hdl]; exact leadN_le _ _
      have hK0 : 0 < K := by
        rcases Nat.eq_zero_or_pos K with e | e
        · rw [e] at hK
          exact absurd rfl (lead_stop (l := x :: l.drop (i + 1)) (off := x.1 / 4) (x := x) (by rw [hK]; rfl))
        · exact e
      rw [hK] at hga
      have hstep := partF_step (g := g) (o := o) (l := l) hx (HST.out.apart x hx)
      have hrest := lead_rest HASC.out hx
      rw [hK'] at hstep hrest
      have HGA := Lib.hid hga
      have HNX : Hid (∀ w8, (∃ n', n' ≤ n + 1 ∧ MapG TU w8 w.heap.size (putF (partF g o (l.take i)) (x.1 / 4) (some (g, o + i * 45, K))) n') → Chg (fun j => j = w.heap.size) wr w8 → ByS w (some ⟨g, o, none⟩) l B (i + K) w8) := Lib.hid (fun w8 ⟨n', h1, h2⟩ h3 => by
        refine ⟨?_, ?_, HST.out.new, fun g' o' e => ⟨n', by omega, ?_⟩, by have := HN.out; omega, hrest⟩
        · exact HST.out.bel.trans ⟨h3.os, h3.tape, h3.output, h3.size, fun k hk => h3.block k (Nat.lt_of_lt_of_le hk HST.out.bel.size) (by omega)⟩
        · rw [World.cell?_of_block (w := wr) (a := ⟨B, 0, none⟩) (h3.block B (lt_of_cell HST.out.box) (by have := HST.out.new; omega))]
          exact HST.out.box
        · have e' := e (by have := HN.out; omega)
          injection e' with e'
          injection e' with e1 e2 _
          subst e1 e2
          rw [hstep]
          exact h2)
      have hlt' : ¬ ((N - i : Nat) : Int) ≤ 0 := by omega
      have HI : Hid (i < N) := Lib.hid hlt
      clear hx hg hat hm hd hdl hsrc hga hK hK' hstep hrest hn
      obtain ⟨R, hR⟩ : ∃ R, N - i = R := ⟨_, rfl⟩
      rw [hR] at hlt' hKN hcap HGA ⊢
      have HR := Lib.hid hR
      clear hR hlt
      go_wp2_with fail
      refine HGA.out.mono ?_
      rintro e w8 ⟨sp8, rfl, h1, h2, h3⟩
      have HS8 := Lib.hid (HNX.out w8 h2 h3)
      have HSP8 := Lib.hid h1
      clear h1 h2 h3
      go_wp2_with fail
      go_roundw
      case rel => exact ⟨i + K, sp8, cap' - K, by rw [show N - (i + K) = R - K by have := HR.out; omega], HS8.out, by have := HR.out; omega, fun hi g' o' e => by
        injection e with e
        injection e with e1 e2 _
        subst e1 e2
        rw [HSP8.out (by have := HR.out; omega), show o + i * 45 + K * 45 = o + (i + K) * 45 by omega]⟩
      case measure => simp; omega
    · have hi : i = N := by have := HST.out.ile; have := HN.out; omega
      subst hi
      have hz : ((i - i : Nat) : Int) = 0 := by omega
      have hz2 : i - i = 0 := by omega
      have hb := HST.out.box
      have HE := Lib.hid (HP.out w.heap.size wr (Nat.le_refl _) HST.out.bel (fun g o e => by
        obtain ⟨n, h1, h2⟩ := HST.out.map g o e
        rw [List.take_of_length_le (by have := HN.out; omega)] at h2
        exact ⟨n, by have := HN.out; omega, h2⟩))
      rw [hz2]
      clear hlt hsp hcap hz hz2
      go_wp2_with fail
      first | exact HE.out | (go_ret; exact HE.out)
end Go.Proofs.YtjgjohdeeeoeoaaGreatDoor
namespace Go.Proofs.YtjgjohdeeeoeoaaGreatDoor
open Go.RowKit
def SameB (s s' : Sh) : Prop := s'.blocks = s.blocks ∧ s'.bad = s.bad
theorem SameB.refl (s : Sh) : SameB s s := ⟨rfl, rfl⟩
theorem SameB.trans {a b c : Sh} (h : SameB a b) (k : SameB b c) : SameB a c := ⟨k.1.trans h.1, k.2.trans h.2⟩
theorem rnS_same (s : Sh) (p : Pt) : SameB s (rnS s p) := by unfold rnS rdS; split <;> exact ⟨rfl, rfl⟩
theorem tbS_same (s : Sh) (p : Pt) : SameB s (tbS s p) := by unfold tbS rdS; split <;> exact ⟨rfl, rfl⟩
theorem goB_same {f : Sh → List Pt → List Lf → Pt → Nat → Bw} (hf : ∀ s ns ls q a, SameB s (f s ns ls q a).s) (wide first fr tt : Nat) : ∀ (qs : List Pt) (i : Nat) (s : Sh) (ns : List Pt) (ls : List Lf), SameB s (goB f wide first fr tt qs i s ns ls).s
  | [], _, s, _, _ => SameB.refl s
  | q :: qs, i, s, ns, ls => by
    by_cases hc : first + i * wide + wide ≤ fr ∨ tt ≤ first + i * wide
    · rw [goB_skip hc]; exact goB_same hf wide first fr tt qs _ _ _ _
    · by_cases he : (f s ns ls q (first + i * wide)).e = 0
      · rw [goB_ok hc he]
        exact (hf _ _ _ _ _).trans (goB_same hf wide first fr tt qs _ _ _ _)
      · rw [goB_err hc he]; exact hf _ _ _ _ _
theorem belowP_same (fr tt : Nat) : ∀ (n : Nat) (s : Sh) (ns : List Pt) (ls : List Lf) (p : Pt) (first : Nat), SameB s (belowP fr tt n s ns ls p first).s
  | 0, s, ns, ls, p, first => by
    unfold belowP
    split <;> exact SameB.refl s
  | n + 1, s, ns, ls, p, first => by
    rw [belowP_succ]
    split
    · exact SameB.refl s
    · split
      · exact rnS_same s p
      · exact (rnS_same s p).trans (goB_same (fun s ns ls q a => belowP_same fr tt n s ns ls q a) (8 ^ n) first fr tt (rnN s p) 0 (rnS s p) (ns ++ [p]) ls)
theorem getS_same (s : Sh) (p : Pt) (off : Nat) : SameB s (getS s p off) := by
  unfold getS
  split
  · exact SameB.refl s
  · exact belowP_same off (off + 1) 2 s [] [] p 0
theorem blS_same (s : Sh) (p : Pt) (off : Nat) : SameB s (blS s p off) := by
  unfold blS
  split
  · exact getS_same s p off
  · exact (getS_same s p off).trans (tbS_same _ _)
theorem allS_same (s : Sh) (p : Pt) : SameB s (allS s p) := by
  unfold allS
  split
  · exact SameB.refl s
  · exact belowP_same _ _ 2 s [] [] p 0
def BlkOK (s : Sh) : Prop := ∀ b ∈ s.blocks, b.length ≤ 100000
theorem BlkOK.same {s s' : Sh} (h : BlkOK s) (k : SameB s s') : BlkOK s' := fun b hb => h b (by rw [← k.1]; exact hb)
theorem BlkOK.rdB {s : Sh} (h : BlkOK s) (q : Pt) : (rdB s q).length ≤ 100000 := by
  unfold Go.Proofs.YtjgjohdeeeoeoaaGreatDoor.rdB
  split
  · simp
  · split
    · simp
    · rw [List.getD_eq_getElem?_getD]
      cases hb : s.blocks[at0 q - 1]? with
      | none => simp
      | some b => exact h b (List.mem_of_getElem? hb)
theorem BlkOK.taS {s : Sh} (h : BlkOK s) {ns : List Ino} (hn : BOK ns) (off : Nat) : BlkOK (taS s ns off) := by
  unfold Go.Proofs.YtjgjohdeeeoeoaaGreatDoor.taS
  split
  · exact h
  · split
    · exact h
    · unfold nwS
      split
      · exact h
      · intro b hb
        rcases List.mem_append.1 hb with hb | hb
        · exact h b hb
        · simp at hb
          subst hb
          rw [blkB_512 hn]
          omega
theorem taP_ok {s : Sh} {ns : List Ino} {off : Nat} (ho : off < 4294967296) : (taP s ns off).OK := by
  unfold taP
  split
  · exact zeroP_ok
  · split
    · exact zeroP_ok
    · exact nwP_ok (tbTag_ok ho) _
structure Sg where
  e : Nat
  s : Sh
  l : List Lf
def nowB (p : Pt) (l : List Itm) (s : Sh) (off : Nat) : List Ino := wth (blN s p off) (grpI off l)
def sgGo (p : Pt) (l : List Itm) : List Nat → Sh → List Lf → Sg
  | [], s, ls => ⟨0, s, ls⟩
  | off :: os, s, ls =>
    if blE s p off ≠ 0 then ⟨blE s p off, blS s p off, []⟩
    else if nowB p l s off = blN s p off then sgGo p l os (blS s p off) ls
    else if taE (blS s p off) (nowB p l s off) ≠ 0 then ⟨taE (blS s p off) (nowB p l s off), taS (blS s p off) (nowB p l s off) off, []⟩
    else sgGo p l os (taS (blS s p off) (nowB p l s off) off) (ls ++ [(off, taP (blS s p off) (nowB p l s off) off)])
theorem sg_err {p : Pt} {l : List Itm} {off : Nat} {os : List Nat} {s : Sh} {ls : List Lf} (h : blE s p off ≠ 0) : sgGo p l (off :: os) s ls = ⟨blE s p off, blS s p off, []⟩ := by
  conv => lhs; unfold sgGo
  rw [if_pos h]
theorem sg_same {p : Pt} {l : List Itm} {off : Nat} {os : List Nat} {s : Sh} {ls : List Lf} (h : blE s p off = 0) (h2 : nowB p l s off = blN s p off) : sgGo p l (off :: os) s ls = sgGo p l os (blS s p off) ls := by
  conv => lhs; unfold sgGo
  rw [if_neg (by simp [h]), if_pos h2]
theorem sg_bad {p : Pt} {l : List Itm} {off : Nat} {os : List Nat} {s : Sh} {ls : List Lf} (h : blE s p off = 0) (h2 : ¬ nowB p l s off = blN s p off) (h3 : taE (blS s p off) (nowB p l s off) ≠ 0) :
    sgGo p l (off :: os) s ls = ⟨taE (blS s p off) (nowB p l s off), taS (blS s p off) (nowB p l s off) off, []⟩ := by
  conv => lhs; unfold sgGo
  rw [if_neg (by simp [h]), if_neg h2, if_pos h3]
theorem sg_new {p : Pt} {l : List Itm} {off : Nat} {os : List Nat} {s : Sh} {ls : List Lf} (h : blE s p off = 0) (h2 : ¬ nowB p l s off = blN s p off) (h3 : taE (blS s p off) (nowB p l s off) = 0) :
    sgGo p l (off :: os) s ls = sgGo p l os (taS (blS s p off) (nowB p l s off) off) (ls ++ [(off, taP (blS s p off) (nowB p l s off) off)]) := by
  conv => lhs; unfold sgGo
  rw [if_neg (by simp [h]), if_neg h2, if_neg (by simp [h3])]
def offsI (l : List Itm) : List Nat := (List.range 64).filter (fun off => decide (grpI off l ≠ []))
def tsR (s : Sh) (p : Pt) (l : List Itm) : Ww :=
  if setT l = false then ⟨zeroP, 1, s⟩
  else if (sgGo p l (offsI l) s []).e ≠ 0 then ⟨zeroP, (sgGo p l (offsI l) s []).e, (sgGo p l (offsI l) s []).s⟩
  else setR (sgGo p l (offsI l) s []).s p 0 (sgGo p l (offsI l) s []).l
theorem setT_good {l : List Itm} (h : setT l = true) : ∀ i, i < l.length → goodT l i = true := fun i hi => by
  unfold setT at h
  exact List.all_eq_true.1 h i (by simpa using hi)
theorem setT_num {l : List Itm} (h : setT l = true) : ∀ x ∈ l, numOk x.1 = true ∧ mayI x.2 = true := fun x hx => by
  obtain ⟨i, hi⟩ := List.getElem?_of_mem hx
  have hg := setT_good h i (List.getElem?_eq_some_iff.1 hi).1
  unfold goodT at hg
  rw [hi] at hg
  simp only [Bool.and_eq_true] at hg
  simp_all
theorem setT_asc {l : List Itm} (h : setT l = true) : AscI l := by
  have step : ∀ i x y, l[i]? = some x → l[i + 1]? = some y → x.1 < y.1 := fun i x y hx hy => by
    have hg := setT_good h (i + 1) (List.getElem?_eq_some_iff.1 hy).1
    unfold goodT at hg
    rw [hy] at hg
    simp [hx] at hg
    omega
  unfold AscI
  rw [List.pairwise_iff_getElem]
  intro i j hi hj hij
  induction j with
  | zero => omega
  | succ j ih =>
    have h1 := step j l[j] l[j + 1] (List.getElem?_eq_getElem (by omega)) (List.getElem?_eq_getElem hj)
    rcases Nat.lt_succ_iff_lt_or_eq.1 hij with h2 | rfl
    · exact Nat.lt_trans (ih (by omega) h2) h1
    · exact h1
theorem sorted_is {ss : List Nat} {P : Nat → Bool} (hd : ss.Nodup) (hm : ∀ x, x ∈ ss ↔ (x < 64 ∧ P x = true)) : ss.mergeSort le32 = (List.range 64).filter P := by
  have tr : ∀ a b c : Nat, le32 a b = true → le32 b c = true → le32 a c = true := fun a b c h1 h2 => by simp only [le32, decide_eq_true_eq] at *; omega
  have tt : ∀ a b : Nat, (le32 a b || le32 b a) = true := fun a b => by simp only [le32, Bool.or_eq_true, decide_eq_true_eq]; omega
  have hp : ss.Perm ((List.range 64).filter P) := by
    refine (List.perm_ext_iff_of_nodup hd (List.nodup_range.sublist List.filter_sublist)).2 fun x => ?_
    rw [hm x, List.mem_filter, List.mem_range]
  refine List.Perm.eq_of_pairwise (le := fun a b => le32 a b = true) (fun a b _ _ h1 h2 => ?_) (List.pairwise_mergeSort tr tt ss) ?_ ((List.mergeSort_perm ss le32).trans hp)
  · simp only [le32, decide_eq_true_eq] at h1 h2
    omega
  · refine List.Pairwise.sublist List.filter_sublist ?_
    refine List.Pairwise.imp ?_ (List.pairwise_lt_range (n := 64))
    intro a b h
    simp only [le32, decide_eq_true_eq]
    omega
theorem grp_lt {l : List Itm} (h : setT l = true) {off : Nat} (hg : grpI off l ≠ []) : off < 64 := by
  obtain ⟨x, hx⟩ := List.exists_mem_of_ne_nil _ hg
  unfold grpI at hx
  obtain ⟨h1, h2⟩ := List.mem_filter.1 hx
  have h3 := (setT_num h x h1).1
  unfold numOk at h3
  simp at h2 h3
  omega
theorem keys_offs {l : List Itm} (h : setT l = true) {g o n : Nat} {ss : List Nat} (hk : KeysAre TU (partF g o l) n ss) : ss.mergeSort le32 = offsI l := by
  refine sorted_is hk.2.1 fun x => ?_
  rw [hk.2.2 x]
  unfold partF
  by_cases e : grpI x l = []
  · rw [if_pos e]; simp [e]
  · rw [if_neg e]
    have := grp_lt h e
    simp [e, this]
    show x < 4294967296
    omega
theorem offsI_mem {l : List Itm} {off : Nat} (h : off ∈ offsI l) : off < 64 ∧ grpI off l ≠ [] := by
  unfold offsI at h
  obtain ⟨h1, h2⟩ := List.mem_filter.1 h
  exact ⟨List.mem_range.1 h1, by simpa using h2⟩
theorem offsI_len {l : List Itm} (h : setT l = true) {g o n : Nat} {ss : List Nat} (hk : KeysAre TU (partF g o l) n ss) : (offsI l).length = ss.length := by rw [← keys_offs h hk, List.length_mergeSort]
theorem grp_src {w : World} {g o : Nat} {l : List Itm} (hasc : AscI l) (hS : SrcT w (some ⟨g, o, none⟩) l) (off : Nat) (hg : grpI off l ≠ []) : SrcT w (some ⟨g, o + l.findIdx (fun x => x.1 / 4 == off) * 45, none⟩) (grpI off l) := by
  intro h0
  have hl : 0 < l.length := by
    cases l with
    | nil => simp [grpI] at hg
    | cons a l => simp
  obtain ⟨g', o', e, hgw, hat⟩ := hS hl
  injection e with e
  injection e with e1 e2 _
  subst e1 e2
  refine ⟨g, _, rfl, hgw, fun i x hx => ?_⟩
  suffices hq : l[l.findIdx (fun x => x.1 / 4 == off) + i]? = some x by
    have := hat _ x hq
    rw [show o + (l.findIdx (fun x => x.1 / 4 == off) + i) * 45 = o + l.findIdx (fun x => x.1 / 4 == off) * 45 + i * 45 by omega] at this
    exact this
  clear hat hS hgw h0 hl
  induction l generalizing i with
  | nil => simp [grpI] at hg
  | cons a l ih =>
    have ha2 : AscI l := List.Pairwise.of_cons hasc
    by_cases ha : a.1 / 4 = off
    · rw [List.findIdx_cons, show ((a.1 / 4 == off) = true) by simpa using ha]
      simp only [cond_true, Nat.zero_add]
      have e1 : grpI off (a :: l) = a :: grpI off l := by simp [grpI, ha]
      rw [e1] at hx
      cases i with
      | zero => simpa using hx
      | succ i =>
        rw [List.getElem?_cons_succ] at hx ⊢
        by_cases hgl : grpI off l = []
        · rw [hgl] at hx; simp at hx
        · have h2 := ih ha2 hgl i hx
          have h3 : l.findIdx (fun x => x.1 / 4 == off) = 0 := by
            cases l with
            | nil => simp [grpI] at hgl
            | cons b l =>
              by_cases hb : b.1 / 4 = off
              · rw [List.findIdx_cons, show ((b.1 / 4 == off) = true) by simpa using hb]; rfl
              · exfalso
                apply hgl
                unfold grpI
                rw [List.filter_eq_nil_iff]
                intro y hy
                have hab : a.1 < b.1 := (List.pairwise_cons.1 hasc).1 b (List.mem_cons_self ..)
                have hby : b.1 ≤ y.1 := by
                  rcases List.mem_cons.1 hy with rfl | hy
                  · exact Nat.le_refl _
                  · exact Nat.le_of_lt ((List.pairwise_cons.1 ha2).1 y hy)
                simp
                omega
          rw [h3, Nat.zero_add] at h2
          exact h2
    · rw [List.findIdx_cons, show ((a.1 / 4 == off) = false) by simpa using ha]
      simp only [cond_false]
      have e1 : grpI off (a :: l) = grpI off l := by simp [grpI, ha]
      rw [e1] at hx hg
      rw [show l.findIdx (fun x => x.1 / 4 == off) + 1 + i = (l.findIdx (fun x => x.1 / 4 == off) + i) + 1 by omega, List.getElem?_cons_succ]
      exact ih ha2 hg i hx
end Go.Proofs.YtjgjohdeeeoeoaaGreatDoor
namespace Go.Proofs.YtjgjohdeeeoeoaaGreatDoor
open Go.RowKit
attribute [local go_sem] Oper.semAt_some
theorem More.bl {s s' : Sh} {rs : List Pt} (h : More s s' rs) : s'.blocks = s.blocks ∧ s'.bad = s.bad := by
  unfold More at h
  rw [h]
  exact ⟨rfl, rfl⟩
section
variable {ρ : Operand → Value} {o : Oper} {x y : Operand} {w : World}
end
end Go.Proofs.YtjgjohdeeeoeoaaGreatDoor
namespace Go.Proofs.YtjgjohdeeeoeoaaGreatDoor
open Go.ChangeShapes Go.WideShapes Go.ChangeAt Go.WideMaps Go.WideElems Go.RowKit Go.Deep
section
variable {H : Type} {enc : TypeId × Value → H} {W : World} {b' : Nat} {spare : Nat → Bool} {held : Bool}
end
end Go.Proofs.YtjgjohdeeeoeoaaGreatDoor
namespace Go.Proofs.YtjgjohdeeeoeoaaGreatDoor
open Go.ChangeShapes Go.WideShapes Go.ChangeAt Go.WideMaps Go.WideElems Go.RowKit Go.Deep
attribute [local go_sem] Oper.semAt_some
structure AcT where
  b : List (BitVec 8)
  sp : Option Addr
  cap : Nat
  H : Int
  sm : Bool
instance : Inhabited AcT := ⟨⟨[], none, 0, 0, false⟩⟩
section
variable {H : Type} {enc : TypeId × Value → H} {W : World} {spare : Nat → Bool} {held : Bool} {b' : Nat}
end
end Go.Proofs.YtjgjohdeeeoeoaaGreatDoor
namespace Go.Proofs.YtjgjohdeeeoeoaaGreatDoor
open Go.RowKit
attribute [local go_sem] Oper.semAt_some
theorem RowB.blk {e : TypeId} {size : Nat} {b : Bxs} {v : Value} {n : Nat} {xs : List Value} (h : RowB e size b v n xs) {k : Nat} (hk : v.ownBlock = some k) : ∃ y ∈ b, y.1 = k := by
  rcases h.2 with ⟨rfl, _⟩ | ⟨g, cap, cs, rfl, rfl, _⟩
  · cases hk
  · exact ⟨(g, cs, e), by simp, by cases hk; rfl⟩
theorem srcF_of {X : World} {B : Nat} {v : Value} {l : List Lf} (h : OwnL X B v l) (hok : ∀ x ∈ l, Lf.OK x) : ∃ sp cap, v = .slice sp l.length cap ∧ l.length ≤ cap ∧ SrcF X sp l := by
  by_cases h0 : 0 < l.length
  · obtain ⟨g, cap, e, hc, hr⟩ := h.at hok h0
    refine ⟨_, cap, e, hc, fun _ => ⟨g, 0, rfl, ?_, fun i x hx => by rw [Nat.zero_add]; exact hr i x hx⟩⟩
    exact (h.lt g (by rw [e]; rfl)).2
  · obtain ⟨sp, cap, e, hc⟩ := owns_form h
    rcases h.2 with ⟨e2, _⟩ | ⟨g, cap2, cur, e2, _, _, hc2, _⟩
    · exact ⟨none, 0, by rw [e2]; congr 1; omega, by omega, fun h => absurd h h0⟩
    · exact ⟨_, _, e2, hc2, fun h => absurd h h0⟩
end Go.Proofs.YtjgjohdeeeoeoaaGreatDoor
