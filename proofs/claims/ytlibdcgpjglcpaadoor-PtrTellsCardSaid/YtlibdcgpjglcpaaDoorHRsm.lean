/- The digest of bytes, as the reference reckons it: it is the digest. -/
import Derived.Test.YtlibdcgpjglcpaaDoorHRfl
namespace Go.Proofs.YtlibdcgpjglcpaaDoor
open Go.RowKit

def SumSt (w W : World) : Prop := Blk W w.heap.size (List.replicate 32 Z8) 25 ∧ Words (w.heap.size + 1) 0 H0.list W ∧ Below w.heap.size w W ∧ W.heap.size = w.heap.size + 2
theorem sumSt_start (w : World) (z xs : Array Value) (hz : z = (List.replicate 32 Z8).toArray) (hx : xs = (H0.list.map V32).toArray) : SumSt w ((w.alloc (.cells z 25)).alloc (.cells xs 23)) := by
  subst hz
  refine ⟨(Blk.new _ _ _).alloc _, ?_, ((Below.refl _ _).alloc (Nat.le_refl _) _).alloc (by simp) _, by simp⟩
  have h := words_new (w := w.alloc (.cells (List.replicate 32 Z8).toArray 25)) hx
  rwa [World.size_alloc] at h
theorem full_mod (m : List (BitVec 8)) : (m ++ fill m.length).length % 64 = 0 := by
  unfold fill
  rw [List.length_append, fillK_length]
  unfold noughts
  omega
theorem chunk_length (m : List (BitVec 8)) (k : Nat) (h : 64 * k + 64 ≤ m.length) : (chunk m k).length = 64 := by unfold chunk; simp; omega
theorem chunk_get (m : List (BitVec 8)) (k j : Nat) (hj : j < 64) : (chunk m k).getD j 0 = m.getD (64 * k + j) 0 := by
  unfold chunk
  simp [List.getD_eq_getElem?_getD, hj]
theorem div256 (y : BitVec 32) : (N32 y).tdiv (256 : Int) % (4294967296 : Int) = N32 (y >>> 8) := by
  have h0 := n32_nonneg y
  have h1 := n32_lt y
  have h2 := shr32 y 8
  rw [← h2, Int.tdiv_eq_ediv_of_nonneg h0]
  omega
theorem lo8_mod (y : BitVec 32) (r : Nat) (hr : y.toNat % 256 = r) : IntKind.u8.wrap (r : Int) = N8 (lo8 y) := by
  rw [← lo8_eq]
  unfold N32
  rw [IntKind.wrap_u8', IntKind.wrap_u8']
  omega
theorem outBytes_get (l : List (BitVec 32)) (i : Nat) (hi : i < 4 * l.length) : (outBytes l).getD i 0 = lo8 (l.getD (i / 4) 0 >>> (24 - 8 * (i % 4))) := by
  have hs := outBytes_snoc l (i / 4) (by omega)
  have hp : ∀ n, n ≤ l.length → (outBytes l).take (4 * n) = outBytes (l.take n) := by
    intro n hn
    conv => lhs; rw [← List.take_append_drop n l]
    unfold outBytes
    rw [List.flatMap_append, List.take_append_of_le_length (by have := outBytes_length (l.take n); unfold outBytes at this; rw [this]; simp; omega), List.take_of_length_le (by have := outBytes_length (l.take n); unfold outBytes at this; rw [this]; simp; omega)]
  have h1 : (outBytes l)[i]? = ((outBytes l).take (4 * (i / 4 + 1)))[i]? := by rw [List.getElem?_take, if_pos (by omega)]
  have hle : (outBytes (l.take (i / 4))).length = 4 * (i / 4) := by rw [outBytes_length]; simp; omega
  rw [List.getD_eq_getElem?_getD, h1, hp _ (by omega), hs, List.getElem?_append_right (by omega), hle]
  have h3 : i - 4 * (i / 4) = i % 4 := by omega
  rw [h3]
  simp [wbs, wb, show i % 4 < 4 by omega]
theorem take_len (s : St) : s.list.length = 8 := rfl

structure SmAt (m : List (BitVec 8)) (w2 : World) (k : Nat) (v : Value) (wr : World) : Prop where
  h : ∃ gs cs, v = .slice (some ⟨gs, 0, none⟩) 8 cs ∧ gs < wr.heap.size ∧ Words gs 0 (absorb k m).list wr
  b : Below w2.heap.size w2 wr
def OutS (l : List (BitVec 32)) (G : Nat) (wz : World) (i : Nat) (wr : World) : Prop :=
  Blk wr G (((outBytes l).take i).map V8 ++ List.replicate (32 - i) Z8) 25 ∧ Below wz.heap.size wz wr

theorem outS_start (l : List (BitVec 32)) (wo : World) (z : Array Value) (hz : z = (List.replicate 32 Z8).toArray) : OutS l wo.heap.size wo 0 (wo.alloc (.cells z 25)) := by
  subst hz
  refine ⟨?_, (Below.refl _ _).alloc (Nat.le_refl _) _⟩
  simp only [List.take_zero, List.map_nil, List.nil_append, Nat.sub_zero]
  exact Blk.new _ _ _
theorem outS_step {l : List (BitVec 32)} {wo wr : World} {j : Nat} (h : OutS l wo.heap.size wo j wr) (hl : l.length = 8) (hj : j < 32) (b : BitVec 8) (hb : (outBytes l).getD j 0 = b) : OutS l wo.heap.size wo (j + 1) (wr.setCell ⟨wo.heap.size, j, none⟩ (V8 b)) := by
  obtain ⟨h1, h2⟩ := h
  have hol := outBytes_length l
  refine ⟨?_, h2.setCell (Nat.le_refl _) _⟩
  have := h1.set j (V8 b)
  rw [set_next' (((outBytes l).take j).map V8) (32 - j) (32 - (j + 1)) Z8 (V8 b) j (by simp; omega) (by omega)] at this
  rw [List.take_succ_eq_append_getElem (by omega), List.map_append, List.map_singleton]
  have e : (outBytes l)[j]'(by omega) = b := by rw [← hb]; simp [List.getD_eq_getElem?_getD, show j < (outBytes l).length by omega]
  rw [e]; exact this

set_option maxRecDepth 100000 in
set_option maxHeartbeats 1000000 in
theorem refSum_any (bs : List (BitVec 8)) (sp : Option Addr) (cap : Nat) (w : World) (hl : bs.length ≤ 5000) (hc : bs.length ≤ cap) (hz : sp = none → cap = 0) (hS : SrcA w sp bs) :
    Calls Tryd.prog 46 #[.slice sp bs.length cap] w fun e w' => e = .returned (.agg ((digest bs).map V8).toArray) ∧ Below w.heap.size w w' := by
  obtain ⟨L, hL⟩ : ∃ L, bs.length = L := ⟨_, rfl⟩
  have HL := Lib.hid hL
  have HS := Lib.hid hS
  have HZ := Lib.hid hz
  have HC := Lib.hid hc
  rw [hL] at hl ⊢
  clear hL hS hz hc
  go_enter Tryd.func46, Tryd.ntmps46
  go_wp2_with fail
  refine (fun (k : ∀ W1, SumSt w W1 → Calls Tryd.prog 61 _ W1 _) => k _ (sumSt_start w _ _ rfl rfl)) ?_
  intro W1 hst
  have hf := filled_any bs sp cap W1 (by rw [HL.out]; omega) HC.out HZ.out (HS.out.below hst.2.2.1 (Nat.le_refl _))
  rw [HL.out] at hf
  refine hf.mono ?_
  rintro e w2 ⟨vf, rfl, hof, hbf⟩
  obtain ⟨m, hm⟩ : ∃ m, bs ++ fill L = m := ⟨_, rfl⟩
  have hmod := full_mod bs
  rw [HL.out, hm] at hmod
  have hml : m.length ≤ 6000 := by rw [← hm]; unfold fill; rw [List.length_append, fillK_length, HL.out]; have := noughts_lt L; omega
  have hm0 : 0 < m.length := by rw [← hm]; unfold fill; rw [List.length_append, fillK_length]; omega
  have HM : Hid (∃ _ : Unit, bs ++ fill L = m) := Lib.hid ⟨(), hm⟩
  rw [hm] at hof
  obtain ⟨M, hM⟩ : ∃ M, m.length = M := ⟨_, rfl⟩
  obtain ⟨n, hn⟩ : ∃ n, M = 64 * n := ⟨M / 64, by omega⟩
  obtain ⟨spf, cf, rfl, hcf, hcfm, hsf, _, _⟩ := OwnB.form hof
  obtain ⟨gf, of, rfl, hgf, hcell⟩ := hsf hm0
  rw [hM] at hcf hml hmod hm0 hcell ⊢
  have HML := Lib.hid hM
  have HCELL := Lib.hid hcell
  have HB2 : Hid (Below w.heap.size w w2) := Lib.hid (hst.2.2.1.trans (hbf.mono (by have := hst.2.2.2; omega)))
  have HBK : Hid (Blk w2 w.heap.size (List.replicate 32 Z8) 25) := Lib.hid (hst.1.below hbf (by have := hst.2.2.2; omega))
  have HA0 : Hid (SmAt m w2 0 (.slice (some ⟨w.heap.size + 1, 0, none⟩) 8 8) w2) := Lib.hid ⟨⟨_, _, rfl, by have := hst.2.2.2; have := hbf.size; omega, hst.2.1.below hbf (by have := hst.2.2.2; omega)⟩, Below.refl _ _⟩
  have hwW : w.heap.size < w2.heap.size := HBK.out.lt
  have HWS : Hid (W1.heap.size = w.heap.size + 2) := Lib.hid hst.2.2.2
  have hw1 : w.heap.size + 1 = w.heap.size + 1 := rfl
  have HNN := Lib.hid hn
  have hM0 : 0 < M := hm0
  clear hf hof hm hM hcell hst hbf hw1 hmod hn hm0
  unfold maxLen at hcfm
  go_wp2
  go_loopw [3, 5] (fun v at0 wr => ∃ k a : Nat, k ≤ n ∧ a = 64 * k ∧ at0 = .int .i64 a ∧ SmAt m w2 k v wr) (fun _ at0 _ => M - (intOf at0).toNat)
  case atStart => exact ⟨0, 0, by omega, rfl, rfl, HA0.out⟩
  case round =>
    clear HA0
    obtain ⟨k, a, hk, ha, rfl, ⟨gs, cs, rfl, hgs, hws⟩, hb⟩ := hrel
    obtain ⟨wo, rfl⟩ : ∃ W : World, W = wr := ⟨_, rfl⟩
    have HWD := Lib.hid hws
    have HB := Lib.hid hb
    have hszb := hb.size
    have HAA := Lib.hid ha
    clear hws hb ha
    by_cases hlt : k < n
    · have ham : a + 64 ≤ M := by have h1 := HAA.out; have h2 := HNN.out; omega
      obtain ⟨spq, s1, s2, s3⟩ := slice_mid (some ⟨gf, of, none⟩) M cf a 64 ham hcf
      have e2 : spq = some ⟨gf, of + a, none⟩ := by rw [s2 (by omega)]; simp [Addr.add_mid]
      subst e2
      have s1' : ∀ W : World, (Instr.sliceAt 29 (.slice (some ⟨gf, of, none⟩) M cf) (some (.int .i64 (a : Int))) (some (.int .i64 ((a : Int) + 64))) none).run Tryd.prog W = .ok (.slice (some ⟨gf, of + a, none⟩) 64 (cf - a)) W := s1
      have e64 := IntWalk.i64_in ((a : Int) + 64) (by omega)
      have g1 : (a : Int) < (M : Int) := by omega
      clear s1 s2 s3
      go_wp2_with fail
      have ht := take_any (absorb k m) (chunk m k) (chunk_length m k (by rw [HML.out]; have h1 := HAA.out; omega)) gs 0 cs gf (of + a) (cf - a) wo hgs HWD.out (by omega) (fun j hj => by
        rw [chunk_get m k j hj, ← HAA.out, Nat.add_assoc of a j]
        exact (HB.out.cell (p := ⟨gf, of + (a + j), none⟩) hgf).trans (HCELL.out (a + j) (by omega)))
      refine ht.mono ?_
      rintro e w3 ⟨v3, rfl, hr3⟩
      have HN : Hid (SmAt m w2 (k + 1) v3 w3) := Lib.hid (by
        obtain ⟨g3, c3, rfl, _, _, hg3⟩ := own_form hr3.1 (by rw [take_len]; omega)
        exact ⟨⟨g3, c3, rfl, hg3, own_words hr3.1⟩, HB.out.trans (hr3.2.mono hszb)⟩)
      clear hr3 ht s1'
      go_wp2
      go_roundw
      case rel => exact ⟨k + 1, a + 64, by omega, by have h1 := HAA.out; omega, by go_num, HN.out⟩
      case measure => simp [intOf]; omega
    · obtain rfl : k = n := by omega
      have g1 : ¬ ((a : Int) < (M : Int)) := by have h1 := HAA.out; have h2 := HNN.out; omega
      obtain ⟨l, hll⟩ : ∃ l, (absorb k m).list = l := ⟨_, rfl⟩
      have hl8 : l.length = 8 := by rw [← hll]; rfl
      have HD : Hid (∃ _ : Unit, digest bs = outBytes l) := Lib.hid ⟨(), by
        obtain ⟨_, hm⟩ := HM.out
        unfold digest full
        rw [HL.out, hm, HML.out, HNN.out, show 64 * k / 64 = k by omega, hll]⟩
      have HW : Hid (Words gs 0 l wo) := Lib.hid (by rw [← hll]; exact HWD.out)
      clear hll HWD HM
      go_wp2
      refine (fun (k : ∀ W1, OutS l wo.heap.size wo 0 W1 → Code.wp _ _ _ _ W1) => k _ (outS_start l wo _ rfl)) ?_
      intro W5 ho0
      have HO0 := Lib.hid ho0
      clear ho0 g1
      go_loopw [7] (fun i wr => ∃ k : Nat, k ≤ 32 ∧ i = .int .i64 k ∧ OutS l wo.heap.size wo k wr) (fun i _ => 32 - (intOf i).toNat)
      case atStart => exact ⟨0, by omega, rfl, HO0.out⟩
      case round =>
        clear HO0
        obtain ⟨j, hj, rfl, hO⟩ := hrel
        have HO := Lib.hid hO
        by_cases hlt : j < 32
        · obtain ⟨q, hq⟩ : ∃ q, j / 4 = q := ⟨_, rfl⟩
          obtain ⟨r, hr⟩ : ∃ r, j % 4 = r := ⟨_, rfl⟩
          have t1 : (j : Int).tdiv 4 = (q : Int) := by rw [Int.tdiv_eq_ediv_of_nonneg (by omega), ← hq]; simp
          have t2 : (j : Int).tmod 4 = (r : Int) := by rw [Int.tmod_eq_emod_of_nonneg (by omega), ← hr]; simp
          have hq8 : q < 8 := by omega
          have hr4 : r < 4 := by omega
          have t3 := IntWalk.i64_in (q : Int) (by omega)
          obtain ⟨x0, hx0⟩ : ∃ x, l.getD q 0 = x := ⟨_, rfl⟩
          have cx : wr.cell? ⟨gs, q, none⟩ = some (V32 x0) := by
            have h := (HW.out.below hO.2 hgs) q (by omega)
            rw [Nat.zero_add, hx0] at h; exact h
          have HX : Hid (∃ _ : Unit, (outBytes l).getD j 0 = lo8 (x0 >>> (24 - 8 * r))) := Lib.hid ⟨(), by rw [outBytes_get l j (by omega), hq, hr, hx0]⟩
          obtain ⟨vc, cw⟩ := hO.1.has j (by simp [outBytes_length, hl8]; omega)
          have fw := hO.1.free j
          have hG : wo.heap.size < wr.heap.size := hO.1.lt
          have qj : (j : Int) < 32 := by omega
          clear hq hr hx0 hO
          go_wp2
          go_loop [8, 9] (fun x kk => ∃ i : Nat, r ≤ i ∧ i ≤ 3 ∧ kk = .int .i64 i ∧ x = V32 (x0 >>> (8 * (i - r)))) (fun _ kk => 3 - (intOf kk).toNat)
          case atStart => exact ⟨r, Nat.le_refl _, by omega, rfl, by simp⟩
          case round =>
            obtain ⟨i, hi1, hi2, rfl, rfl⟩ := hrel
            obtain ⟨y, hy⟩ : ∃ y, x0 >>> (8 * (i - r)) = y := ⟨_, rfl⟩
            rw [hy]
            have HY : Hid (∃ _ : Unit, x0 >>> (8 * (i - r)) = y) := Lib.hid ⟨(), hy⟩
            clear hy
            have hy0 := n32_nonneg y
            by_cases hli : i < 3
            · have hd := div256 y
              go_wp2
              go_round
              case rel =>
                refine ⟨i + 1, by omega, by omega, by go_num, ?_⟩
                obtain ⟨_, hy⟩ := HY.out
                have e : x0 >>> (8 * (i + 1 - r)) = y >>> 8 := by rw [show 8 * (i + 1 - r) = 8 * (i - r) + 8 by omega, BitVec.shiftRight_add, hy]
                rw [e]
                first | rfl | rw [hd]
              case measure => simp [intOf]; omega
            · obtain rfl : i = 3 := by omega
              obtain ⟨b, hb⟩ : ∃ b, lo8 y = b := ⟨_, rfl⟩
              obtain ⟨p, hp⟩ : ∃ p, y.toNat % 256 = p := ⟨_, rfl⟩
              have p1 : (N32 y).tmod 256 = (p : Int) := by rw [Int.tmod_eq_emod_of_nonneg hy0, ← hp]; unfold N32; simp
              have p2 : N32 y % 256 = (p : Int) := by rw [← hp]; unfold N32; simp
              have p3 := lo8_mod y p hp
              rw [hb] at p3
              have HBB : Hid (∃ _ : Unit, (outBytes l).getD j 0 = b) := Lib.hid ⟨(), by
                obtain ⟨_, h1⟩ := HX.out
                obtain ⟨_, hy⟩ := HY.out
                rw [h1, ← hb, ← hy, show 8 * (3 - r) = 24 - 8 * r by omega]⟩
              clear hb hp hli
              go_wp2
              go_roundw
              case rel =>
                obtain ⟨_, h1⟩ := HBB.out
                exact ⟨j + 1, by omega, by go_num, outS_step HO.out hl8 hlt b h1⟩
              case measure => simp [intOf]; omega
        · obtain rfl : j = 32 := by omega
          have h1 : Blk wr wo.heap.size ((outBytes l).map V8) 25 := by
            have h := hO.1
            rw [List.take_of_length_le (by rw [outBytes_length]; omega)] at h
            simpa using h
          have H1 := Lib.hid h1
          have HZB : Hid (Blk wr w.heap.size (List.replicate 32 Z8) 25) := Lib.hid ((HBK.out.below HB.out hwW).below hO.2 (by omega))
          have HBW : Hid (Below w.heap.size w wr) := Lib.hid ((HB2.out.trans (HB.out.mono (by omega))).trans (hO.2.mono (by omega)))
          clear h1 hO hlt hj
          go_wp2_with (first
            | (refine wpList_load_row rfl 25 (.tmp 6) rfl wo.heap.size rfl 25 _ _ _ H1.out Tryd.underlying25 rfl (size24 l hl8) ?_)
            | (refine wpList_store_row rfl 25 (.tmp 2) (.tmp 48) rfl w.heap.size _ rfl rfl 25 _ HZB.out (size24 l hl8) (by simp [outBytes_length, hl8]) (one_ints V8 (fun _ => rfl) _) ?_)
            | fail)
          obtain ⟨_, hd⟩ := HD.out
          exact bodyPost_ret (results_cell_row Tryd.results46 _ _ w.heap.size 25 _ _ _ rfl (HZB.out.row _) Tryd.underlying25 rfl (size24 l hl8)) rfl ⟨by rw [hd], below_row HBW.out (Nat.le_refl _) _⟩
end Go.Proofs.YtlibdcgpjglcpaaDoor
