/- Inodes: what take reads. -/
import Derived.Test.YtjgjohdeeeoeoaaGreatDoorM28
import Derived.Test.YtjgjohdeeeoeoaaGreatDoorM10
namespace Go.Proofs.YtjgjohdeeeoeoaaGreatDoor
open Go.RowKit
def Bad128 (l : Bs) (e : Nat) : Prop := e ≠ 0 ∨ l.length < 128 ∨ fineI l = false
def Ri (l : Bs) (e k : Nat) (q : Prop) (rest : Bs) (ee : Nat) : Prop := (ee = 0 ∧ e = 0 ∧ k ≤ l.length ∧ rest = l.drop k ∧ q) ∨ (ee ≠ 0 ∧ Bad128 l e ∧ rest.length ≤ l.length)
theorem Ri.start (l : Bs) (e : Nat) : Ri l e 0 True l e := by
  by_cases h : e = 0
  · exact .inl ⟨h, h, by omega, by simp, trivial⟩
  · exact .inr ⟨h, .inl h, Nat.le_refl _⟩
theorem Ri.len {l : Bs} {e k : Nat} {q : Prop} {rest : Bs} {ee : Nat} (h : Ri l e k q rest ee) : rest.length ≤ l.length := by
  rcases h with ⟨_, _, _, rfl, _⟩ | ⟨_, _, h⟩
  · simp
  · exact h
theorem Ri.next {l : Bs} {e k : Nat} {q : Prop} {rest : Bs} {ee : Nat} (h : Ri l e k q rest ee) (n : Nat) (hn : 0 < n) (hk : k + n ≤ 128) : Ri l e (k + n) q (nextRes rest ee n).2.1 (nextRes rest ee n).2.2 ∧ ((nextRes rest ee n).2.2 = 0 → (nextRes rest ee n).1 = (l.drop k).take n ∧ ee = 0) ∧ ((nextRes rest ee n).1.length = n ∨ (nextRes rest ee n).1 = []) := by
  rcases h with ⟨rfl, rfl, h2, rfl, hq⟩ | ⟨h1, h2, h3⟩
  · by_cases hs : l.length - k < n
    · have e1 : nextRes (l.drop k) 0 n = ([], l.drop k, 4) := by
        unfold nextRes
        rw [if_neg (by omega), if_pos (by rw [List.length_drop]; omega)]
      rw [e1]
      exact ⟨.inr ⟨by simp, .inr (.inl (by omega)), by simp⟩, fun h => by simp at h, .inr rfl⟩
    · have e1 : nextRes (l.drop k) 0 n = ((l.drop k).take n, (l.drop k).drop n, 0) := by
        unfold nextRes
        rw [if_neg (by omega), if_neg (by rw [List.length_drop]; omega), Int.toNat_natCast]
      rw [e1]
      exact ⟨.inl ⟨rfl, rfl, by omega, by rw [List.drop_drop], hq⟩, fun _ => ⟨rfl, rfl⟩, .inl (by simp; omega)⟩
  · have e1 : nextRes rest ee n = ([], rest, ee) := by
      unfold nextRes
      rw [if_pos (.inl h1)]
    rw [e1]
    exact ⟨.inr ⟨h1, h2, h3⟩, fun h => absurd h h1, .inr rfl⟩
theorem Ri.num {l : Bs} {e k : Nat} {q : Prop} {rest : Bs} {ee : Nat} (h : Ri l e k q rest ee) (n : Nat) (hn : 0 < n) (hk : k + n ≤ 128) : ∃ x rest' ee', val (nextRes rest ee n).1 = x ∧ (nextRes rest ee n).2.1 = rest' ∧ (nextRes rest ee n).2.2 = ee' ∧ Ri l e (k + n) q rest' ee' ∧ x < 2 ^ (8 * n) ∧ (ee' = 0 → x = val ((l.drop k).take n) ∧ ee = 0) := by
  obtain ⟨h1, h2, h3⟩ := h.next n hn hk
  refine ⟨_, _, _, rfl, rfl, rfl, h1, ?_, fun h0 => by rw [(h2 h0).1]; exact ⟨rfl, (h2 h0).2⟩⟩
  refine Nat.lt_of_lt_of_le (val_lt _) (Nat.pow_le_pow_right (by omega) ?_)
  rcases h3 with h3 | h3 <;> simp [h3]
theorem Ri.nou {l : Bs} {e k : Nat} {q : Prop} {rest : Bs} {ee : Nat} (h : Ri l e k q rest ee) (n : Nat) (hn : 0 < n) (hk : k + n ≤ 128) (hz : ((l.drop k).take n).all (· == 0#8) = false → fineI l = false) : ∃ rest' ee', (nouOf rest ee n).1 = rest' ∧ (nouOf rest ee n).2 = ee' ∧ Ri l e (k + n) (q ∧ ((l.drop k).take n).all (· == 0#8) = true) rest' ee' ∧ (ee' = 0 → ee = 0) := by
  obtain ⟨h1, h2, h3⟩ := h.next n hn hk
  refine ⟨_, _, rfl, rfl, ?_, ?_⟩
  · unfold nouOf
    cases ha : (nextRes rest ee n).1.all (· == 0#8)
    · simp only [Bool.false_eq_true, if_false]
      rcases h1 with ⟨a1, a2, a3, a4, a5⟩ | ⟨a1, a2, a3⟩
      · rw [(h2 a1).1] at ha
        exact .inr ⟨by omega, .inr (.inr (hz ha)), by rw [a4]; simp⟩
      · exact .inr ⟨by omega, a2, a3⟩
    · simp only [if_true]
      rcases h1 with ⟨a1, a2, a3, a4, a5⟩ | h1
      · rw [(h2 a1).1] at ha
        exact .inl ⟨a1, a2, a3, a4, a5, ha⟩
      · exact .inr h1
  · unfold nouOf
    intro h0
    cases ha : (nextRes rest ee n).1.all (· == 0#8)
    · rw [ha] at h0; simp at h0
    · rw [ha] at h0; simp only [if_true] at h0; exact (h2 h0).2
theorem mayI_root {n : Ino} (h : mayI n = true) : (eqP n.root zeroP || mayP n.root) = true := by
  unfold mayI at h
  rw [Bool.or_eq_true] at h
  rcases h with h | h
  · rw [eqI_iff.1 h]; rfl
  · simp only [Bool.and_eq_true] at h
    have h2 := h.2
    unfold rootI at h2
    cases hz : eqP n.root zeroP
    · rw [hz] at h2
      simp only [Bool.false_or, Bool.and_eq_true] at h2
      simp [h2.2]
    · rfl
theorem Ri.ptr {l : Bs} {e : Nat} {q : Prop} {rest : Bs} {ee : Nat} (h : Ri l e 8 q rest ee) {rest' : Bs} (hr : takeE rest ee = 0 → rest' = rest.drop 64) (hl : rest'.length ≤ rest.length) : Ri l e 72 (q ∧ quietP ((l.drop 8).take 64) = true) rest' (takeE rest ee) ∧ (takeE rest ee = 0 → takenP rest ee = pt (l.drop 8) ∧ ee = 0) := by
  rcases h with ⟨rfl, rfl, h2, rfl, hq⟩ | ⟨h1, h2, h3⟩
  · by_cases hs : l.length < 72
    · have e1 : takeE (l.drop 8) 0 = 4 := by unfold takeE; rw [if_neg (by omega), if_pos (by rw [List.length_drop]; omega)]
      rw [e1]
      exact ⟨.inr ⟨by omega, .inr (.inl (by omega)), Nat.le_trans hl (by simp)⟩, fun h => by simp at h⟩
    · have e1 : takeE (l.drop 8) 0 = if quietP ((l.drop 8).take 64) && (eqP (pt (l.drop 8)) zeroP || mayP (pt (l.drop 8))) then 0 else 5 := by
        unfold takeE; rw [if_neg (by omega), if_neg (by rw [List.length_drop]; omega)]
      have e2 : takeE (l.drop 8) 0 = 0 → takenP (l.drop 8) 0 = pt (l.drop 8) := fun h => by unfold takenP; rw [if_pos h]
      by_cases hc : (quietP ((l.drop 8).take 64) && (eqP (pt (l.drop 8)) zeroP || mayP (pt (l.drop 8)))) = true
      · rw [if_pos hc] at e1
        simp only [Bool.and_eq_true] at hc
        refine ⟨?_, fun h => ⟨e2 h, rfl⟩⟩
        rw [e1]
        exact .inl ⟨rfl, rfl, by omega, by rw [hr e1, List.drop_drop], hq, hc.1⟩
      · rw [if_neg hc] at e1
        have hf : fineI l = false := by
          rw [Bool.eq_false_iff]
          intro hf
          apply hc
          unfold fineI quietI at hf
          simp only [Bool.and_eq_true] at hf
          have h5 := mayI_root hf.2
          rw [Bool.and_eq_true]
          exact ⟨hf.1.1.2, h5⟩
        rw [e1]
        exact ⟨.inr ⟨by omega, .inr (.inr hf), Nat.le_trans hl (by simp)⟩, fun h => by simp at h⟩
  · have e1 : takeE rest ee = ee := by unfold takeE; rw [if_pos h1]
    rw [e1]
    exact ⟨.inr ⟨h1, h2, Nat.le_trans hl h3⟩, fun h => absurd h h1⟩
structure TiW (w : World) (H : Nat) (K : Nat → Prop) (n : Ino) (rest : Bs) (ee : Nat) (W : World) : Prop where
  res : Blk W w.heap.size (icells zeroI) 68
  an : Blk W (w.heap.size + 1) (icells n) 68
  rd : RdAt W H K rest ee
  bf : ButFor H w W
  hH : H < w.heap.size
  hK : ∀ g, K g → g < w.heap.size
theorem TiW.start {w : World} {H : Nat} {K : Nat → Prop} {l : Bs} {e : Nat} (hR : RdAt w H K l e) (hK : ∀ g, K g → g < w.heap.size) (z : Array Value) (hz : z = (icells zeroI).toArray) : TiW w H K zeroI l e ((w.alloc (.cells z 68)).alloc (.cells z 68)) := by
  subst hz
  have hb : Below w.heap.size w ((w.alloc (.cells (icells zeroI).toArray 68)).alloc (.cells (icells zeroI).toArray 68)) := ((Below.refl _ _).alloc (Nat.le_refl _) _).alloc (by simp) _
  exact ⟨(Blk.new _ _ _).alloc _, Blk.new' _ _ _ _ _ (by simp) rfl, hR.below hb (Nat.le_refl _), ButFor.of_below hb, hR.lt, hK⟩
theorem TiW.read {w W W' : World} {H : Nat} {K : Nat → Prop} {n : Ino} {rest rest' : Bs} {ee ee' : Nat} (h : TiW w H K n rest ee W) (hr : RdAt W' H K rest' ee') (hb : ButFor H W W') : TiW w H K n rest' ee' W' :=
  have h1 := h.hH
  ⟨hb.blk h.res (by omega), hb.blk h.an (by omega), hr, h.bf.trans hb, h.hH, h.hK⟩
theorem TiW.store {w W W' : World} {H : Nat} {K : Nat → Prop} {n n' : Ino} {rest : Bs} {ee : Nat} (h : TiW w H K n rest ee W) (hr : Blk W' (w.heap.size + 1) (icells n') 68) (hb : ButFor (w.heap.size + 1) W W') : TiW w H K n' rest ee W' :=
  have h1 := h.hH
  ⟨hb.blk h.res (by omega), hr, h.rd.other hb (by omega) (fun hk => by have := h.hK _ hk; omega), ⟨hb.os.trans h.bf.os, hb.tape.trans h.bf.tape, hb.output.trans h.bf.output, Nat.le_trans h.bf.size hb.size, fun k hk hn => (hb.block k (Nat.lt_of_lt_of_le hk h.bf.size) (by omega)).trans (h.bf.block k hk hn)⟩, h1, h.hK⟩
theorem TiW.result {w W : World} {H : Nat} {K : Nat → Prop} {n : Ino} {rest : Bs} {ee : Nat} (h : TiW w H K n rest ee W) (cs : Array Value) : RdAt (W.setRow w.heap.size cs) H K rest ee ∧ ButFor H w (W.setRow w.heap.size cs) := by
  have h1 := h.hH
  refine ⟨h.rd.other (J := w.heap.size) (butFor_row cs) (by omega) (fun hk => by have := h.hK _ hk; omega), ?_⟩
  exact ⟨h.bf.os, h.bf.tape, h.bf.output, by simpa using h.bf.size, fun k hk hn => (setRow_other W w.heap.size k cs (by omega)).trans (h.bf.block k hk hn)⟩
theorem TiW.root {w W : World} {H : Nat} {K : Nat → Prop} {n : Ino} {rest : Bs} {ee : Nat} (h : TiW w H K n rest ee W) (hn : n.OK) {p : Pt} (hp : p.OK) : TiW w H K { n with root := p } rest ee (W.setCells (w.heap.size + 1) 3 (pcells p)) := by
  have h1 := blk_setCells (w.heap.size + 1) 68 (pcells p) 3 W _ h.an (by rw [icells_length hn, pcells_length hp]; omega)
  have e : (icells n).take 3 ++ pcells p ++ (icells n).drop (3 + (pcells p).length) = icells { n with root := p } := by
    unfold icells
    rw [List.take_left' (by rfl), List.drop_of_length_le (by rw [List.length_append, pcells_length hp, pcells_length hn.root]; simp [inums]), List.append_nil]
    rfl
  rw [e] at h1
  exact h.store h1 (ButFor.sets _ _ _ (ButFor.refl _ _))
structure TkIPost (l : Bs) (e H : Nat) (K : Nat → Prop) (w : World) (x : Ending) (w' : World) : Prop where
  ok : ∃ n rest ee, x = .returned (.agg (icells n).toArray) ∧ n.OK ∧ RdAt w' H K rest ee ∧ rest.length ≤ l.length ∧ ((ee = 0 ∧ e = 0 ∧ 128 ≤ l.length ∧ rest = l.drop 128 ∧ n = ino l ∧ quietI l = true) ∨ (ee ≠ 0 ∧ Bad128 l e))
  bf : ButFor H w w'
theorem fineI_no {l : Bs} (h : quietI l = false) : fineI l = false := by unfold fineI; rw [h]; rfl
set_option maxRecDepth 100000 in
set_option maxHeartbeats 8000000 in
theorem take1_any (l : Bs) (e H : Nat) {K : Nat → Prop} (w : World) (hR : RdAt w H K l e) (hK : ∀ g, K g → g < w.heap.size) (hl : l.length ≤ 100000) (hT : RTab w) (hg : 0 ≠ H) :
    Calls Tryz.prog 100 #[.pointer (some ⟨H, 0, none⟩)] w (TkIPost l e H K w) := by
  have HL := Lib.hid hl; have HT := Lib.hid hT; have HGH := Lib.hid hg
  have HST : Hid (∀ z, z = (icells zeroI).toArray → TiW w H K zeroI l e ((w.alloc (.cells z 68)).alloc (.cells z 68))) := Lib.hid (fun z hz => TiW.start hR hK z hz)
  have HR0 := Lib.hid (Ri.start l e)
  have HZL := Lib.hid (icells_length zeroI_ok)
  generalize hPost : TkIPost l e H K w = Post
  have HQ : Hid (∀ x w', TkIPost l e H K w x w' → Post x w') := Lib.hid fun x w' h => by rw [← hPost]; exact h
  clear hR hK hl hT hg hPost
  go_enter Tryz.func100, Tryz.ntmps100
  go_upto_region 2 with fail
  refine (fun (k : ∀ W, TiW w H K zeroI l e W → Code.wp _ _ _ _ W) => k _ (HST.out _ rfl)) ?_
  intro W0 hw
  have HW0 := Lib.hid hw
  clear hw HST
  go_wp2_with fail
  refine (ru8_any H l e W0 HW0.out.rd).mono ?_
  intro x0 W1 hh
  obtain ⟨a, r1, e1, q1, q2, q3, q4, q5, q6⟩ := HR0.out.num 1 (by omega) (by omega)
  obtain ⟨rfl, q8, q9⟩ := take_post hh q1 q2 q3
  have hw1 := HW0.out.read q8 q9
  obtain ⟨n1, hn1⟩ : ∃ n : Ino, { zeroI with kind := a } = n := ⟨_, rfl⟩
  have HN1 : Hid n1.OK := Lib.hid (by rw [← hn1]; exact ⟨q5, zeroI_ok.links, zeroI_ok.size, zeroI_ok.root⟩)
  have hs1 : TiW w H K n1 r1 e1 (W1.setCell ⟨w.heap.size + 1, 0, none⟩ (.int .u8 (a : Int))) := hw1.store (by rw [← hn1]; exact hw1.an.set 0 (.int .u8 (a : Int))) ((ButFor.refl _ _).set _ _)
  have HS1 := Lib.hid hs1
  have HNN1 := Lib.hid hn1
  have HR1 := Lib.hid q4
  have HV0 : Hid (e1 = 0 → a = (ino l).kind ∧ e = 0) := Lib.hid q6
  obtain ⟨y0, hy0⟩ := hw1.an.has 0 (by rw [HZL.out]; omega)
  have fy0 := hw1.an.free 0
  clear hh q1 q2 q3 q4 q5 q6 q8 q9 HW0 HR0 hw1 hs1 hn1
  go_wp2_with fail
  generalize (W1.setCell ⟨w.heap.size + 1, 0, none⟩ (.int .u8 (a : Int))) = V1 at HS1 ⊢
  clear hy0 fy0
  refine (noughts_any H r1 e1 1 V1 (Nat.le_trans HR1.out.len HL.out) HS1.out.rd).mono ?_
  obtain ⟨r2, e2, t1, t2, t3, t4⟩ := HR1.out.nou 1 (by omega) (by omega) (fun hz => fineI_no (by unfold quietI; rw [hz]; rfl))
  rw [show ((1 : Nat) : Int) = (1 : Int) from rfl] at t1 t2
  rw [t1, t2]
  rintro x W2 ⟨rfl, hrd2, hbf2⟩
  have HW2 := Lib.hid (HS1.out.read hrd2 hbf2)
  have HR2 := Lib.hid t3
  have HV1 : Hid (e2 = 0 → e1 = 0) := Lib.hid t4
  clear t1 t2 t3 t4 hrd2 hbf2 HS1 HR1
  go_wp2_with fail
  refine (ru16_any H r2 e2 W2 HW2.out.rd).mono ?_
  intro x3 W3 hh
  obtain ⟨b, r3, e3, q1, q2, q3, q4, q5, q6⟩ := HR2.out.num 2 (by omega) (by omega)
  obtain ⟨rfl, q8, q9⟩ := take_post hh q1 q2 q3
  have HW3 := Lib.hid (HW2.out.read q8 q9)
  have HR3 := Lib.hid q4
  have HB2 := Lib.hid q5
  have HV2 : Hid (e3 = 0 → b = (ino l).links ∧ e2 = 0) := Lib.hid q6
  clear hh q1 q2 q3 q4 q5 q6 q8 q9 HW2 HR2
  go_wp2_with fail
  refine (ru32_any H r3 e3 W3 HW3.out.rd).mono ?_
  intro x4 W4 hh
  obtain ⟨c, r4, e4, q1, q2, q3, q4, q5, q6⟩ := HR3.out.num 4 (by omega) (by omega)
  obtain ⟨rfl, q8, q9⟩ := take_post hh q1 q2 q3
  have hw4 := HW3.out.read q8 q9
  have HR4 := Lib.hid q4
  have HV3 : Hid (e4 = 0 → c = (ino l).size ∧ e3 = 0) := Lib.hid q6
  obtain ⟨n4, hn4⟩ : ∃ n : Ino, { n1 with links := b, size := c } = n := ⟨_, rfl⟩
  have HN4 : Hid n4.OK := Lib.hid (by rw [← hn4]; exact ⟨HN1.out.kind, HB2.out, q5, HN1.out.root⟩)
  have hs3 := hw4.store (n' := { n1 with links := b }) (hw4.an.set 1 (.int .u16 (b : Int))) ((ButFor.refl _ _).set _ _)
  have hs4 : TiW w H K n4 r4 e4 ((W4.setCell ⟨w.heap.size + 1, 1, none⟩ (.int .u16 (b : Int))).setCell ⟨w.heap.size + 1, 2, none⟩ (.int .u32 (c : Int))) := hs3.store (by rw [← hn4]; exact hs3.an.set 2 (.int .u32 (c : Int))) ((ButFor.refl _ _).set _ _)
  have HS4 := Lib.hid hs4
  have HNN4 := Lib.hid hn4
  have hl1 := icells_length HN1.out
  obtain ⟨y1, hy1⟩ := hw4.an.has 1 (by omega)
  have fy1 := hw4.an.free 1
  have hn3o : ({ n1 with links := b } : Ino).OK := ⟨HN1.out.kind, HB2.out, HN1.out.size, HN1.out.root⟩
  obtain ⟨y2, hy2⟩ := hs3.an.has 2 (by rw [icells_length hn3o]; omega)
  have fy2 := hs3.an.free 2
  clear hh q1 q2 q3 q4 q5 q6 q8 q9 HW3 HR3 hw4 hs3 hs4 hn4 hl1 hn3o HN1
  go_wp2_with fail
  generalize ((W4.setCell ⟨w.heap.size + 1, 1, none⟩ (.int .u16 (b : Int))).setCell ⟨w.heap.size + 1, 2, none⟩ (.int .u32 (c : Int))) = V4 at HS4 ⊢
  clear hy1 fy1 hy2 fy2
  have hT4 : RTab V4 := HT.out.of_heap (HS4.out.bf.block _ HT.out.lt HGH.out)
  refine (ptrTake_len r4 e4 H V4 HS4.out.rd (fun g hg => Nat.lt_of_lt_of_le (HS4.out.hK g hg) HS4.out.bf.size) (Nat.le_trans HR4.out.len HL.out) hT4 HGH.out).mono ?_
  rintro x5 W5 ⟨rfl, ⟨r5, hrd5, hr5, hrl5⟩, hbf5⟩
  obtain ⟨t3, t4⟩ := HR4.out.ptr hr5 hrl5
  obtain ⟨e5, he5⟩ : ∃ x, takeE r4 e4 = x := ⟨_, rfl⟩
  obtain ⟨p, hp⟩ : ∃ x, takenP r4 e4 = x := ⟨_, rfl⟩
  have hpo : p.OK := by rw [← hp]; exact takenP_ok _ _
  rw [he5] at t3 t4 hrd5
  rw [hp] at t4 ⊢
  have hw5 := HS4.out.read hrd5 hbf5
  have hs5 := hw5.root HN4.out hpo
  have HTH : Hid (W5.there (w.heap.size + 1) 3 (pcells p).toArray.size) := Lib.hid (hw5.an.there _ _ (by rw [List.size_toArray, pcells_length hpo, icells_length HN4.out]; omega))
  have HSP := Lib.hid (size_pc hpo)
  have HS5 := Lib.hid hs5; have HPO := Lib.hid hpo; have HR5 := Lib.hid t3
  have HV4 : Hid (e5 = 0 → p = pt (l.drop 8) ∧ e4 = 0) := Lib.hid t4
  clear hT4 hrd5 hr5 hrl5 hbf5 t3 t4 he5 hp hpo hw5 hs5 HS4 HR4
  go_wp2_with (first | (refine wpList_store_mid rfl 28 (.tmp 17) (.tmp 16) rfl (w.heap.size + 1) 3 (pcells p).toArray rfl rfl HTH.out HSP.out (one_pc p) ?_) | fail)
  generalize (W5.setCells (w.heap.size + 1) 3 (pcells p)) = V5 at HS5 ⊢
  refine (noughts_any H r5 e5 56 V5 (Nat.le_trans HR5.out.len HL.out) HS5.out.rd).mono ?_
  obtain ⟨r6, e6, t1, t2, t3, t4⟩ := HR5.out.nou 56 (by omega) (by omega) (fun hz => fineI_no (by unfold quietI; rw [hz]; simp))
  rw [show ((56 : Nat) : Int) = (56 : Int) from rfl] at t1 t2
  rw [t1, t2]
  rintro x W6 ⟨rfl, hrd6, hbf6⟩
  have hw6 := HS5.out.read hrd6 hbf6
  obtain ⟨n6, hn6⟩ : ∃ n : Ino, { n4 with root := p } = n := ⟨_, rfl⟩
  have hno : n6.OK := by rw [← hn6]; exact ⟨HN4.out.kind, HN4.out.links, HN4.out.size, HPO.out⟩
  rw [hn6] at hw6
  have HW6 := Lib.hid hw6; have HN6 := Lib.hid hno
  have HZ6 : Hid ((icells zeroI).toArray.size = (icells n6).toArray.size) := Lib.hid (by rw [List.size_toArray, List.size_toArray, icells_length hno, icells_length zeroI_ok])
  have HSZ := Lib.hid (size_icI hno)
  have HFIN : Hid ((e6 = 0 ∧ e = 0 ∧ 128 ≤ l.length ∧ r6 = l.drop 128 ∧ n6 = ino l ∧ quietI l = true) ∨ (e6 ≠ 0 ∧ Bad128 l e)) := Lib.hid (by
    rcases t3 with ⟨a1, a2, a3, a4, ⟨⟨⟨-, b1⟩, b2⟩, b3⟩⟩ | ⟨a1, a2, -⟩
    · obtain ⟨v4, w4⟩ := HV4.out (t4 a1)
      obtain ⟨v3, w3⟩ := HV3.out w4
      obtain ⟨v2, w2⟩ := HV2.out w3
      obtain ⟨v1, w1⟩ := HV0.out (HV1.out w2)
      refine .inl ⟨a1, a2, a3, a4, ?_, ?_⟩
      · rw [← hn6, ← HNN4.out, ← HNN1.out, v4, v3, v2, v1]; rfl
      · unfold quietI; rw [b1, b2, b3]; rfl
    · exact .inr ⟨a1, a2⟩)
  have HLN := Lib.hid t3.len
  clear t1 t2 t3 t4 hrd6 hbf6 hw6 hn6 hno HS5 HR5 HV0 HV1 HV2 HV3 HV4 HNN1 HNN4 HN4 HPO
  have HRES := Lib.hid (HW6.out.result (icells n6).toArray)
  have HRB := Lib.hid HW6.out.res
  have HAN := Lib.hid HW6.out.an
  go_wp2_with (first | (refine wpL_valG (by rfl) (ex_ldIn HN6.out HAN.out rfl rfl) ?_) | (refine wpList_store_row rfl 68 (.tmp 2) (.tmp 20) rfl w.heap.size (icells n6).toArray rfl rfl 68 _ HRB.out HSZ.out HZ6.out (one_ic n6) ?_) | fail)
  exact bodyPost_ret (results_cell_row Tryz.results100 _ _ w.heap.size 68 _ _ _ rfl (HRB.out.row _) Tryz.underlying68 rfl HSZ.out) rfl (HQ.out _ _ ⟨⟨n6, r6, e6, rfl, HN6.out, HRES.out.1, HLN.out, HFIN.out⟩, HRES.out.2⟩)
def StI (l : Bs) (k : Nat) (rest : Bs) (ee : Nat) (ns : List Ino) : Prop := rest.length ≤ l.length ∧ BOK ns ∧ ((ee = 0 ∧ rest = l.drop (128 * k) ∧ 128 * k ≤ l.length ∧ ∀ j, j < k → ns[j]? = some (ino (l.drop (128 * j))) ∧ quietI (l.drop (128 * j)) = true) ∨ (ee ≠ 0 ∧ inoOk l = false))
theorem inoOk_no {l : Bs} {j : Nat} (hj : j < 4) (h : fineI (l.drop (128 * j)) = false) : inoOk l = false := by
  unfold inoOk
  have : ((List.range 4).all fun j => fineI (l.drop (128 * j))) = false := by rw [List.all_eq_false]; exact ⟨j, List.mem_range.2 hj, by simp [h]⟩
  rw [this]; simp
theorem inoOk_len {l : Bs} (h : l.length ≠ 512) : inoOk l = false := by unfold inoOk; rw [decide_eq_false h]; rfl
theorem iget_set_lt {α : Type} {l : List α} {k : Nat} {f : Nat → α} {q : Nat → Prop} (hk : k < l.length) (h : ∀ i, i < k → l[i]? = some (f i) ∧ q i) (hq : q k) : ∀ j, j < k + 1 → (l.set k (f k))[j]? = some (f j) ∧ q j := fun j hj => by
  by_cases e : k = j
  · subst e; rw [List.getElem?_set_self hk]; exact ⟨rfl, hq⟩
  · rw [List.getElem?_set_ne e]; exact h j (by omega)
theorem StI.next {l : Bs} {k : Nat} {rest rest' : Bs} {ee ee' : Nat} {ns : List Ino} {n : Ino} (h : StI l k rest ee ns) (hk : k < 4) (hn : n.OK) (hl : rest'.length ≤ rest.length) (hr : (ee' = 0 ∧ ee = 0 ∧ 128 ≤ rest.length ∧ rest' = rest.drop 128 ∧ n = ino rest ∧ quietI rest = true) ∨ (ee' ≠ 0 ∧ Bad128 rest ee)) : StI l (k + 1) rest' ee' (ns.set k n) := by
  obtain ⟨h1, h2, h3⟩ := h
  refine ⟨Nat.le_trans hl h1, h2.set k hn, ?_⟩
  rcases hr with ⟨a1, a2, a3, a4, a5, a6⟩ | ⟨a1, a2⟩
  · rcases h3 with ⟨b1, b2, b3, b4⟩ | ⟨b1, b2⟩
    · subst b2
      rw [List.length_drop] at a3
      refine .inl ⟨a1, by rw [a4, List.drop_drop]; congr 1, by omega, ?_⟩
      rw [a5]
      exact iget_set_lt (f := fun j => ino (l.drop (128 * j))) (q := fun j => quietI (l.drop (128 * j)) = true) (by rw [h2.len]; exact hk) b4 a6
    · exact absurd a2 b1
  · refine .inr ⟨a1, ?_⟩
    rcases h3 with ⟨b1, b2, b3, b4⟩ | ⟨b1, b2⟩
    · subst b2
      rcases a2 with c | c | c
      · exact absurd b1 c
      · rw [List.length_drop] at c
        exact inoOk_len (by omega)
      · exact inoOk_no hk c
    · exact b2
theorem StI.fin {l rest : Bs} {ee : Nat} {ns : List Ino} (h : StI l 4 rest ee ns) : (endOf rest ee ≠ 0 → inoOk l = false) ∧ (endOf rest ee = 0 → inoOk l = allMay ns ∧ (allMay ns = true → ns = inoT l)) := by
  obtain ⟨h1, h2, h3⟩ := h
  rcases h3 with ⟨b1, b2, b3, b4⟩ | ⟨b1, b2⟩
  · subst b1 b2
    have e1 : endOf (l.drop (128 * 4)) 0 = if l.length = 512 then 0 else 5 := by
      unfold endOf leftOf badOf
      rw [if_pos rfl, List.length_drop]
      by_cases h : l.length = 512
      · rw [if_pos h, if_pos (by omega)]
      · rw [if_neg h, if_neg (by omega)]; rfl
    rw [e1]
    by_cases h : l.length = 512
    · rw [if_pos h]
      have hns : ns = inoL l := by
        apply List.ext_getElem?
        intro j
        by_cases hj : j < 4
        · rw [(b4 j hj).1]; simp [inoL, hj]
        · rw [List.getElem?_eq_none (by rw [h2.len]; omega), List.getElem?_eq_none (by simp [inoL]; omega)]
      have hok : inoOk l = allMay ns := by
        rw [hns]
        unfold inoOk allMay inoL
        rw [decide_eq_true h, List.all_map, Bool.true_and, Bool.eq_iff_iff, List.all_eq_true, List.all_eq_true]
        have hf : ∀ j, j < 4 → fineI (l.drop (128 * j)) = mayI (ino (l.drop (128 * j))) := fun j hj => by unfold fineI; rw [(b4 j hj).2]; rfl
        constructor
        · intro H j hj; have := H j hj; rw [hf j (List.mem_range.1 hj)] at this; exact this
        · intro H j hj; rw [hf j (List.mem_range.1 hj)]; exact H j hj
      exact ⟨fun h => absurd rfl h, fun _ => ⟨hok, fun ha => by unfold inoT; rw [if_pos (by rw [hok]; exact ha)]; exact hns⟩⟩
    · rw [if_neg h]
      exact ⟨fun _ => inoOk_len h, fun h => by cases h⟩
  · refine ⟨fun _ => b2, fun h => ?_⟩
    unfold endOf leftOf badOf at h
    rw [if_neg b1, if_pos rfl] at h
    exact absurd h b1
def ITakePost (l : Bs) (w : World) (x : Ending) (w' : World) : Prop := x = .returned (.tuple #[.agg (bcells (inoT l)).toArray, .int .i64 (inoE l : Int)]) ∧ Below w.heap.size w w'
structure TkB (w : World) (L H G : Nat) (ns : List Ino) (rest : Bs) (ee : Nat) (W : World) : Prop where
  res : Blk W w.heap.size (bcells zeros4) 104
  b : Blk W G (bcells ns) 104
  rd : RdAt W H (fun g => L ≤ g ∧ g < H) rest ee
  bel : Below w.heap.size w W
  hH : w.heap.size + 1 ≤ H ∧ H < G
theorem TkB.read {w W W' : World} {L H G : Nat} {ns : List Ino} {rest rest' : Bs} {ee ee' : Nat} (h : TkB w L H G ns rest ee W) (hr : RdAt W' H (fun g => L ≤ g ∧ g < H) rest' ee') (hb : ButFor H W W') : TkB w L H G ns rest' ee' W' :=
  have h1 := h.hH
  ⟨hb.blk h.res (by omega), hb.blk h.b (by omega), hr, h.bel.trans (hb.below (by omega) h.bel.size), h.hH⟩
theorem TkB.grown {w W W' : World} {L H G : Nat} {ns : List Ino} {rest : Bs} {ee : Nat} (h : TkB w L H G ns rest ee W) (hb : Below W.heap.size W W') : TkB w L H G ns rest ee W' :=
  ⟨h.res.below hb h.res.lt, h.b.below hb h.b.lt, h.rd.below hb (Nat.le_refl _), h.bel.trans (hb.mono h.bel.size), h.hH⟩
theorem TkB.put {w W : World} {L H G : Nat} {ns : List Ino} {rest : Bs} {ee : Nat} (h : TkB w L H G ns rest ee W) (hn : BOK ns) {k : Nat} (hk : k < 4) {q : Ino} (hq : q.OK) : TkB w L H G (ns.set k q) rest ee (W.setCells G (k * 44) (icells q)) :=
  have h1 := h.hH
  ⟨blk_setCells_other (by omega) _ _ _ _ h.res, blk_setI hn h.b hk (Nat.mul_comm k 44) hq, h.rd.other (J := G) (ButFor.sets _ _ _ (ButFor.refl _ _)) (by omega) (fun hk => by omega), below_setsI _ _ _ h.bel (by omega), h1⟩
set_option maxRecDepth 100000 in
set_option maxHeartbeats 8000000 in
theorem itake_any (l : Bs) (sp : Option Addr) (cap : Nat) (w : World) (hl : l.length ≤ 100000) (hz : sp = none → cap = 0) (hc : l.length ≤ cap) (hS : SrcA w sp l) (hT : RTab w) : Calls Tryz.prog 76 #[.slice sp l.length cap] w (ITakePost l w) := by
  have HL := Lib.hid hl; have HT := Lib.hid hT
  have HB : Hid (Blk (w.alloc (.cells (bcells zeros4).toArray 104)) w.heap.size (bcells zeros4) 104) := Lib.hid (Blk.new _ _ _)
  have HW : Hid (Below w.heap.size w (w.alloc (.cells (bcells zeros4).toArray 104))) := Lib.hid ((Below.refl _ _).alloc (Nat.le_refl _) _)
  obtain ⟨N, hN⟩ : ∃ N, l.length = N := ⟨_, rfl⟩
  have HN := Lib.hid hN
  have HNW : Hid (∀ W, Below w.heap.size w W → Calls Tryz.prog 26 #[.slice sp N cap] W (RetRd l W)) := Lib.hid fun W hb => by
    have h1 := new_any l sp cap W hl hz hc (hS.grown hb)
    rw [hN] at h1
    exact h1
  have HSZ1 : Hid ((w.alloc (.cells (bcells zeros4).toArray 104)).heap.size = w.heap.size + 1) := Lib.hid (by simp)
  rw [hN]
  generalize hPost : ITakePost l w = Post
  have HQ : Hid (∀ x w', ITakePost l w x w' → Post x w') := Lib.hid fun x w' h => by rw [← hPost]; exact h
  clear hl hz hc hS hT hPost hN
  go_enter Tryz.func76, Tryz.ntmps76
  go_upto_region 1 with fail
  refine (fun (k : ∀ W, Blk W w.heap.size (bcells zeros4) 104 → Below w.heap.size w W → W.heap.size = w.heap.size + 1 → Code.wp _ _ _ _ W) => k _ HB.out HW.out HSZ1.out) ?_
  intro W0 hb hw hs
  have HB0 := Lib.hid hb; have HW0 := Lib.hid hw; have HS0 := Lib.hid hs
  clear hb hw hs HB HW HSZ1
  go_wp2_with fail
  refine (HNW.out W0 HW0.out).mono ?_
  rintro e1 W1 ⟨H, rfl, hrd, hH, hb1⟩
  have HRD := Lib.hid hrd; have HH := Lib.hid hH; have HB1 := Lib.hid hb1
  clear hrd hH hb1 HNW
  go_upto_region 3 with fail
  have hx : ∀ z, z = (bcells zeros4).toArray → TkB w W0.heap.size H W1.heap.size zeros4 l 0 (W1.alloc (.cells z 104)) := fun z hz => by
    subst hz
    have h1 := HS0.out
    have h2 := HH.out
    have h3 := HRD.out.lt
    have hg : Below W1.heap.size W1 (W1.alloc (.cells (bcells zeros4).toArray 104)) := (Below.refl _ _).alloc (Nat.le_refl _) _
    have hw1 : Below w.heap.size w W1 := HW0.out.trans (HB1.out.mono (by omega))
    exact ⟨(HB0.out.below HB1.out (by omega)).alloc _, Blk.new _ _ _, HRD.out.below hg (Nat.le_refl _), hw1.trans (hg.mono hw1.size), by omega⟩
  refine (fun (k : ∀ W, TkB w W0.heap.size H W1.heap.size zeros4 l 0 W → Code.wp _ _ _ _ W) => k _ (hx _ rfl)) ?_
  intro W2 hx2
  obtain ⟨G, hG⟩ : ∃ g, W1.heap.size = g := ⟨_, rfl⟩
  obtain ⟨L, hLo⟩ : ∃ g, W0.heap.size = g := ⟨_, rfl⟩
  have HTH0 : Hid (0 < H) := Lib.hid (by have := HT.out.lt; have := HH.out; have := HS0.out; omega)
  rw [hG, hLo] at hx2
  rw [hG]
  have HX := Lib.hid hx2
  clear hx hx2 hG hLo HRD HB1 HB0 HW0 HH HS0
  have HZO := Lib.hid zeros4_ok
  have HST0 : Hid (StI l 0 l 0 zeros4) := Lib.hid ⟨Nat.le_refl _, HZO.out, .inl ⟨rfl, by simp, by omega, fun j hj => by omega⟩⟩
  go_wp2_with fail
  go_loopw [9] (fun i wr => ∃ (k : Nat) (ns : List Ino) (rest : Bs) (ee : Nat), k ≤ 4 ∧ i = .int .i64 (k : Int) ∧ StI l k rest ee ns ∧ TkB w L H G ns rest ee wr) (fun i _ => 4 - (intOf i).toNat)
  case atStart => exact ⟨0, zeros4, l, 0, by omega, rfl, HST0.out, HX.out⟩
  case round =>
    clear HX HST0
    obtain ⟨k, ns, rest, ee, hk, rfl, hst, hX⟩ := hrel
    have HX := Lib.hid hX; have HST := Lib.hid hst
    have HBO := Lib.hid hst.2.1
    have wk1 := IntWalk.i64_in ((k : Int) + 1) (by omega)
    have hgl := hX.hH
    have hRT := HT.out.grown hX.bel
    have hTK := take1_any rest ee H wr hX.rd (fun g hg => by have := hX.b.lt; omega) (Nat.le_trans hst.1 HL.out) hRT (by have := HTH0.out; omega)
    have HTK := Lib.hid hTK
    clear hX hst hgl hRT hTK
    by_cases hlt : k < 4
    · go_wp2_with fail
      refine HTK.out.mono ?_
      rintro e w3 ⟨⟨n, rest', ee', rfl, hno, hrd, hrl, hres⟩, hbf⟩
      have hx3 := HX.out.read hrd hbf
      have HX4 := Lib.hid (hx3.put HBO.out hlt hno)
      have HS4 := Lib.hid (HST.out.next hlt hno hrl hres)
      have HTH : Hid (w3.there G (k * 44) (icells n).toArray.size) := Lib.hid (hx3.b.there _ _ (by rw [List.size_toArray, icells_length hno, HBO.out.cells]; omega))
      have HSZ := Lib.hid (size_icI hno)
      have HLT := Lib.hid hlt
      clear hno hrd hrl hres hbf hx3 HX HST HTK
      go_wp2_with (first | (refine wpL_valG (by rfl) (ex_iaBI HLT.out rfl rfl rfl) ?_) | (refine wpList_store_mid rfl 68 (.tmp 15) (.tmp 14) rfl G (k * 44) (icells n).toArray rfl rfl HTH.out HSZ.out (one_ic n) ?_) | fail)
      go_roundw
      case rel => exact ⟨k + 1, _, _, _, by omega, by go_num, HS4.out, HX4.out⟩
      case measure => simp [intOf]; omega
    · obtain rfl : k = 4 := by omega
      rw [show ((4 : Nat) : Int) = (4 : Int) from rfl]
      have HFI := Lib.hid HST.out.fin
      obtain ⟨E, hE⟩ : ∃ E, endOf rest ee = E := ⟨_, rfl⟩
      have HE := Lib.hid hE
      have hend := end_any H rest ee wr.drew (HX.out.grown (Below.refl _ _).drew).rd
      rw [hE] at hend HFI
      have HSB := Lib.hid (size_bcB HBO.out)
      have HAO := Lib.hid (allow_ok HBO.out)
      clear hlt hk hE HTK wk1
      go_upto_region 8 with fail
      have hs0 : Blk wr.drew G (bcells ns) 104 := HX.out.b.drew
      have hX0 := HX.out.grown (Below.refl _ _).drew
      by_cases hE0 : E = 0
      · subst hE0
        have hal := HFI.out.2 rfl
        obtain ⟨eb, heb⟩ : ∃ b, decide (ns = allow ns) = b := ⟨_, rfl⟩
        have HEB := Lib.hid heb
        clear heb
        refine gS (.take 0 (.step 1 (.take 2 (.take 3 (.take 4 (.take 5 (.step 6 (.take 7 (.take 8 (.nil)))))))))) (fun X => Blk X G (bcells ns) 104) (hs0) ?_
        refine gT (.pointer (some ⟨H, 0, none⟩)) ?_; try simp only [pS]
        refine wpG_call _ rfl (by rfl) 31 #[.pointer (some ⟨H, 0, none⟩)] (fun X => by go_simp) (fun u X => u = .int .i64 ((0 : Nat) : Int) ∧ TkB w L H G ns rest 0 X) (hend.mono fun e X ⟨e1, e2, e3⟩ => ⟨_, e1, (hX0.read e2 e3).b, rfl, hX0.read e2 e3⟩) ?_
        rintro u X5 hs5 ⟨rfl, hX5⟩
        refine ⟨fun X => Blk X G (bcells ns) 104, fun _ h => h, hs5, ?_⟩; try simp only [pS]
        refine gT (.bool false) ?_; try simp only [pS]
        refine gT (.bool false) ?_; try simp only [pS]
        refine wpG_take _ (.agg (bcells ns).toArray) rfl (by rfl) (fun X hX => ex_ldBn HBO.out hX rfl rfl) ?_; try simp only [pS]
        refine wpG_take _ (.agg (bcells ns).toArray) rfl (by rfl) (fun X hX => ex_ldBn HBO.out hX rfl rfl) ?_; try simp only [pS]
        refine wpG_call _ rfl (by rfl) 92 #[.agg (bcells ns).toArray] (fun X => by go_simp) (fun u X => u = .agg (bcells (allow ns)).toArray ∧ TkB w L H G ns rest 0 X) ((allowed_any ns HBO.out X5 (HT.out.grown hX5.bel)).mono fun e X ⟨e1, e2⟩ => ⟨_, e1, (hX5.grown e2).b, rfl, hX5.grown e2⟩) ?_
        rintro u X7 hs7 ⟨rfl, hX7⟩
        refine ⟨fun X => Blk X G (bcells ns) 104, fun _ h => h, hs7, ?_⟩; try simp only [pS]
        refine wpG_take _ (.bool (!eb)) rfl (by rfl) (fun X hX => (ex_neBn HBO.out HAO.out rfl rfl rfl).trans (by rw [HEB.out])) ?_; try simp only [pS]
        refine gT (.bool (!eb)) ?_; try simp only [pS]
        refine wpG_nil ?_
        have hrv : allMay ns = eb := by rw [← HEB.out, Bool.eq_iff_iff, decide_eq_true_iff]; exact (allow_eq ns).symm
        have HBE := Lib.hid hX7.bel
        have HRS := Lib.hid hX7.res
        have HBB := Lib.hid hs7
        cases eb
        · have hv : inoE l = 5 ∧ inoT l = zeros4 := by unfold inoE inoT; rw [hal.1, hrv]; exact ⟨rfl, rfl⟩
          have HV := Lib.hid hv
          have HSZ := Lib.hid (size_bcB zeros4_ok)
          have HON := Lib.hid (bcells_one zeros4)
          clear hv hal hrv hX7 hs7 hX0 hs0 hend HX HST
          go_wp2_with (first | (refine wpL_val rfl (ex_bldB0 rfl) ?_) | (refine wpList_store_row rfl 104 (.tmp 2) (.tmp 26) rfl w.heap.size (bcells zeros4).toArray rfl rfl 104 _ HRS.out HSZ.out rfl HON.out ?_) | fail)
          refine bodyPost_ret (results_ctI Tryz.results76 _ _ w.heap.size 104 _ rfl (HRS.out.row _) Tryz.underlying104 (size_bcBl zeros4_ok)) rfl (HQ.out _ _ ⟨?_, below_row HBE.out (Nat.le_refl _) _⟩)
          rw [HV.out.1, HV.out.2]; rfl
        · have hv : inoE l = 0 ∧ inoT l = ns := ⟨by unfold inoE; rw [hal.1, hrv]; rfl, (hal.2 hrv).symm⟩
          have HV := Lib.hid hv
          have HON := Lib.hid (bcells_one ns)
          have HSZ : Hid ((bcells zeros4).toArray.size = (bcells ns).toArray.size) := Lib.hid (by rw [zeros4_ok.size, HBO.out.size])
          clear hv hal hrv hX7 hs7 hX0 hs0 hend HX HST
          go_wp2_with (first | (refine wpL_val rfl (ex_ldBn HBO.out HBB.out rfl rfl) ?_) | (refine wpList_store_row rfl 104 (.tmp 2) (.tmp 27) rfl w.heap.size (bcells ns).toArray rfl rfl 104 _ HRS.out HSB.out HSZ.out HON.out ?_) | fail)
          refine bodyPost_ret (results_ctI Tryz.results76 _ _ w.heap.size 104 _ rfl (HRS.out.row _) Tryz.underlying104 (size_bcBl HBO.out)) rfl (HQ.out _ _ ⟨?_, below_row HBE.out (Nat.le_refl _) _⟩)
          rw [HV.out.1, HV.out.2]; rfl
      · have i0 : ¬ (E : Int) = 0 := by omega
        have hno := HFI.out.1 hE0
        refine gS (.take 0 (.step 1 (.take 2 (.take 3 (.take 4 (.take 5 (.step 6 (.take 7 (.take 8 (.nil)))))))))) (fun X => Blk X G (bcells ns) 104) (hs0) ?_
        refine gT (.pointer (some ⟨H, 0, none⟩)) ?_; try simp only [pS]
        refine wpG_call _ rfl (by rfl) 31 #[.pointer (some ⟨H, 0, none⟩)] (fun X => by go_simp) (fun u X => u = .int .i64 (E : Int) ∧ TkB w L H G ns rest E X) (hend.mono fun e X ⟨e1, e2, e3⟩ => ⟨_, e1, (hX0.read e2 e3).b, rfl, hX0.read e2 e3⟩) ?_
        rintro u X5 hs5 ⟨rfl, hX5⟩
        refine ⟨fun X => Blk X G (bcells ns) 104, fun _ h => h, hs5, ?_⟩; try simp only [pS]
        refine gT (.bool true) ?_; try simp only [pS]
        refine gT (.bool true) ?_; try simp only [pS]
        refine wpG_pass _ rfl (by rfl) ?_; try simp only [pS]
        refine wpG_pass _ rfl (by rfl) ?_; try simp only [pS]
        refine wpG_skip _ rfl (by rfl) hs5 ?_; try simp only [pS]
        refine wpG_pass _ rfl (by rfl) ?_; try simp only [pS]
        refine gT (.bool true) ?_; try simp only [pS]
        refine wpG_nil ?_
        have hX7 := hX5
        have hs7 := hs5
        have hv : inoE l = 5 ∧ inoT l = zeros4 := by unfold inoE inoT; rw [hno]; exact ⟨rfl, rfl⟩
        have HV := Lib.hid hv
        have HBE := Lib.hid hX7.bel
        have HRS := Lib.hid hX7.res
        have HSZ := Lib.hid (size_bcB zeros4_ok)
        have HON := Lib.hid (bcells_one zeros4)
        clear hv hno hX7 hs7 hX0 hs0 hend HX HST
        go_wp2_with (first | (refine wpL_val rfl (ex_bldB0 rfl) ?_) | (refine wpList_store_row rfl 104 (.tmp 2) (.tmp 26) rfl w.heap.size (bcells zeros4).toArray rfl rfl 104 _ HRS.out HSZ.out rfl HON.out ?_) | fail)
        refine bodyPost_ret (results_ctI Tryz.results76 _ _ w.heap.size 104 _ rfl (HRS.out.row _) Tryz.underlying104 (size_bcBl zeros4_ok)) rfl (HQ.out _ _ ⟨?_, below_row HBE.out (Nat.le_refl _) _⟩)
        rw [HV.out.1, HV.out.2]; rfl
end Go.Proofs.YtjgjohdeeeoeoaaGreatDoor
