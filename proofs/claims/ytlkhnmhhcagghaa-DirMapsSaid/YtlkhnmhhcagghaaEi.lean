/- Entries: Take. -/
import Derived.Test.YtlkhnmhhcagghaaEh
import Derived.WalkMore
namespace Go.Proofs.Ytlkhnmhhcagghaa
open Go.RowKit

attribute [local go_sem] Oper.semAt_some

def tkL : Nat → List (BitVec 8) → List Ent → Option (List Ent)
  | 0, _, _ => none
  | f + 1, l, acc => if l = [] then some acc else if (tkE l 0).2.2 ≠ 0 then none else if follB acc (tkE l 0).1 = true then tkL f (tkE l 0).2.1 (acc ++ [(tkE l 0).1]) else none
def takeL (b : List (BitVec 8)) : Option (List Ent) := tkL (b.length + 1) b []
theorem nextRes_e {l l' a : List (BitVec 8)} {e : Nat} {n : Int} (h : nextRes l e n = (a, l', 0)) : e = 0 ∧ (n ≤ 0 ∧ a = [] ∧ l' = l ∨ 0 < n ∧ n ≤ (l.length : Int) ∧ a = l.take n.toNat ∧ l' = l.drop n.toNat) := by
  unfold nextRes at h
  split at h
  · rename_i h1
    injection h with h2 h3
    injection h3 with h4 h5
    subst h2 h4 h5
    rcases h1 with h1 | h1
    · exact absurd rfl h1
    · exact ⟨rfl, .inl ⟨h1, rfl, rfl⟩⟩
  · rename_i h1
    split at h
    · injection h with h2 h3
      injection h3 with h4 h5
      cases h5
    · rename_i h6
      injection h with h2 h3
      injection h3 with h4 h5
      subst h2 h4
      refine ⟨by omega, .inr ⟨by omega, by omega, rfl, rfl⟩⟩
/-- What an entry's reading that is well has gone over. -/
theorem tkE_ok {l : List (BitVec 8)} (h : (tkE l 0).2.2 = 0) : ∃ (x : BitVec 8) (r : List (BitVec 8)), l = x :: r ∧ x.toNat + 3 ≤ r.length ∧ tkE l 0 = (⟨un (r.take x.toNat), val ((r.drop x.toNat).take 2), val ((r.drop (x.toNat + 2)).take 1)⟩, r.drop (x.toNat + 3), 0) := by
  obtain ⟨a, l1, e1, ha⟩ : ∃ a l1 e1, nextRes l 0 1 = (a, l1, e1) := ⟨_, _, _, rfl⟩
  obtain ⟨b, l2, e2, hb⟩ : ∃ b l2 e2, nextRes l1 e1 (val a : Int) = (b, l2, e2) := ⟨_, _, _, rfl⟩
  obtain ⟨c, l3, e3, hc⟩ : ∃ c l3 e3, nextRes l2 e2 2 = (c, l3, e3) := ⟨_, _, _, rfl⟩
  obtain ⟨d, l4, e4, hd⟩ : ∃ d l4 e4, nextRes l3 e3 1 = (d, l4, e4) := ⟨_, _, _, rfl⟩
  have ht : tkE l 0 = (⟨un b, val c, val d⟩, l4, e4) := by unfold tkE; simp only [ha, hb, hc, hd]
  rw [ht] at h
  obtain rfl : e4 = 0 := h
  obtain ⟨rfl, h4⟩ := nextRes_e hd
  obtain ⟨rfl, h3⟩ := nextRes_e hc
  obtain ⟨rfl, h2⟩ := nextRes_e hb
  obtain ⟨-, h1⟩ := nextRes_e ha
  rcases h1 with ⟨h1, -⟩ | ⟨-, h1, rfl, rfl⟩
  · omega
  rcases h3 with ⟨h3, -⟩ | ⟨-, h3, rfl, rfl⟩
  · omega
  rcases h4 with ⟨h4, -⟩ | ⟨-, h4, rfl, rfl⟩
  · omega
  cases l with
  | nil => simp at h1
  | cons x r =>
    have e1 : (1 : Int).toNat = 1 := rfl
    have e2 : (2 : Int).toNat = 2 := rfl
    have hv : val ((x :: r).take (1 : Int).toNat) = x.toNat := by rw [e1]; simp [val]
    rw [hv] at h2
    have hd1 : (x :: r).drop (1 : Int).toNat = r := rfl
    rw [hd1] at h2
    refine ⟨x, r, rfl, ?_, ?_⟩
    · rcases h2 with ⟨h2, rfl, rfl⟩ | ⟨-, h2, rfl, rfl⟩
      · simp only [e2, List.length_drop] at h4 h3; omega
      · simp only [e2, List.length_drop, Int.toNat_natCast] at h4 h3; omega
    · rw [ht]
      rcases h2 with ⟨h2, rfl, rfl⟩ | ⟨-, h2, rfl, rfl⟩
      · have hx : x.toNat = 0 := by omega
        rw [hx]
        simp [e1, e2, List.drop_drop]
      · rw [Int.toNat_natCast]
        simp [e1, e2, List.drop_drop]
theorem tkE_short {l : List (BitVec 8)} (h : (tkE l 0).2.2 = 0) : (tkE l 0).2.1.length < l.length := by
  obtain ⟨x, r, rfl, h1, h2⟩ := tkE_ok h
  rw [h2]
  simp; omega
theorem tkE_ok' {l : List (BitVec 8)} (h : (tkE l 0).2.2 = 0) : (tkE l 0).1.OK ∧ (tkE l 0).1.n.length < 256 := by
  obtain ⟨x, r, rfl, h1, h2⟩ := tkE_ok h
  rw [h2]
  have a1 := val_lt ((r.drop x.toNat).take 2)
  have a2 := val_lt ((r.drop (x.toNat + 2)).take 1)
  have b1 : 2 ^ (8 * ((r.drop x.toNat).take 2).length) ≤ 2 ^ (8 * 2) := Nat.pow_le_pow_right (by omega) (by rw [List.length_take]; omega)
  have b2 : 2 ^ (8 * ((r.drop (x.toNat + 2)).take 1).length) ≤ 2 ^ (8 * 1) := Nat.pow_le_pow_right (by omega) (by rw [List.length_take]; omega)
  refine ⟨⟨by show val _ < 65536; omega, by show val _ < 256; omega⟩, ?_⟩
  show (un _).length < 256
  rw [un_length, List.length_take]
  have := x.isLt
  omega
theorem tkE_le (l : List (BitVec 8)) (e : Nat) : (tkE l e).1.n.length ≤ l.length ∧ (tkE l e).2.1.length ≤ l.length := by
  have hs : ∀ (l : List (BitVec 8)) (e : Nat) (n : Int), (nextRes l e n).2.1.length ≤ l.length := fun l e n => by
    unfold nextRes
    split
    · exact Nat.le_refl _
    · split
      · exact Nat.le_refl _
      · simp
  unfold tkE
  refine ⟨?_, ?_⟩
  · show (un _).length ≤ _
    rw [un_length]
    exact Nat.le_trans (nextRes_le _ _ _) (hs _ _ _)
  · exact Nat.le_trans (hs _ _ _) (Nat.le_trans (hs _ _ _) (Nat.le_trans (hs _ _ _) (hs _ _ _)))
theorem srcX_chg {w W : World} {K : Nat → Prop} {sp : Option Addr} {bs : List (BitVec 8)} {F : Nat → Prop} (h : SrcX w K sp bs) (hc : Chg F w W) (hn : ∀ g, K g → ¬ F g) : SrcX W K sp bs := fun h0 => by
  obtain ⟨g, o, e, hk, hg, hcl⟩ := h h0
  refine ⟨g, o, e, hk, Nat.lt_of_lt_of_le hg hc.size, fun j hj => ?_⟩
  rw [World.cell?_of_block (w := w) (a := ⟨g, o + j, none⟩) (hc.block g hg (hn g hk))]
  exact hcl j hj
set_option maxRecDepth 100000 in
set_option maxHeartbeats 8000000 in
theorem enTake_any (b : List (BitVec 8)) (sp : Option Addr) (cap : Nat) (hl : b.length ≤ 100000) (hz : sp = none → cap = 0) (hc : b.length ≤ cap) (w : World) (hS : SrcA w sp b) :
    Calls Try.prog 11 #[.slice sp b.length cap] w (EnPost w (if takeL b = none then 5 else 0) ((takeL b).getD [])) := by
  have hnew := new_any b sp cap w hl hz hc hS
  obtain ⟨RES, hRES⟩ : ∃ R, takeL b = R := ⟨_, rfl⟩
  have HNEW := Lib.hid hnew; have HL := Lib.hid hl; have HRES := Lib.hid hRES
  obtain ⟨N, hN⟩ : ∃ N, b.length = N := ⟨_, rfl⟩
  rw [hN] at HNEW HL ⊢
  have HN := Lib.hid hN
  rw [hRES]
  generalize hPost : EnPost w (if RES = none then 5 else 0) (RES.getD []) = Post
  have HPE : Hid (∀ w', RES = none → Below w.heap.size w w' → Post (.returned (.tuple #[.slice none 0 0, .int .i64 5])) w') := Lib.hid fun w' h0 h1 => by rw [← hPost, if_pos h0, h0]; exact ⟨_, rfl, OwnE.nil _ _, h1⟩
  have HP : Hid (∀ v acc w', RES = some acc → OwnE w' w.heap.size v acc → Below w.heap.size w w' → Post (.returned (.tuple #[v, .int .i64 0])) w') := Lib.hid fun v acc w' h0 h1 h2 => by rw [← hPost, if_neg (by rw [h0]; simp), h0]; exact ⟨v, rfl, h1, h2⟩
  clear hnew hl hz hc hS hN hRES hPost
  go_enter Try.func11, Try.ntmps11
  go_wp2_with fail
  go_step3
  go_wp2_with fail
  refine HNEW.out.mono ?_
  rintro x W1 ⟨H, rfl, hr1, hH, hb1⟩
  have HH := Lib.hid hH
  obtain ⟨K, hK⟩ : ∃ K : Nat → Prop, (fun g => w.heap.size ≤ g ∧ g < H) = K := ⟨_, rfl⟩
  rw [hK] at hr1
  have HKK : Hid (∀ g, H ≤ g → ¬ K g) := Lib.hid (fun g hg => by rw [← hK]; show ¬ (w.heap.size ≤ g ∧ g < H); omega)
  obtain ⟨B1, hB1⟩ : ∃ B, W1.heap.size = B := ⟨_, rfl⟩
  have HBH : Hid (H < B1 ∧ w.heap.size ≤ B1 ∧ B1 ≤ W1.heap.size) := Lib.hid ⟨by rw [← hB1]; exact hr1.lt, by rw [← hB1]; exact hb1.size, by omega⟩
  have HR1 := Lib.hid hr1; have HB1 := Lib.hid hb1
  have HRES1 : Hid (tkL (b.length + 1) b [] = RES) := Lib.hid HRES.out
  clear hr1 hb1 hH hK HNEW hB1
  go_wp2_with fail
  go_step3
  go_wp2_with fail
  go_loopg [5] N (fun r s wr => ∃ (l : List (BitVec 8)) (acc : List Ent) (f : Nat), r = l.length ∧ l.length < f ∧ l.length ≤ 100000 ∧ acc.length ≤ 64 ∧ tkL f l acc = RES ∧ RdAt wr H K l 0 ∧ OwnE wr B1 s acc ∧ Below w.heap.size w wr ∧ B1 ≤ wr.heap.size)
  case atStart => exact ⟨b, [], b.length + 1, HN.out.symm, by omega, by have := HL.out; have := HN.out; omega, by simp, HRES1.out, HR1.out, OwnE.nil _ _, HB1.out, HBH.out.2.2⟩
  case round =>
    clear HR1 HB1 HRES1
    obtain ⟨l, acc, f, hgl, hlf, hl1, hac, hres, hrd, hown, hbw, hbz⟩ := hrel
    obtain ⟨spo, capo, e5, hco, -, hso, hzo, -⟩ := hown.form
    subst e5
    have HGL := Lib.hid hgl; have HLF := Lib.hid hlf; have HL1 := Lib.hid hl1; have HAC := Lib.hid hac; have HRE := Lib.hid hres; have HRD := Lib.hid hrd; have HOWN := Lib.hid hown; have HBW := Lib.hid hbw; have HCO := Lib.hid hco; have HBZ := Lib.hid hbz
    clear hbz hgl hlf hl1 hac hres hrd hown hbw hco hso hzo
    go_wp2_with fail
    refine (left_any H l 0 wr HRD.out).mono ?_
    rintro x W2 ⟨rfl, rfl⟩
    rw [show leftOf l 0 = l.length from rfl]
    by_cases h0 : l = []
    · have z1 : ¬ (0 : Int) < (l.length : Int) := by rw [h0]; simp
      have hfin : RES = some acc := by
        rw [← HRE.out]
        cases f with
        | zero => have := HLF.out; omega
        | succ f => unfold tkL; rw [if_pos h0]
      have HF := Lib.hid hfin
      clear h0 hfin
      go_wp2_with fail
      refine (err_any H l 0 wr HRD.out).mono ?_
      rintro x W3 ⟨rfl, rfl⟩
      have HQ := Lib.hid (HP.out _ acc wr HF.out (HOWN.out.lower HBH.out.2.1) HBW.out)
      go_wp2_with fail
      first | exact HQ.out | (go_ret2; exact HQ.out)
    · have z1 : (0 : Int) < (l.length : Int) := by
        have := List.length_pos_iff.2 h0
        omega
      have H0 := Lib.hid h0
      clear h0
      go_wp2_with fail
      refine (enTakeE_any H l 0 wr HL1.out HRD.out (fun g hg => HKK.out g (by have := HRD.out.lt; omega))).mono ?_
      rintro x W3 ⟨rfl, hrd3, hbf3⟩
      obtain ⟨e, he⟩ : ∃ e, (tkE l 0).1 = e := ⟨_, rfl⟩
      obtain ⟨l2, hl2⟩ : ∃ l2, (tkE l 0).2.1 = l2 := ⟨_, rfl⟩
      obtain ⟨er, her⟩ : ∃ er, (tkE l 0).2.2 = er := ⟨_, rfl⟩
      have hle := tkE_le l 0
      have hsh : er = 0 → l2.length < l.length ∧ e.OK ∧ e.n.length < 256 := fun h => by
        have h' : (tkE l 0).2.2 = 0 := her.trans h
        have h1 := tkE_short h'
        have h2 := tkE_ok' h'
        rw [hl2] at h1
        rw [he] at h2
        exact ⟨h1, h2.1, h2.2⟩
      have hstep : ∀ f', f = f' + 1 → (if er ≠ 0 then none else if follB acc e = true then tkL f' l2 (acc ++ [e]) else none) = RES := fun f' hf' => by
        have := HRE.out
        rw [hf'] at this
        unfold tkL at this
        rw [if_neg H0.out, he, hl2, her] at this
        exact this
      rw [he, hl2] at hle
      rw [hl2, her] at hrd3
      rw [he]
      have hb3 : Below w.heap.size wr W3 := hbf3.below HH.out HBW.out.size
      have HB3 : Hid (Below w.heap.size w W3) := Lib.hid (HBW.out.trans hb3)
      have ho3 : OwnE W3 B1 (.slice spo acc.length capo) acc := by
        refine ⟨HOWN.out.1, ?_⟩
        rcases HOWN.out.2 with hx | ⟨g, cap', cur, e1, hbg, hgg, rest⟩
        · exact .inl hx
        · refine .inr ⟨g, cap', cur, e1, hbg, ?_, rest⟩
          have hb : Blk wr g cur.toList 46 := by unfold Blk; simpa using hgg
          have hb' := hbf3.blk hb (fun e => by
            obtain ⟨_, _, hx, _⟩ := HRD.out
            rw [e] at hb
            exact absurd (hb.same hx) (by decide))
          unfold Blk at hb'
          simpa using hb'
      have HRD3 := Lib.hid hrd3; have HO3 := Lib.hid ho3; have HLE := Lib.hid hle; have HSH := Lib.hid hsh; have HST := Lib.hid hstep
      have HS3 : Hid (wr.heap.size ≤ W3.heap.size) := Lib.hid hb3.size
      have hbx := box_in W3 #[.string ⟨#[]⟩, .int .u16 0, .int .u8 0] e rfl
      clear hrd3 hbf3 he hl2 her hle hsh hstep hb3 ho3
      go_upto_region 5 with (first | (refine wpList_store_row rfl 46 (.tmp 6) (.tmp 13) rfl W3.heap.size (ecells e).toArray rfl rfl 46 _ (heap_alloc_new W3 _) (sizeEc e) rfl (all_ec e) ?_) | fail)
      obtain ⟨W4, hW4⟩ : ∃ W, (W3.alloc (.cells #[.string ⟨#[]⟩, .int .u16 0, .int .u8 0] 46)).setRow W3.heap.size (ecells e).toArray = W := ⟨_, rfl⟩
      obtain ⟨g6, hg6⟩ : ∃ g, W3.heap.size = g := ⟨_, rfl⟩
      rw [hg6] at hW4 hbx ⊢
      rw [hW4] at hbx ⊢
      obtain ⟨hb4, hk4⟩ := hbx
      rw [← hg6] at hb4
      have HRD4 := Lib.hid (HRD3.out.below hb4 (Nat.le_refl _)); have HO4 := Lib.hid (HO3.out.below hb4 (Nat.le_refl _)); have HK4 := Lib.hid hk4
      have HB4 : Hid (Below w.heap.size w W4) := Lib.hid (HB3.out.trans (hb4.mono HB3.out.size))
      have HS34 : Hid (wr.heap.size ≤ W4.heap.size) := Lib.hid (Nat.le_trans HS3.out hb4.size)
      clear hb4 hk4 hW4 hg6
      go_wp2_with fail
      refine (err_any H l2 er W4 HRD4.out).mono ?_
      rintro x W5 ⟨rfl, rfl⟩
      by_cases her : er = 0
      · subst her
        obtain ⟨f', hf'⟩ : ∃ f', f = f' + 1 := ⟨f - 1, by have := HLF.out; omega⟩
        have hst := HST.out f' hf'
        rw [if_neg (by simp)] at hst
        obtain ⟨hsh1, hok1, hn1⟩ := HSH.out rfl
        have HST2 := Lib.hid hst; have HF' := Lib.hid hf'; have HSH1 := Lib.hid hsh1; have HNL := Lib.hid hn1
        have q0 := HK4.out.cell (j := 0) rfl
        have q1 := HK4.out.cell (j := 1) rfl
        have q2 := HK4.out.cell (j := 2) rfl
        clear hst hf' hsh1 hok1 hn1
        go_wp2_with fail
        obtain ⟨spo', capo', e5, hco, -, hso, hzo, -⟩ := HO4.out.form
        injection e5 with e6 e7 e8
        subst e6 e8
        refine (enFollows_any acc e spo capo hco (by have := HAC.out; omega) (by have := HNL.out; omega) W4 hso).mono ?_
        rintro x W6 ⟨rfl, hb6⟩
        have HB6 : Hid (Below w.heap.size w W6) := Lib.hid (HB4.out.trans (hb6.mono HB4.out.size))
        have HBS : Hid (wr.heap.size ≤ W6.heap.size) := Lib.hid (Nat.le_trans HS34.out hb6.size)
        have HRD6 := Lib.hid (HRD4.out.below hb6 (Nat.le_refl _)); have HO6 := Lib.hid (HO4.out.below hb6 (Nat.le_refl _))
        have hk6 := HK4.out.below hb6 HK4.out.lt
        cases hfo : follB acc e with
        | false =>
          have hnone : RES = none := by rw [← HST2.out, hfo]; simp
          have HNO := Lib.hid hnone
          clear hfo hnone hb6 hco hso hzo hk6 q0 q1 q2
          go_wp2_with fail
          refine (bad_any H l2 0 W6 HRD6.out).mono ?_
          rintro x W7 ⟨rfl, hrd7, hbf7⟩
          have HB7 : Hid (Below w.heap.size w W7) := Lib.hid (HB6.out.trans (hbf7.below HH.out HB6.out.size))
          have HRD7 := Lib.hid hrd7
          clear hrd7 hbf7
          go_wp2_with fail
          refine (err_any H l2 (badOf 0) W7 HRD7.out).mono ?_
          rintro x W8 ⟨rfl, rfl⟩
          rw [show badOf 0 = 5 from rfl]
          have HQ := Lib.hid (HPE.out W7 HNO.out HB7.out)
          go_wp2_with fail
          first | exact HQ.out | (go_ret2; exact HQ.out)
        | true =>
          have hfl := (follB_len hfo).2
          have hnext : tkL f' l2 (acc ++ [e]) = RES := by rw [← HST2.out, hfo]; simp
          have p0 := hk6.cell (j := 0) rfl
          have p1 := hk6.cell (j := 1) rfl
          have p2 := hk6.cell (j := 2) rfl
          have hb7 : Below W6.heap.size W6 (W6.alloc (.cells (ecells e).toArray 46)) := (Below.refl _ _).alloc (Nat.le_refl _) _
          have hk7 : Blk (W6.alloc (.cells (ecells e).toArray 46)) W6.heap.size (ecells e) 46 := Blk.new' _ _ _ _ _ rfl rfl
          have hbw7 : Below w.heap.size w (W6.alloc (.cells (ecells e).toArray 46)) := HB6.out.alloc HB6.out.size _
          obtain ⟨v8, w8, hr8, ho8, hg8, hn8⟩ := ownE_app (HO6.out.below hb7 (Nat.le_refl _)) (Nat.le_trans HBZ.out (Nat.le_trans HBS.out hb7.size)) (by have := HAC.out; omega) hk7 29
          have hb8 := ownE_bel ((HO6.out.below hb7 (Nat.le_refl _)).lower HBH.out.2.1) hbw7 hg8
          have hrd7 := HRD6.out.below hb7 (Nat.le_refl _)
          have hrd8 : RdAt w8 H K l2 0 := by
            obtain ⟨sp', cap', hx, h2, h3, h4, h5, h6⟩ := hrd7
            have hc8 : Chg (fun g => (Value.slice spo acc.length capo).ownBlock = some g) (W6.alloc (.cells (ecells e).toArray 46)) w8 := (Chg.refl _ _).grown hg8 (fun k e => .inl e)
            have ho7 := HO6.out.below hb7 (Nat.le_refl _)
            have hty : ∀ (g : Nat) (cs : List Value) (t : TypeId), Blk (W6.alloc (.cells (ecells e).toArray 46)) g cs t → t ≠ 46 → ¬ (Value.slice spo acc.length capo).ownBlock = some g := fun g cs t hb ht hh => by
              rcases ho7.2 with ⟨e1, _⟩ | ⟨a, cap'', cur, e1, _, ha, _⟩
              · rw [e1] at hh; cases hh
              · rw [e1] at hh
                have e2 : a = g := by injection hh
                subst e2
                have hb2 : Blk (W6.alloc (.cells (ecells e).toArray 46)) a cur.toList 46 := by unfold Blk; simpa using ha
                exact ht (hb.same hb2)
            refine ⟨sp', cap', hx.chg hc8 (hty _ _ _ hx (by decide)), h2, h3, h4, ?_, h6⟩
            exact srcX_chg h5 hc8 (fun g hg hh => HKK.out g (by have := (ho7.lt g hh).1; have := HBH.out.1; omega) hg)
          obtain ⟨sp8, cap8, rfl, -⟩ := ho8.form
          have ho8' : OwnE w8 B1 (.slice sp8 (acc.length + 1) cap8) (acc ++ [e]) := by
            have h := ho8
            rw [show Value.slice sp8 (acc ++ [e]).length cap8 = Value.slice sp8 (acc.length + 1) cap8 by simp] at h
            exact h
          have HBS8 : Hid (B1 ≤ w8.heap.size) := Lib.hid (Nat.le_trans HBZ.out (Nat.le_trans HBS.out (Nat.le_trans hb7.size hg8.size)))
          have HR8 := Lib.hid hr8; have HO8 := Lib.hid ho8'; have HB8 := Lib.hid hb8; have HRD8 := Lib.hid hrd8; have HNX := Lib.hid hnext
          have HFL := Lib.hid hfl
          clear hfo hfl hnext hb7 hk7 hbw7 hr8 ho8 ho8' hg8 hn8 hb8 hrd7 hrd8 hb6 hco hso hzo hk6 q0 q1 q2
          go_wp2_with (first | (refine e_val rfl (ex_oneE rfl rfl) ?_) | (at_builtin; refine e_val rfl (ex_appE rfl rfl rfl HR8.out) ?_) | fail)
          go_roundg l2.length
          case measure => have := HSH1.out; have := HGL.out; omega
          case rel => exact ⟨l2, acc ++ [e], f', rfl, by have := HLF.out; have := HF'.out; have := HSH1.out; omega, by have := HLE.out.2; have := HL1.out; omega, by rw [List.length_append]; simp; have := HFL.out; omega, HNX.out, HRD8.out, HO8.out, HB8.out, HBS8.out⟩
      · have z2 : ((er : Int) != 0) = true := by simp; omega
        have hnone : RES = none := by
          obtain ⟨f', hf'⟩ : ∃ f', f = f' + 1 := ⟨f - 1, by have := HLF.out; omega⟩
          rw [← HST.out f' hf', if_pos her]
        have HNO := Lib.hid hnone
        clear her hnone
        go_wp2_with fail
        refine (err_any H l2 er W4 HRD4.out).mono ?_
        rintro x W7 ⟨rfl, rfl⟩
        have HQ := Lib.hid (HPE.out W4 HNO.out HB4.out)
        go_wp2_with fail
        first | exact HQ.out | (go_ret2; exact HQ.out)
end Go.Proofs.Ytlkhnmhhcagghaa
