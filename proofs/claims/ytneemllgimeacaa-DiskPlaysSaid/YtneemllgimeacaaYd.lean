/- What an act on the program's disk does: Read, Flush, Crash, Lose, Astray, Die, Fuse, Back, Step. -/
import Derived.Test.YtneemllgimeacaaDz
namespace Go.Proofs.Ytneemllgimeacaa
open Go.RowKit

set_option maxRecDepth 100000 in
set_option maxHeartbeats 4000000 in
theorem does_1 (D Q : Nat) (S : Nat → Prop) (s : Dsk) (p : Pw) (a : Ac) (w : World) (h : Acts w D Q S s p a) (hk : a.act = 1) : Calls Try.prog 12 #[.pointer (some ⟨D, 0, none⟩), .pointer (some ⟨Q, 0, none⟩), aval a] w (Made D Q S (done s p a) w) := by
  obtain ⟨act, d, addr, b, spb, capb, short, n, z, spz, capz⟩ := a
  simp only at hk
  subst hk
  have hz : Below w.heap.size w (w.alloc (.cells #[.int .u8 (1 : Int), .int .u8 (d : Int), .int .u16 (addr : Int), .slice spb b.length capb, .bool short, .int .i64 n, .slice spz z.length capz] 45)) := (Below.refl _ _).alloc (Nat.le_refl _) _
  have HZ := Lib.hid hz
  have H := Lib.hid (h.grown hz)
  have hadr := h.ok.addr
  have hq : Q < w.heap.size := h.pw.blk.lt
  clear h hz
  change Calls Try.prog 12 #[.pointer (some ⟨D, 0, none⟩), .pointer (some ⟨Q, 0, none⟩), .agg #[.int .u8 (1 : Int), .int .u8 (d : Int), .int .u16 (addr : Int), .slice spb b.length capb, .bool short, .int .i64 n, .slice spz z.length capz]] w _
  go_enter Try.func12, Try.ntmps12
  go_wp2_with fail
  refine (read_any D Q S s p addr hadr _ H.out.dk H.out.pw H.out.cn).mono ?_
  rintro e w1 ⟨v, rfl, ht, hb⟩
  have HB := Lib.hid hb
  have HT := Lib.hid ht
  clear hb ht
  obtain ⟨lk, hlk⟩ : ∃ lk, readB s p addr = lk := ⟨_, rfl⟩
  have HLK := Lib.hid hlk
  rw [hlk] at HT
  clear hlk
  have hcv : (convert 42 9 v).run Try.prog w1 = .ok (.string (bstr (lk.getD []))) w1 := by
    cases lk with
    | none =>
      have e : v = .slice none 0 0 := HT.out
      subst e
      exact conv_str (l := []) (cap := 0) (SrcA.nil _ _)
    | some b =>
      obtain ⟨g, rfl, hbl, hblk, _⟩ := HT.out
      have hx := conv_str (l := b) (cap := 512) hblk.srcB
      rw [hbl] at hx
      exact hx
  go_wp2_with fail
  go_ret2
  exact Made.since ⟨by show _ = Ending.returned (.tuple #[.string (bstr ((readB s p addr).getD [])), .int .i64 (readE s p addr)]); rw [HLK.out]; rfl, (H.out.dk.chg (Chg.of_below (F := fun _ => False) HB.out) (fun _ _ h => h)).ext H.out.pw.blk.lt, H.out.pw.chg (Chg.of_below (F := fun _ => False) HB.out) (fun h => h), Chg.of_below HB.out⟩ HZ.out hq
set_option maxRecDepth 100000 in
set_option maxHeartbeats 4000000 in
theorem does_2 (D Q : Nat) (S : Nat → Prop) (s : Dsk) (p : Pw) (a : Ac) (w : World) (h : Acts w D Q S s p a) (hk : a.act = 2) : Calls Try.prog 12 #[.pointer (some ⟨D, 0, none⟩), .pointer (some ⟨Q, 0, none⟩), aval a] w (Made D Q S (done s p a) w) := by
  obtain ⟨act, d, addr, b, spb, capb, short, n, z, spz, capz⟩ := a
  simp only at hk
  subst hk
  have hz : Below w.heap.size w (w.alloc (.cells #[.int .u8 (2 : Int), .int .u8 (d : Int), .int .u16 (addr : Int), .slice spb b.length capb, .bool short, .int .i64 n, .slice spz z.length capz] 45)) := (Below.refl _ _).alloc (Nat.le_refl _) _
  have HZ := Lib.hid hz
  have H := Lib.hid (h.grown hz)
  have hadr := h.ok.addr
  have hq : Q < w.heap.size := h.pw.blk.lt
  clear h hz
  change Calls Try.prog 12 #[.pointer (some ⟨D, 0, none⟩), .pointer (some ⟨Q, 0, none⟩), .agg #[.int .u8 (2 : Int), .int .u8 (d : Int), .int .u16 (addr : Int), .slice spb b.length capb, .bool short, .int .i64 n, .slice spz z.length capz]] w _
  go_enter Try.func12, Try.ntmps12
  go_wp2_with fail
  refine (flush_any D Q S s p _ H.out.dk H.out.pw H.out.cn).mono ?_
  rintro e w1 ⟨rfl, h1, h2, h3⟩
  have H1 := Lib.hid h1
  have H2 := Lib.hid h2
  have H3 := Lib.hid h3
  clear h1 h2 h3
  go_wp2_with fail
  go_ret2
  exact Made.since ⟨rfl, H1.out.ext H.out.pw.blk.lt, H2.out, H3.out⟩ HZ.out hq
set_option maxRecDepth 100000 in
set_option maxHeartbeats 4000000 in
theorem does_3 (D Q : Nat) (S : Nat → Prop) (s : Dsk) (p : Pw) (a : Ac) (w : World) (h : Acts w D Q S s p a) (hk : a.act = 3) : Calls Try.prog 12 #[.pointer (some ⟨D, 0, none⟩), .pointer (some ⟨Q, 0, none⟩), aval a] w (Made D Q S (done s p a) w) := by
  obtain ⟨act, d, addr, b, spb, capb, short, n, z, spz, capz⟩ := a
  simp only at hk
  subst hk
  have hz : Below w.heap.size w (w.alloc (.cells #[.int .u8 (3 : Int), .int .u8 (d : Int), .int .u16 (addr : Int), .slice spb b.length capb, .bool short, .int .i64 n, .slice spz z.length capz] 45)) := (Below.refl _ _).alloc (Nat.le_refl _) _
  have HZ := Lib.hid hz
  have H := Lib.hid (h.grown hz)
  have hadr := h.ok.addr
  have hq : Q < w.heap.size := h.pw.blk.lt
  clear h hz
  change Calls Try.prog 12 #[.pointer (some ⟨D, 0, none⟩), .pointer (some ⟨Q, 0, none⟩), .agg #[.int .u8 (3 : Int), .int .u8 (d : Int), .int .u16 (addr : Int), .slice spb b.length capb, .bool short, .int .i64 n, .slice spz z.length capz]] w _
  go_enter Try.func12, Try.ntmps12
  go_wp2_with fail
  refine (crash_any2 D Q S s z spz z.length capz _ H.out.dk H.out.cn H.out.ok.z rfl H.out.ok.cz H.out.ok.mz H.out.sp).mono ?_
  rintro e w1 ⟨rfl, h1, h3⟩
  have H1 := Lib.hid h1
  have H3 := Lib.hid h3
  clear h1 h3
  go_wp2_with fail
  go_ret2
  exact Made.since ⟨rfl, H1.out.ext H.out.pw.blk.lt, H.out.pw.chg H3.out H.out.dk.nq, H3.out.withQ⟩ HZ.out hq

set_option maxRecDepth 100000 in
set_option maxHeartbeats 4000000 in
theorem does_7 (D Q : Nat) (S : Nat → Prop) (s : Dsk) (p : Pw) (a : Ac) (w : World) (h : Acts w D Q S s p a) (hk : a.act = 7) : Calls Try.prog 12 #[.pointer (some ⟨D, 0, none⟩), .pointer (some ⟨Q, 0, none⟩), aval a] w (Made D Q S (done s p a) w) := by
  obtain ⟨act, d, addr, b, spb, capb, short, n, z, spz, capz⟩ := a
  simp only at hk
  subst hk
  have hz : Below w.heap.size w (w.alloc (.cells #[.int .u8 (7 : Int), .int .u8 (d : Int), .int .u16 (addr : Int), .slice spb b.length capb, .bool short, .int .i64 n, .slice spz z.length capz] 45)) := (Below.refl _ _).alloc (Nat.le_refl _) _
  have HZ := Lib.hid hz
  have H := Lib.hid (h.grown hz)
  have hadr := h.ok.addr
  have hq : Q < w.heap.size := h.pw.blk.lt
  clear h hz
  change Calls Try.prog 12 #[.pointer (some ⟨D, 0, none⟩), .pointer (some ⟨Q, 0, none⟩), .agg #[.int .u8 (7 : Int), .int .u8 (d : Int), .int .u16 (addr : Int), .slice spb b.length capb, .bool short, .int .i64 n, .slice spz z.length capz]] w _
  go_enter Try.func12, Try.ntmps12
  go_wp2_with fail
  refine (lose_any D Q S s _ H.out.dk).mono ?_
  rintro e w1 ⟨rfl, h1, h3⟩
  have H1 := Lib.hid h1
  have H3 := Lib.hid h3
  clear h1 h3
  go_wp2_with fail
  go_ret2
  exact Made.since ⟨rfl, H1.out.ext H.out.pw.blk.lt, H.out.pw.chg H3.out H.out.dk.nq, H3.out.withQ⟩ HZ.out hq
set_option maxRecDepth 100000 in
set_option maxHeartbeats 4000000 in
theorem does_9 (D Q : Nat) (S : Nat → Prop) (s : Dsk) (p : Pw) (a : Ac) (w : World) (h : Acts w D Q S s p a) (hk : a.act = 9) : Calls Try.prog 12 #[.pointer (some ⟨D, 0, none⟩), .pointer (some ⟨Q, 0, none⟩), aval a] w (Made D Q S (done s p a) w) := by
  obtain ⟨act, d, addr, b, spb, capb, short, n, z, spz, capz⟩ := a
  simp only at hk
  subst hk
  have hz : Below w.heap.size w (w.alloc (.cells #[.int .u8 (9 : Int), .int .u8 (d : Int), .int .u16 (addr : Int), .slice spb b.length capb, .bool short, .int .i64 n, .slice spz z.length capz] 45)) := (Below.refl _ _).alloc (Nat.le_refl _) _
  have HZ := Lib.hid hz
  have H := Lib.hid (h.grown hz)
  have hadr := h.ok.addr
  have hq : Q < w.heap.size := h.pw.blk.lt
  clear h hz
  change Calls Try.prog 12 #[.pointer (some ⟨D, 0, none⟩), .pointer (some ⟨Q, 0, none⟩), .agg #[.int .u8 (9 : Int), .int .u8 (d : Int), .int .u16 (addr : Int), .slice spb b.length capb, .bool short, .int .i64 n, .slice spz z.length capz]] w _
  go_enter Try.func12, Try.ntmps12
  go_wp2_with fail
  refine (die_any D Q S s _ H.out.dk).mono ?_
  rintro e w1 ⟨rfl, h1, h3⟩
  have H1 := Lib.hid h1
  have H3 := Lib.hid h3
  clear h1 h3
  go_wp2_with fail
  go_ret2
  exact Made.since ⟨rfl, H1.out.ext H.out.pw.blk.lt, H.out.pw.chg H3.out H.out.dk.nq, H3.out.withQ⟩ HZ.out hq
set_option maxRecDepth 100000 in
set_option maxHeartbeats 4000000 in
theorem does_8 (D Q : Nat) (S : Nat → Prop) (s : Dsk) (p : Pw) (a : Ac) (w : World) (h : Acts w D Q S s p a) (hk : a.act = 8) : Calls Try.prog 12 #[.pointer (some ⟨D, 0, none⟩), .pointer (some ⟨Q, 0, none⟩), aval a] w (Made D Q S (done s p a) w) := by
  obtain ⟨act, d, addr, b, spb, capb, short, n, z, spz, capz⟩ := a
  simp only at hk
  subst hk
  have hz : Below w.heap.size w (w.alloc (.cells #[.int .u8 (8 : Int), .int .u8 (d : Int), .int .u16 (addr : Int), .slice spb b.length capb, .bool short, .int .i64 n, .slice spz z.length capz] 45)) := (Below.refl _ _).alloc (Nat.le_refl _) _
  have HZ := Lib.hid hz
  have H := Lib.hid (h.grown hz)
  have hadr := h.ok.addr
  have hq : Q < w.heap.size := h.pw.blk.lt
  clear h hz
  change Calls Try.prog 12 #[.pointer (some ⟨D, 0, none⟩), .pointer (some ⟨Q, 0, none⟩), .agg #[.int .u8 (8 : Int), .int .u8 (d : Int), .int .u16 (addr : Int), .slice spb b.length capb, .bool short, .int .i64 n, .slice spz z.length capz]] w _
  go_enter Try.func12, Try.ntmps12
  go_wp2_with fail
  refine (astray_any D Q S s addr hadr _ H.out.dk).mono ?_
  rintro e w1 ⟨rfl, h1, h3⟩
  have H1 := Lib.hid h1
  have H3 := Lib.hid h3
  clear h1 h3
  go_wp2_with fail
  go_ret2
  exact Made.since ⟨rfl, H1.out.ext H.out.pw.blk.lt, H.out.pw.chg H3.out H.out.dk.nq, H3.out.withQ⟩ HZ.out hq
set_option maxRecDepth 100000 in
set_option maxHeartbeats 4000000 in
theorem does_10 (D Q : Nat) (S : Nat → Prop) (s : Dsk) (p : Pw) (a : Ac) (w : World) (h : Acts w D Q S s p a) (hk : a.act = 10) : Calls Try.prog 12 #[.pointer (some ⟨D, 0, none⟩), .pointer (some ⟨Q, 0, none⟩), aval a] w (Made D Q S (done s p a) w) := by
  obtain ⟨act, d, addr, b, spb, capb, short, n, z, spz, capz⟩ := a
  simp only at hk
  subst hk
  have hz : Below w.heap.size w (w.alloc (.cells #[.int .u8 (10 : Int), .int .u8 (d : Int), .int .u16 (addr : Int), .slice spb b.length capb, .bool short, .int .i64 n, .slice spz z.length capz] 45)) := (Below.refl _ _).alloc (Nat.le_refl _) _
  have HZ := Lib.hid hz
  have H := Lib.hid (h.grown hz)
  have hadr := h.ok.addr
  have hq : Q < w.heap.size := h.pw.blk.lt
  clear h hz
  change Calls Try.prog 12 #[.pointer (some ⟨D, 0, none⟩), .pointer (some ⟨Q, 0, none⟩), .agg #[.int .u8 (10 : Int), .int .u8 (d : Int), .int .u16 (addr : Int), .slice spb b.length capb, .bool short, .int .i64 n, .slice spz z.length capz]] w _
  go_enter Try.func12, Try.ntmps12
  go_wp2_with fail
  refine (fuse_any Q p n _ H.out.pw H.out.ok.n2).mono ?_
  rintro e w1 ⟨rfl, h1, h3⟩
  have H1 := Lib.hid h1
  have H3 := Lib.hid h3
  clear h1 h3
  go_wp2_with fail
  go_ret2
  exact Made.since ⟨rfl, (H.out.dk.power H3.out).ext H.out.pw.blk.lt, H1.out, H3.out.justQ⟩ HZ.out hq
set_option maxRecDepth 100000 in
set_option maxHeartbeats 4000000 in
theorem does_11 (D Q : Nat) (S : Nat → Prop) (s : Dsk) (p : Pw) (a : Ac) (w : World) (h : Acts w D Q S s p a) (hk : a.act = 11) : Calls Try.prog 12 #[.pointer (some ⟨D, 0, none⟩), .pointer (some ⟨Q, 0, none⟩), aval a] w (Made D Q S (done s p a) w) := by
  obtain ⟨act, d, addr, b, spb, capb, short, n, z, spz, capz⟩ := a
  simp only at hk
  subst hk
  have hz : Below w.heap.size w (w.alloc (.cells #[.int .u8 (11 : Int), .int .u8 (d : Int), .int .u16 (addr : Int), .slice spb b.length capb, .bool short, .int .i64 n, .slice spz z.length capz] 45)) := (Below.refl _ _).alloc (Nat.le_refl _) _
  have HZ := Lib.hid hz
  have H := Lib.hid (h.grown hz)
  have hadr := h.ok.addr
  have hq : Q < w.heap.size := h.pw.blk.lt
  clear h hz
  change Calls Try.prog 12 #[.pointer (some ⟨D, 0, none⟩), .pointer (some ⟨Q, 0, none⟩), .agg #[.int .u8 (11 : Int), .int .u8 (d : Int), .int .u16 (addr : Int), .slice spb b.length capb, .bool short, .int .i64 n, .slice spz z.length capz]] w _
  go_enter Try.func12, Try.ntmps12
  go_wp2_with fail
  refine (back_any Q p _ H.out.pw).mono ?_
  rintro e w1 ⟨rfl, h1, h3⟩
  have H1 := Lib.hid h1
  have H3 := Lib.hid h3
  clear h1 h3
  go_wp2_with fail
  go_ret2
  exact Made.since ⟨rfl, (H.out.dk.power H3.out).ext H.out.pw.blk.lt, H1.out, H3.out.justQ⟩ HZ.out hq
set_option maxRecDepth 100000 in
set_option maxHeartbeats 4000000 in
theorem does_d (D Q : Nat) (S : Nat → Prop) (s : Dsk) (p : Pw) (a : Ac) (w : World) (h : Acts w D Q S s p a) (hk : 12 ≤ a.act) : Calls Try.prog 12 #[.pointer (some ⟨D, 0, none⟩), .pointer (some ⟨Q, 0, none⟩), aval a] w (Made D Q S (done s p a) w) := by
  obtain ⟨act, d, addr, b, spb, capb, short, n, z, spz, capz⟩ := a
  simp only at hk
  have hz : Below w.heap.size w (w.alloc (.cells #[.int .u8 (act : Int), .int .u8 (d : Int), .int .u16 (addr : Int), .slice spb b.length capb, .bool short, .int .i64 n, .slice spz z.length capz] 45)) := (Below.refl _ _).alloc (Nat.le_refl _) _
  have HZ := Lib.hid hz
  have H := Lib.hid (h.grown hz)
  have hadr := h.ok.addr
  have hq : Q < w.heap.size := h.pw.blk.lt
  clear h hz
  change Calls Try.prog 12 #[.pointer (some ⟨D, 0, none⟩), .pointer (some ⟨Q, 0, none⟩), .agg #[.int .u8 (act : Int), .int .u8 (d : Int), .int .u16 (addr : Int), .slice spb b.length capb, .bool short, .int .i64 n, .slice spz z.length capz]] w _
  have k0 : ((act : Int) == 0) = false := by simp; omega
  have k1 : ((act : Int) == 1) = false := by simp; omega
  have k2 : ((act : Int) == 2) = false := by simp; omega
  have k3 : ((act : Int) == 3) = false := by simp; omega
  have k4 : ((act : Int) == 4) = false := by simp; omega
  have k5 : ((act : Int) == 5) = false := by simp; omega
  have k6 : ((act : Int) == 6) = false := by simp; omega
  have k7 : ((act : Int) == 7) = false := by simp; omega
  have k8 : ((act : Int) == 8) = false := by simp; omega
  have k9 : ((act : Int) == 9) = false := by simp; omega
  have k10 : ((act : Int) == 10) = false := by simp; omega
  have k11 : ((act : Int) == 11) = false := by simp; omega
  have hsd : done s p ⟨act, d, addr, b, spb, capb, short, n, z, spz, capz⟩ = ([], if p.step.1 then 0 else 3, s, p.step.2) := by
    unfold done
    split <;> first | rfl | (rename_i hh; simp only at hh; omega)
  have HSD := Lib.hid hsd
  clear hsd hk
  go_enter Try.func12, Try.ntmps12
  go_wp2_with fail
  refine (step_any Q p _ H.out.pw).mono ?_
  rintro e w1 ⟨rfl, hp1, hc1⟩
  have HP := Lib.hid hp1
  have HC := Lib.hid hc1
  clear hp1 hc1
  by_cases hst : p.step.1 = true
  · rw [hst]
    go_wp2_with fail
    go_ret2
    rw [HSD.out, hst]
    exact Made.since ⟨rfl, (H.out.dk.power HC.out).ext H.out.pw.blk.lt, HP.out, HC.out.justQ⟩ HZ.out hq
  · have hst' : p.step.1 = false := by simpa using hst
    rw [hst']
    clear hst
    go_wp2_with fail
    go_ret2
    rw [HSD.out, hst']
    exact Made.since ⟨rfl, (H.out.dk.power HC.out).ext H.out.pw.blk.lt, HP.out, HC.out.justQ⟩ HZ.out hq
end Go.Proofs.Ytneemllgimeacaa
