/- What the document says of an act: Read, Flush, Crash, Lose, Astray, Die. -/
import Derived.Test.YtneemllgimeacaaSz
namespace Go.Proofs.Ytneemllgimeacaa
open Go.RowKit

set_option maxRecDepth 100000 in
set_option maxHeartbeats 4000000 in
theorem says_1 (R q : Nat) (T : Nat → Prop) (t : Rsk) (p : Pw) (a : Ac) (w : World) (h : Asks w R q T t p a) (hk : a.act = 1) : Calls Try.prog 13 #[.pointer (some ⟨R, 0, none⟩), aval a] w (Spoke R q T (said t p a) w) := by
  obtain ⟨act, d, addr, b, spb, capb, short, n, z, spz, capz⟩ := a
  simp only at hk
  subst hk
  have hz : Below w.heap.size w (w.alloc (.cells #[.int .u8 (1 : Int), .int .u8 (d : Int), .int .u16 (addr : Int), .slice spb b.length capb, .bool short, .int .i64 n, .slice spz z.length capz] 45)) := (Below.refl _ _).alloc (Nat.le_refl _) _
  have HZ := Lib.hid hz
  have H := Lib.hid (h.grown hz)
  have hadr := h.ok.addr
  have hq : q < w.heap.size := h.rp.blk.lt
  clear h hz
  change Calls Try.prog 13 #[.pointer (some ⟨R, 0, none⟩), .agg #[.int .u8 (1 : Int), .int .u8 (d : Int), .int .u16 (addr : Int), .slice spb b.length capb, .bool short, .int .i64 n, .slice spz z.length capz]] w _
  go_enter Try.func13, Try.ntmps13
  go_wp2_with fail
  refine (rread_any R q T t p addr hadr _ H.out.rk H.out.rp H.out.room.small).mono ?_
  rintro e w1 ⟨rfl, hb⟩
  have HB := Lib.hid hb
  clear hb
  go_wp2_with fail
  go_ret2
  exact Spoke.since ⟨rfl, (H.out.rk.chg (Chg.of_below (F := fun _ => False) HB.out) (fun _ _ h => h)).ext H.out.rp.blk.lt, H.out.rp.chg (Chg.of_below (F := fun _ => False) HB.out) (fun h => h), Chg.of_below HB.out⟩ HZ.out hq
set_option maxRecDepth 100000 in
set_option maxHeartbeats 4000000 in
theorem says_2 (R q : Nat) (T : Nat → Prop) (t : Rsk) (p : Pw) (a : Ac) (w : World) (h : Asks w R q T t p a) (hk : a.act = 2) : Calls Try.prog 13 #[.pointer (some ⟨R, 0, none⟩), aval a] w (Spoke R q T (said t p a) w) := by
  obtain ⟨act, d, addr, b, spb, capb, short, n, z, spz, capz⟩ := a
  simp only at hk
  subst hk
  have hz : Below w.heap.size w (w.alloc (.cells #[.int .u8 (2 : Int), .int .u8 (d : Int), .int .u16 (addr : Int), .slice spb b.length capb, .bool short, .int .i64 n, .slice spz z.length capz] 45)) := (Below.refl _ _).alloc (Nat.le_refl _) _
  have HZ := Lib.hid hz
  have H := Lib.hid (h.grown hz)
  have hadr := h.ok.addr
  have hq : q < w.heap.size := h.rp.blk.lt
  clear h hz
  change Calls Try.prog 13 #[.pointer (some ⟨R, 0, none⟩), .agg #[.int .u8 (2 : Int), .int .u8 (d : Int), .int .u16 (addr : Int), .slice spb b.length capb, .bool short, .int .i64 n, .slice spz z.length capz]] w _
  go_enter Try.func13, Try.ntmps13
  go_wp2_with fail
  refine (rflush_any R q T t p _ H.out.rk H.out.rp H.out.room).mono ?_
  rintro e w1 ⟨rfl, hb⟩
  have HB := Lib.hid hb
  clear hb
  go_wp2_with fail
  go_ret2
  exact Spoke.since ⟨rfl, HB.out⟩ HZ.out hq
set_option maxRecDepth 100000 in
set_option maxHeartbeats 4000000 in
theorem says_3 (R q : Nat) (T : Nat → Prop) (t : Rsk) (p : Pw) (a : Ac) (w : World) (h : Asks w R q T t p a) (hk : a.act = 3) : Calls Try.prog 13 #[.pointer (some ⟨R, 0, none⟩), aval a] w (Spoke R q T (said t p a) w) := by
  obtain ⟨act, d, addr, b, spb, capb, short, n, z, spz, capz⟩ := a
  simp only at hk
  subst hk
  have hz : Below w.heap.size w (w.alloc (.cells #[.int .u8 (3 : Int), .int .u8 (d : Int), .int .u16 (addr : Int), .slice spb b.length capb, .bool short, .int .i64 n, .slice spz z.length capz] 45)) := (Below.refl _ _).alloc (Nat.le_refl _) _
  have HZ := Lib.hid hz
  have H := Lib.hid (h.grown hz)
  have hadr := h.ok.addr
  have hq : q < w.heap.size := h.rp.blk.lt
  clear h hz
  change Calls Try.prog 13 #[.pointer (some ⟨R, 0, none⟩), .agg #[.int .u8 (3 : Int), .int .u8 (d : Int), .int .u16 (addr : Int), .slice spb b.length capb, .bool short, .int .i64 n, .slice spz z.length capz]] w _
  go_enter Try.func13, Try.ntmps13
  go_wp2_with fail
  refine (rcrash_any R q T t z spz capz _ H.out.rk H.out.rp.blk.lt H.out.room H.out.ok.z H.out.ok.cz H.out.ok.mz H.out.sp).mono ?_
  rintro e w1 ⟨rfl, hr, hc⟩
  have HB := Lib.hid hr
  have HC := Lib.hid hc
  clear hr hc
  go_wp2_with fail
  go_ret2
  exact Spoke.since ⟨rfl, HB.out, H.out.rp.chg HC.out (fun e => H.out.rk.nq (e ▸ H.out.rk.sd)), HC.out.mono (fun k e => .inl (e ▸ H.out.rk.sd))⟩ HZ.out hq

set_option maxRecDepth 100000 in
set_option maxHeartbeats 4000000 in
theorem says_7 (R q : Nat) (T : Nat → Prop) (t : Rsk) (p : Pw) (a : Ac) (w : World) (h : Asks w R q T t p a) (hk : a.act = 7) : Calls Try.prog 13 #[.pointer (some ⟨R, 0, none⟩), aval a] w (Spoke R q T (said t p a) w) := by
  obtain ⟨act, d, addr, b, spb, capb, short, n, z, spz, capz⟩ := a
  simp only at hk
  subst hk
  have hz : Below w.heap.size w (w.alloc (.cells #[.int .u8 (7 : Int), .int .u8 (d : Int), .int .u16 (addr : Int), .slice spb b.length capb, .bool short, .int .i64 n, .slice spz z.length capz] 45)) := (Below.refl _ _).alloc (Nat.le_refl _) _
  have HZ := Lib.hid hz
  have H := Lib.hid (h.grown hz)
  have hadr := h.ok.addr
  have hq : q < w.heap.size := h.rp.blk.lt
  clear h hz
  change Calls Try.prog 13 #[.pointer (some ⟨R, 0, none⟩), .agg #[.int .u8 (7 : Int), .int .u8 (d : Int), .int .u16 (addr : Int), .slice spb b.length capb, .bool short, .int .i64 n, .slice spz z.length capz]] w _
  obtain ⟨vm, vc, vb, vs, va, hin⟩ := H.out.rk
  have cj := hin.blk.cell (j := 7) rfl
  have fj := hin.blk.free 7
  obtain ⟨h1, h2⟩ := hin.put0 (j := 7) (u := .bool true) (vm' := vm) (vc' := vc) (vb' := vb) (vs' := vs) (va' := va) (t' := { t with lose := true }) rfl rfl (.inl ⟨rfl, rfl⟩) (.inl ⟨rfl, rfl⟩) ⟨rfl, rfl⟩ ⟨rfl, rfl⟩ (.inl ⟨rfl, rfl⟩)
  have H1 := Lib.hid h1
  have H2 := Lib.hid h2
  clear h1 h2 hin
  go_enter Try.func13, Try.ntmps13
  go_wp2_with fail
  go_ret2
  have hk := (show RkAt _ R q T _ from ⟨_, _, _, _, _, H1.out⟩)
  exact Spoke.since ⟨rfl, hk.ext H.out.rp.blk.lt, H.out.rp.chg H2.out (fun e => H.out.rk.nq (e ▸ H.out.rk.sd)), H2.out.mono (fun k e => .inl (e ▸ H.out.rk.sd))⟩ HZ.out hq
set_option maxRecDepth 100000 in
set_option maxHeartbeats 4000000 in
theorem says_9 (R q : Nat) (T : Nat → Prop) (t : Rsk) (p : Pw) (a : Ac) (w : World) (h : Asks w R q T t p a) (hk : a.act = 9) : Calls Try.prog 13 #[.pointer (some ⟨R, 0, none⟩), aval a] w (Spoke R q T (said t p a) w) := by
  obtain ⟨act, d, addr, b, spb, capb, short, n, z, spz, capz⟩ := a
  simp only at hk
  subst hk
  have hz : Below w.heap.size w (w.alloc (.cells #[.int .u8 (9 : Int), .int .u8 (d : Int), .int .u16 (addr : Int), .slice spb b.length capb, .bool short, .int .i64 n, .slice spz z.length capz] 45)) := (Below.refl _ _).alloc (Nat.le_refl _) _
  have HZ := Lib.hid hz
  have H := Lib.hid (h.grown hz)
  have hadr := h.ok.addr
  have hq : q < w.heap.size := h.rp.blk.lt
  clear h hz
  change Calls Try.prog 13 #[.pointer (some ⟨R, 0, none⟩), .agg #[.int .u8 (9 : Int), .int .u8 (d : Int), .int .u16 (addr : Int), .slice spb b.length capb, .bool short, .int .i64 n, .slice spz z.length capz]] w _
  obtain ⟨vm, vc, vb, vs, va, hin⟩ := H.out.rk
  have cj := hin.blk.cell (j := 6) rfl
  have fj := hin.blk.free 6
  obtain ⟨h1, h2⟩ := hin.put0 (j := 6) (u := .bool true) (vm' := vm) (vc' := vc) (vb' := vb) (vs' := vs) (va' := va) (t' := { t with dead := true }) rfl rfl (.inl ⟨rfl, rfl⟩) (.inl ⟨rfl, rfl⟩) ⟨rfl, rfl⟩ ⟨rfl, rfl⟩ (.inl ⟨rfl, rfl⟩)
  have H1 := Lib.hid h1
  have H2 := Lib.hid h2
  clear h1 h2 hin
  go_enter Try.func13, Try.ntmps13
  go_wp2_with fail
  go_ret2
  have hk := (show RkAt _ R q T _ from ⟨_, _, _, _, _, H1.out⟩)
  exact Spoke.since ⟨rfl, hk.ext H.out.rp.blk.lt, H.out.rp.chg H2.out (fun e => H.out.rk.nq (e ▸ H.out.rk.sd)), H2.out.mono (fun k e => .inl (e ▸ H.out.rk.sd))⟩ HZ.out hq
set_option maxRecDepth 100000 in
set_option maxHeartbeats 4000000 in
theorem says_8 (R q : Nat) (T : Nat → Prop) (t : Rsk) (p : Pw) (a : Ac) (w : World) (h : Asks w R q T t p a) (hk : a.act = 8) : Calls Try.prog 13 #[.pointer (some ⟨R, 0, none⟩), aval a] w (Spoke R q T (said t p a) w) := by
  obtain ⟨act, d, addr, b, spb, capb, short, n, z, spz, capz⟩ := a
  simp only at hk
  subst hk
  have hz : Below w.heap.size w (w.alloc (.cells #[.int .u8 (8 : Int), .int .u8 (d : Int), .int .u16 (addr : Int), .slice spb b.length capb, .bool short, .int .i64 n, .slice spz z.length capz] 45)) := (Below.refl _ _).alloc (Nat.le_refl _) _
  have HZ := Lib.hid hz
  have H := Lib.hid (h.grown hz)
  have hadr := h.ok.addr
  have hq : q < w.heap.size := h.rp.blk.lt
  clear h hz
  change Calls Try.prog 13 #[.pointer (some ⟨R, 0, none⟩), .agg #[.int .u8 (8 : Int), .int .u8 (d : Int), .int .u16 (addr : Int), .slice spb b.length capb, .bool short, .int .i64 n, .slice spz z.length capz]] w _
  obtain ⟨vm, vc, vb, vs, va, hin⟩ := H.out.rk
  obtain ⟨cj, fj, h1, h2⟩ := stray_put hin H.out.rp.blk.lt addr
  have es : (w.alloc (.cells #[.int .u8 (8 : Int), .int .u8 (d : Int), .int .u16 (addr : Int), .slice spb b.length capb, .bool short, .int .i64 n, .slice spz z.length capz] 45)).heap.size = w.heap.size + 1 := by simp
  rw [es] at h1 h2
  have H1 := Lib.hid h1
  have H2 := Lib.hid h2
  clear h1 h2 hin
  go_enter Try.func13, Try.ntmps13
  go_wp2_with fail
  go_ret2
  exact Spoke.since ⟨rfl, H1.out, H.out.rp.chg H2.out (fun e => H.out.rk.nq (e ▸ H.out.rk.sd)), H2.out.mono (fun k e => .inl (e ▸ H.out.rk.sd))⟩ HZ.out hq
end Go.Proofs.Ytneemllgimeacaa
