/- What the document says of an act: Write, Rot, Bad, Stick. -/
import Derived.Test.YtneemllgimeacaaSz
namespace Go.Proofs.Ytneemllgimeacaa
open Go.RowKit

set_option maxRecDepth 100000 in
set_option maxHeartbeats 4000000 in
theorem says_0 (R q : Nat) (T : Nat → Prop) (t : Rsk) (p : Pw) (a : Ac) (w : World) (h : Asks w R q T t p a) (hk : a.act = 0) : Calls Try.prog 13 #[.pointer (some ⟨R, 0, none⟩), aval a] w (Spoke R q T (said t p a) w) := by
  obtain ⟨act, d, addr, b, spb, capb, short, n, z, spz, capz⟩ := a
  simp only at hk
  subst hk
  have hz : Below w.heap.size w (w.alloc (.cells #[.int .u8 (0 : Int), .int .u8 (d : Int), .int .u16 (addr : Int), .slice spb b.length capb, .bool short, .int .i64 n, .slice spz z.length capz] 45)) := (Below.refl _ _).alloc (Nat.le_refl _) _
  have HZ := Lib.hid hz
  have H := Lib.hid (h.grown hz)
  have hadr := h.ok.addr
  have hq : q < w.heap.size := h.rp.blk.lt
  have hlt := h.rk.lt
  have hbx : Boxed w.heap.size (⟨0, d, addr, b, spb, capb, short, n, z, spz, capz⟩ : Ac) (w.alloc (.cells #[.int .u8 (0 : Int), .int .u8 (d : Int), .int .u16 (addr : Int), .slice spb b.length capb, .bool short, .int .i64 n, .slice spz z.length capz] 45)) := Boxed.new (⟨0, d, addr, b, spb, capb, short, n, z, spz, capz⟩ : Ac) w
  have HBX := Lib.hid hbx
  have hbn : ¬ (T w.heap.size ∨ w.heap.size = q) := by
    rintro (hh | hh)
    · have := hlt _ hh; omega
    · omega
  have HBN := Lib.hid hbn
  have HLT := Lib.hid hlt
  clear hbx hlt hbn
  clear h hz
  change Calls Try.prog 13 #[.pointer (some ⟨R, 0, none⟩), .agg #[.int .u8 (0 : Int), .int .u8 (d : Int), .int .u16 (addr : Int), .slice spb b.length capb, .bool short, .int .i64 n, .slice spz z.length capz]] w _
  go_enter Try.func13, Try.ntmps13
  go_wp2_with fail
  refine wp_region_sched (.take 0 (.take 1 (.take 2 (.take 3 (.step 4 (.take 5 (.step 6 (.take 7 (.take 8 (.nil)))))))))) (by kernel_rfl) (by kernel_rfl) (fun d _ _ _ _ h => by cases d <;> exact h) (fun X => Boxed w.heap.size (⟨0, d, addr, b, spb, capb, short, n, z, spz, capz⟩ : Ac) X) HBX.out.drew ?_
  refine wpG_take _ (.pointer (some ⟨R, 0, none⟩)) rfl (by rfl) (fun X hX => by rfl) ?_
  (try simp only [Act.put, List.setIfInBounds_toArray, List.set_cons_zero, List.set_cons_succ])
  refine wpG_take _ (.pointer (some ⟨w.heap.size, 2, none⟩)) rfl (by rfl) (fun X hX => ex_fa45 rfl rfl) ?_
  (try simp only [Act.put, List.setIfInBounds_toArray, List.set_cons_zero, List.set_cons_succ])
  refine wpG_take _ (.int .u16 (addr : Int)) rfl (by rfl) (fun X hX => ex_ld41 rfl rfl (hX 2 (by omega))) ?_
  (try simp only [Act.put, List.setIfInBounds_toArray, List.set_cons_zero, List.set_cons_succ])
  refine wpG_take _ (aval (⟨0, d, addr, b, spb, capb, short, n, z, spz, capz⟩ : Ac)) rfl (by rfl) (fun X hX => hX.load rfl rfl) ?_
  (try simp only [Act.put, List.setIfInBounds_toArray, List.set_cons_zero, List.set_cons_succ])
  refine wpG_call _ rfl (by rfl) 33 #[aval (⟨0, d, addr, b, spb, capb, short, n, z, spz, capz⟩ : Ac)] (fun _ => by go_simp) (fun u w' => Abs3 (w.alloc (.cells #[.int .u8 (0 : Int), .int .u8 (d : Int), .int .u16 (addr : Int), .slice spb b.length capb, .bool short, .int .i64 n, .slice spz z.length capz] 45)).drew (⟨0, d, addr, b, spb, capb, short, n, z, spz, capz⟩ : Ac) u w') ((bytes3_any (⟨0, d, addr, b, spb, capb, short, n, z, spz, capz⟩ : Ac) (w.alloc (.cells #[.int .u8 (0 : Int), .int .u8 (d : Int), .int .u16 (addr : Int), .slice spb b.length capb, .bool short, .int .i64 n, .slice spz z.length capz] 45)).drew H.out.drew.ok H.out.len).mono fun e w' ⟨u, e1, e2⟩ => ⟨u, e1, by obtain ⟨_, _, _, _, hb, _⟩ := e2; exact HBX.out.drew.stays (Chg.of_below (F := fun _ => False) hb) (by simp) (fun h => h), e2⟩) ?_
  rintro u v1 hbx1 ⟨sp, cap, rfl, hsrc, hbel, hwhere⟩
  have HBX1 := Lib.hid hbx1
  have hbel1 : Below (w.alloc (.cells #[.int .u8 (0 : Int), .int .u8 (d : Int), .int .u16 (addr : Int), .slice spb b.length capb, .bool short, .int .i64 n, .slice spz z.length capz] 45)).heap.size (w.alloc (.cells #[.int .u8 (0 : Int), .int .u8 (d : Int), .int .u16 (addr : Int), .slice spb b.length capb, .bool short, .int .i64 n, .slice spz z.length capz] 45)) v1 := (Below.refl _ _).drew.trans hbel
  have H1 := Lib.hid (H.out.grown hbel1)
  have hsp : 0 < (abytes (⟨0, d, addr, b, spb, capb, short, n, z, spz, capz⟩ : Ac)).length → ∀ ad, sp = some ad → ¬ (T ad.block ∨ ad.block = q) := fun h0 ad e => by
    rcases hwhere with ⟨hsh, he⟩ | hnew
    · have := H.out.bp (by unfold abytes at h0; rw [if_pos hsh] at h0; exact h0) ad (he ▸ e)
      rintro (hh | hh)
      · exact this.1 hh
      · exact this.2 hh
    · have h9 := hnew ad e
      simp at h9
      rintro (hh | hh)
      · have := HLT.out _ hh; omega
      · omega
  have hbg : w.heap.size < v1.heap.size := by have := hbel1.size; simp at this; omega
  refine ⟨fun X => Boxed w.heap.size (⟨0, d, addr, b, spb, capb, short, n, z, spz, capz⟩ : Ac) X ∧ SrcA X sp (abytes (⟨0, d, addr, b, spb, capb, short, n, z, spz, capz⟩ : Ac)), fun _ h => h.1, ⟨hbx1, hsrc⟩, ?_⟩
  (try simp only [Act.put, List.setIfInBounds_toArray, List.set_cons_zero, List.set_cons_succ])
  refine wpG_take _ (.string (bstr (abytes (⟨0, d, addr, b, spb, capb, short, n, z, spz, capz⟩ : Ac)))) rfl (by rfl) (fun X hX => ex_conv42 rfl rfl hX.2) ?_
  (try simp only [Act.put, List.setIfInBounds_toArray, List.set_cons_zero, List.set_cons_succ])
  refine wpG_call _ rfl (by rfl) 37 #[.pointer (some ⟨R, 0, none⟩), .int .u16 (addr : Int), .string (bstr (abytes (⟨0, d, addr, b, spb, capb, short, n, z, spz, capz⟩ : Ac)))] (fun _ => by go_simp) (fun u w' => u = .int .i64 (rwrote t p addr (abytes (⟨0, d, addr, b, spb, capb, short, n, z, spz, capz⟩ : Ac))).1 ∧ Rwrote R q T (rwrote t p addr (abytes (⟨0, d, addr, b, spb, capb, short, n, z, spz, capz⟩ : Ac))) v1 (.returned u) w') ((rwrite_any R q T t p addr (abytes (⟨0, d, addr, b, spb, capb, short, n, z, spz, capz⟩ : Ac)) hadr (Nat.lt_of_le_of_lt (abytes_length H1.out.len) (by omega)) H1.out.al v1 H1.out.rk H1.out.rp H1.out.room.small).mono fun e w' hh => ⟨_, hh.1, ⟨hbx1.stays hh.2.2.2 hbg HBN.out, hsrc.stays hh.2.2.2 hsp⟩, rfl, by obtain ⟨rfl, h2⟩ := hh; exact ⟨rfl, h2⟩⟩) ?_
  rintro u v2 hs2 ⟨rfl, hw⟩
  have HW := Lib.hid hw
  have HV := Lib.hid hbel1
  refine ⟨_, fun _ h => h, hs2, ?_⟩
  clear hw hsrc hbel hwhere hsp hbel1 hbx1 hs2
  (try simp only [Act.put, List.setIfInBounds_toArray, List.set_cons_zero, List.set_cons_succ])
  refine wpG_take _ (.string ⟨#[]⟩) rfl (by rfl) (fun X hX => by rfl) ?_
  (try simp only [Act.put, List.setIfInBounds_toArray, List.set_cons_zero, List.set_cons_succ])
  refine wpG_take _ (.int .i64 (rwrote t p addr (abytes (⟨0, d, addr, b, spb, capb, short, n, z, spz, capz⟩ : Ac))).1) rfl (by rfl) (fun X hX => by rfl) ?_
  (try simp only [Act.put, List.setIfInBounds_toArray, List.set_cons_zero, List.set_cons_succ])
  refine wpG_nil ?_
  go_wp2_with fail
  go_ret2
  exact Spoke.since ⟨rfl, HW.out.2⟩ (HZ.out.trans (HV.out.mono HZ.out.size)) hq

set_option maxRecDepth 100000 in
set_option maxHeartbeats 4000000 in
theorem says_4 (R q : Nat) (T : Nat → Prop) (t : Rsk) (p : Pw) (a : Ac) (w : World) (h : Asks w R q T t p a) (hk : a.act = 4) : Calls Try.prog 13 #[.pointer (some ⟨R, 0, none⟩), aval a] w (Spoke R q T (said t p a) w) := by
  obtain ⟨act, d, addr, b, spb, capb, short, n, z, spz, capz⟩ := a
  simp only at hk
  subst hk
  have hz : Below w.heap.size w (w.alloc (.cells #[.int .u8 (4 : Int), .int .u8 (d : Int), .int .u16 (addr : Int), .slice spb b.length capb, .bool short, .int .i64 n, .slice spz z.length capz] 45)) := (Below.refl _ _).alloc (Nat.le_refl _) _
  have HZ := Lib.hid hz
  have H := Lib.hid (h.grown hz)
  have hadr := h.ok.addr
  have hq : q < w.heap.size := h.rp.blk.lt
  have hlt := h.rk.lt
  have hbx : Boxed w.heap.size (⟨4, d, addr, b, spb, capb, short, n, z, spz, capz⟩ : Ac) (w.alloc (.cells #[.int .u8 (4 : Int), .int .u8 (d : Int), .int .u16 (addr : Int), .slice spb b.length capb, .bool short, .int .i64 n, .slice spz z.length capz] 45)) := Boxed.new (⟨4, d, addr, b, spb, capb, short, n, z, spz, capz⟩ : Ac) w
  have HBX := Lib.hid hbx
  have hbn : ¬ (T w.heap.size ∨ w.heap.size = q) := by
    rintro (hh | hh)
    · have := hlt _ hh; omega
    · omega
  have HBN := Lib.hid hbn
  have HLT := Lib.hid hlt
  clear hbx hlt hbn
  clear h hz
  change Calls Try.prog 13 #[.pointer (some ⟨R, 0, none⟩), .agg #[.int .u8 (4 : Int), .int .u8 (d : Int), .int .u16 (addr : Int), .slice spb b.length capb, .bool short, .int .i64 n, .slice spz z.length capz]] w _
  go_enter Try.func13, Try.ntmps13
  go_wp2_with fail
  refine wp_region_sched (.take 0 (.take 1 (.take 2 (.take 3 (.take 4 (.take 5 (.take 6 (.take 7 (.step 8 (.take 9 (.step 10 (.take 11 (.take 12 (.nil)))))))))))))) (by kernel_rfl) (by kernel_rfl) (fun d _ _ _ _ h => by cases d <;> exact h) (fun X => Boxed w.heap.size (⟨4, d, addr, b, spb, capb, short, n, z, spz, capz⟩ : Ac) X) HBX.out.drew ?_
  refine wpG_take _ (.pointer (some ⟨R, 0, none⟩)) rfl (by rfl) (fun X hX => by rfl) ?_
  (try simp only [Act.put, List.setIfInBounds_toArray, List.set_cons_zero, List.set_cons_succ])
  refine wpG_take _ (.pointer (some ⟨w.heap.size, 0, none⟩)) rfl (by rfl) (fun X hX => by first | rfl | go_simp) ?_
  (try simp only [Act.put, List.setIfInBounds_toArray, List.set_cons_zero, List.set_cons_succ])
  refine wpG_take _ (.int .u8 4) rfl (by rfl) (fun X hX => ex_ld5 rfl rfl (hX 0 (by omega))) ?_
  (try simp only [Act.put, List.setIfInBounds_toArray, List.set_cons_zero, List.set_cons_succ])
  refine wpG_take _ (.int .i64 4) rfl (by rfl) (fun X hX => by first | rfl | go_simp) ?_
  (try simp only [Act.put, List.setIfInBounds_toArray, List.set_cons_zero, List.set_cons_succ])
  refine wpG_take _ (.int .i64 0) rfl (by rfl) (fun X hX => by first | rfl | go_simp) ?_
  (try simp only [Act.put, List.setIfInBounds_toArray, List.set_cons_zero, List.set_cons_succ])
  refine wpG_take _ (.pointer (some ⟨w.heap.size, 2, none⟩)) rfl (by rfl) (fun X hX => ex_fa45 rfl rfl) ?_
  (try simp only [Act.put, List.setIfInBounds_toArray, List.set_cons_zero, List.set_cons_succ])
  refine wpG_take _ (.int .u16 (addr : Int)) rfl (by rfl) (fun X hX => ex_ld41 rfl rfl (hX 2 (by omega))) ?_
  (try simp only [Act.put, List.setIfInBounds_toArray, List.set_cons_zero, List.set_cons_succ])
  refine wpG_take _ (aval (⟨4, d, addr, b, spb, capb, short, n, z, spz, capz⟩ : Ac)) rfl (by rfl) (fun X hX => hX.load rfl rfl) ?_
  (try simp only [Act.put, List.setIfInBounds_toArray, List.set_cons_zero, List.set_cons_succ])
  refine wpG_call _ rfl (by rfl) 33 #[aval (⟨4, d, addr, b, spb, capb, short, n, z, spz, capz⟩ : Ac)] (fun _ => by go_simp) (fun u w' => Abs3 (w.alloc (.cells #[.int .u8 (4 : Int), .int .u8 (d : Int), .int .u16 (addr : Int), .slice spb b.length capb, .bool short, .int .i64 n, .slice spz z.length capz] 45)).drew (⟨4, d, addr, b, spb, capb, short, n, z, spz, capz⟩ : Ac) u w') ((bytes3_any (⟨4, d, addr, b, spb, capb, short, n, z, spz, capz⟩ : Ac) (w.alloc (.cells #[.int .u8 (4 : Int), .int .u8 (d : Int), .int .u16 (addr : Int), .slice spb b.length capb, .bool short, .int .i64 n, .slice spz z.length capz] 45)).drew H.out.drew.ok H.out.len).mono fun e w' ⟨u, e1, e2⟩ => ⟨u, e1, by obtain ⟨_, _, _, _, hb, _⟩ := e2; exact HBX.out.drew.stays (Chg.of_below (F := fun _ => False) hb) (by simp) (fun h => h), e2⟩) ?_
  rintro u v1 hbx1 ⟨sp, cap, rfl, hsrc, hbel, hwhere⟩
  have HBX1 := Lib.hid hbx1
  have hbel1 : Below (w.alloc (.cells #[.int .u8 (4 : Int), .int .u8 (d : Int), .int .u16 (addr : Int), .slice spb b.length capb, .bool short, .int .i64 n, .slice spz z.length capz] 45)).heap.size (w.alloc (.cells #[.int .u8 (4 : Int), .int .u8 (d : Int), .int .u16 (addr : Int), .slice spb b.length capb, .bool short, .int .i64 n, .slice spz z.length capz] 45)) v1 := (Below.refl _ _).drew.trans hbel
  have H1 := Lib.hid (H.out.grown hbel1)
  have hsp : 0 < (abytes (⟨4, d, addr, b, spb, capb, short, n, z, spz, capz⟩ : Ac)).length → ∀ ad, sp = some ad → ¬ (T ad.block ∨ ad.block = q) := fun h0 ad e => by
    rcases hwhere with ⟨hsh, he⟩ | hnew
    · have := H.out.bp (by unfold abytes at h0; rw [if_pos hsh] at h0; exact h0) ad (he ▸ e)
      rintro (hh | hh)
      · exact this.1 hh
      · exact this.2 hh
    · have h9 := hnew ad e
      simp at h9
      rintro (hh | hh)
      · have := HLT.out _ hh; omega
      · omega
  have hbg : w.heap.size < v1.heap.size := by have := hbel1.size; simp at this; omega
  refine ⟨fun X => Boxed w.heap.size (⟨4, d, addr, b, spb, capb, short, n, z, spz, capz⟩ : Ac) X ∧ SrcA X sp (abytes (⟨4, d, addr, b, spb, capb, short, n, z, spz, capz⟩ : Ac)), fun _ h => h.1, ⟨hbx1, hsrc⟩, ?_⟩
  (try simp only [Act.put, List.setIfInBounds_toArray, List.set_cons_zero, List.set_cons_succ])
  refine wpG_take _ (.string (bstr (abytes (⟨4, d, addr, b, spb, capb, short, n, z, spz, capz⟩ : Ac)))) rfl (by rfl) (fun X hX => ex_conv42 rfl rfl hX.2) ?_
  (try simp only [Act.put, List.setIfInBounds_toArray, List.set_cons_zero, List.set_cons_succ])
  have hfq : ∀ kk, kk = R → (T kk ∨ kk = q) := fun kk e => .inl (e ▸ H1.out.rk.sd)
  refine wpG_call _ rfl (by rfl) 41 #[.pointer (some ⟨R, 0, none⟩), .int .i64 0, .int .u16 (addr : Int), .string (bstr (abytes (⟨4, d, addr, b, spb, capb, short, n, z, spz, capz⟩ : Ac)))] (fun _ => by go_simp) (fun u w' => u = .int .i64 (rfault t 0 addr (abytes (⟨4, d, addr, b, spb, capb, short, n, z, spz, capz⟩ : Ac))).1 ∧ Rfaulted R q T (rfault t 0 addr (abytes (⟨4, d, addr, b, spb, capb, short, n, z, spz, capz⟩ : Ac))) v1 (.returned u) w') ((rfault_any R q T t 0 addr (abytes (⟨4, d, addr, b, spb, capb, short, n, z, spz, capz⟩ : Ac)) hadr (by omega) v1 H1.out.rk H1.out.rp.blk.lt H1.out.room.small).mono fun e w' hh => ⟨_, hh.1, ⟨hbx1.stays (hh.2.2.mono hfq) hbg HBN.out, hsrc.stays (hh.2.2.mono hfq) hsp⟩, rfl, by obtain ⟨rfl, h2⟩ := hh; exact ⟨rfl, h2⟩⟩) ?_
  rintro u v2 hs2 ⟨rfl, hw⟩
  have HW := Lib.hid hw
  have HV := Lib.hid hbel1
  refine ⟨_, fun _ h => h, hs2, ?_⟩
  clear hw hsrc hbel hwhere hsp hbel1 hbx1 hs2
  (try simp only [Act.put, List.setIfInBounds_toArray, List.set_cons_zero, List.set_cons_succ])
  refine wpG_take _ (.string ⟨#[]⟩) rfl (by rfl) (fun X hX => by rfl) ?_
  (try simp only [Act.put, List.setIfInBounds_toArray, List.set_cons_zero, List.set_cons_succ])
  refine wpG_take _ (.int .i64 (rfault t 0 addr (abytes (⟨4, d, addr, b, spb, capb, short, n, z, spz, capz⟩ : Ac))).1) rfl (by rfl) (fun X hX => by rfl) ?_
  (try simp only [Act.put, List.setIfInBounds_toArray, List.set_cons_zero, List.set_cons_succ])
  refine wpG_nil ?_
  go_wp2_with fail
  go_ret2
  exact Spoke.since ⟨rfl, HW.out.2.1, H1.out.rp.chg HW.out.2.2 (fun e => H1.out.rk.nq (e ▸ H1.out.rk.sd)), HW.out.2.2.mono hfq⟩ (HZ.out.trans (HV.out.mono HZ.out.size)) hq
set_option maxRecDepth 100000 in
set_option maxHeartbeats 4000000 in
theorem says_5 (R q : Nat) (T : Nat → Prop) (t : Rsk) (p : Pw) (a : Ac) (w : World) (h : Asks w R q T t p a) (hk : a.act = 5) : Calls Try.prog 13 #[.pointer (some ⟨R, 0, none⟩), aval a] w (Spoke R q T (said t p a) w) := by
  obtain ⟨act, d, addr, b, spb, capb, short, n, z, spz, capz⟩ := a
  simp only at hk
  subst hk
  have hz : Below w.heap.size w (w.alloc (.cells #[.int .u8 (5 : Int), .int .u8 (d : Int), .int .u16 (addr : Int), .slice spb b.length capb, .bool short, .int .i64 n, .slice spz z.length capz] 45)) := (Below.refl _ _).alloc (Nat.le_refl _) _
  have HZ := Lib.hid hz
  have H := Lib.hid (h.grown hz)
  have hadr := h.ok.addr
  have hq : q < w.heap.size := h.rp.blk.lt
  have hlt := h.rk.lt
  have hbx : Boxed w.heap.size (⟨5, d, addr, b, spb, capb, short, n, z, spz, capz⟩ : Ac) (w.alloc (.cells #[.int .u8 (5 : Int), .int .u8 (d : Int), .int .u16 (addr : Int), .slice spb b.length capb, .bool short, .int .i64 n, .slice spz z.length capz] 45)) := Boxed.new (⟨5, d, addr, b, spb, capb, short, n, z, spz, capz⟩ : Ac) w
  have HBX := Lib.hid hbx
  have hbn : ¬ (T w.heap.size ∨ w.heap.size = q) := by
    rintro (hh | hh)
    · have := hlt _ hh; omega
    · omega
  have HBN := Lib.hid hbn
  have HLT := Lib.hid hlt
  clear hbx hlt hbn
  clear h hz
  change Calls Try.prog 13 #[.pointer (some ⟨R, 0, none⟩), .agg #[.int .u8 (5 : Int), .int .u8 (d : Int), .int .u16 (addr : Int), .slice spb b.length capb, .bool short, .int .i64 n, .slice spz z.length capz]] w _
  go_enter Try.func13, Try.ntmps13
  go_wp2_with fail
  refine wp_region_sched (.take 0 (.take 1 (.take 2 (.take 3 (.take 4 (.take 5 (.take 6 (.take 7 (.step 8 (.take 9 (.step 10 (.take 11 (.take 12 (.nil)))))))))))))) (by kernel_rfl) (by kernel_rfl) (fun d _ _ _ _ h => by cases d <;> exact h) (fun X => Boxed w.heap.size (⟨5, d, addr, b, spb, capb, short, n, z, spz, capz⟩ : Ac) X) HBX.out.drew ?_
  refine wpG_take _ (.pointer (some ⟨R, 0, none⟩)) rfl (by rfl) (fun X hX => by rfl) ?_
  (try simp only [Act.put, List.setIfInBounds_toArray, List.set_cons_zero, List.set_cons_succ])
  refine wpG_take _ (.pointer (some ⟨w.heap.size, 0, none⟩)) rfl (by rfl) (fun X hX => by first | rfl | go_simp) ?_
  (try simp only [Act.put, List.setIfInBounds_toArray, List.set_cons_zero, List.set_cons_succ])
  refine wpG_take _ (.int .u8 5) rfl (by rfl) (fun X hX => ex_ld5 rfl rfl (hX 0 (by omega))) ?_
  (try simp only [Act.put, List.setIfInBounds_toArray, List.set_cons_zero, List.set_cons_succ])
  refine wpG_take _ (.int .i64 5) rfl (by rfl) (fun X hX => by first | rfl | go_simp) ?_
  (try simp only [Act.put, List.setIfInBounds_toArray, List.set_cons_zero, List.set_cons_succ])
  refine wpG_take _ (.int .i64 1) rfl (by rfl) (fun X hX => by first | rfl | go_simp) ?_
  (try simp only [Act.put, List.setIfInBounds_toArray, List.set_cons_zero, List.set_cons_succ])
  refine wpG_take _ (.pointer (some ⟨w.heap.size, 2, none⟩)) rfl (by rfl) (fun X hX => ex_fa45 rfl rfl) ?_
  (try simp only [Act.put, List.setIfInBounds_toArray, List.set_cons_zero, List.set_cons_succ])
  refine wpG_take _ (.int .u16 (addr : Int)) rfl (by rfl) (fun X hX => ex_ld41 rfl rfl (hX 2 (by omega))) ?_
  (try simp only [Act.put, List.setIfInBounds_toArray, List.set_cons_zero, List.set_cons_succ])
  refine wpG_take _ (aval (⟨5, d, addr, b, spb, capb, short, n, z, spz, capz⟩ : Ac)) rfl (by rfl) (fun X hX => hX.load rfl rfl) ?_
  (try simp only [Act.put, List.setIfInBounds_toArray, List.set_cons_zero, List.set_cons_succ])
  refine wpG_call _ rfl (by rfl) 33 #[aval (⟨5, d, addr, b, spb, capb, short, n, z, spz, capz⟩ : Ac)] (fun _ => by go_simp) (fun u w' => Abs3 (w.alloc (.cells #[.int .u8 (5 : Int), .int .u8 (d : Int), .int .u16 (addr : Int), .slice spb b.length capb, .bool short, .int .i64 n, .slice spz z.length capz] 45)).drew (⟨5, d, addr, b, spb, capb, short, n, z, spz, capz⟩ : Ac) u w') ((bytes3_any (⟨5, d, addr, b, spb, capb, short, n, z, spz, capz⟩ : Ac) (w.alloc (.cells #[.int .u8 (5 : Int), .int .u8 (d : Int), .int .u16 (addr : Int), .slice spb b.length capb, .bool short, .int .i64 n, .slice spz z.length capz] 45)).drew H.out.drew.ok H.out.len).mono fun e w' ⟨u, e1, e2⟩ => ⟨u, e1, by obtain ⟨_, _, _, _, hb, _⟩ := e2; exact HBX.out.drew.stays (Chg.of_below (F := fun _ => False) hb) (by simp) (fun h => h), e2⟩) ?_
  rintro u v1 hbx1 ⟨sp, cap, rfl, hsrc, hbel, hwhere⟩
  have HBX1 := Lib.hid hbx1
  have hbel1 : Below (w.alloc (.cells #[.int .u8 (5 : Int), .int .u8 (d : Int), .int .u16 (addr : Int), .slice spb b.length capb, .bool short, .int .i64 n, .slice spz z.length capz] 45)).heap.size (w.alloc (.cells #[.int .u8 (5 : Int), .int .u8 (d : Int), .int .u16 (addr : Int), .slice spb b.length capb, .bool short, .int .i64 n, .slice spz z.length capz] 45)) v1 := (Below.refl _ _).drew.trans hbel
  have H1 := Lib.hid (H.out.grown hbel1)
  have hsp : 0 < (abytes (⟨5, d, addr, b, spb, capb, short, n, z, spz, capz⟩ : Ac)).length → ∀ ad, sp = some ad → ¬ (T ad.block ∨ ad.block = q) := fun h0 ad e => by
    rcases hwhere with ⟨hsh, he⟩ | hnew
    · have := H.out.bp (by unfold abytes at h0; rw [if_pos hsh] at h0; exact h0) ad (he ▸ e)
      rintro (hh | hh)
      · exact this.1 hh
      · exact this.2 hh
    · have h9 := hnew ad e
      simp at h9
      rintro (hh | hh)
      · have := HLT.out _ hh; omega
      · omega
  have hbg : w.heap.size < v1.heap.size := by have := hbel1.size; simp at this; omega
  refine ⟨fun X => Boxed w.heap.size (⟨5, d, addr, b, spb, capb, short, n, z, spz, capz⟩ : Ac) X ∧ SrcA X sp (abytes (⟨5, d, addr, b, spb, capb, short, n, z, spz, capz⟩ : Ac)), fun _ h => h.1, ⟨hbx1, hsrc⟩, ?_⟩
  (try simp only [Act.put, List.setIfInBounds_toArray, List.set_cons_zero, List.set_cons_succ])
  refine wpG_take _ (.string (bstr (abytes (⟨5, d, addr, b, spb, capb, short, n, z, spz, capz⟩ : Ac)))) rfl (by rfl) (fun X hX => ex_conv42 rfl rfl hX.2) ?_
  (try simp only [Act.put, List.setIfInBounds_toArray, List.set_cons_zero, List.set_cons_succ])
  have hfq : ∀ kk, kk = R → (T kk ∨ kk = q) := fun kk e => .inl (e ▸ H1.out.rk.sd)
  refine wpG_call _ rfl (by rfl) 41 #[.pointer (some ⟨R, 0, none⟩), .int .i64 1, .int .u16 (addr : Int), .string (bstr (abytes (⟨5, d, addr, b, spb, capb, short, n, z, spz, capz⟩ : Ac)))] (fun _ => by go_simp) (fun u w' => u = .int .i64 (rfault t 1 addr (abytes (⟨5, d, addr, b, spb, capb, short, n, z, spz, capz⟩ : Ac))).1 ∧ Rfaulted R q T (rfault t 1 addr (abytes (⟨5, d, addr, b, spb, capb, short, n, z, spz, capz⟩ : Ac))) v1 (.returned u) w') ((rfault_any R q T t 1 addr (abytes (⟨5, d, addr, b, spb, capb, short, n, z, spz, capz⟩ : Ac)) hadr (by omega) v1 H1.out.rk H1.out.rp.blk.lt H1.out.room.small).mono fun e w' hh => ⟨_, hh.1, ⟨hbx1.stays (hh.2.2.mono hfq) hbg HBN.out, hsrc.stays (hh.2.2.mono hfq) hsp⟩, rfl, by obtain ⟨rfl, h2⟩ := hh; exact ⟨rfl, h2⟩⟩) ?_
  rintro u v2 hs2 ⟨rfl, hw⟩
  have HW := Lib.hid hw
  have HV := Lib.hid hbel1
  refine ⟨_, fun _ h => h, hs2, ?_⟩
  clear hw hsrc hbel hwhere hsp hbel1 hbx1 hs2
  (try simp only [Act.put, List.setIfInBounds_toArray, List.set_cons_zero, List.set_cons_succ])
  refine wpG_take _ (.string ⟨#[]⟩) rfl (by rfl) (fun X hX => by rfl) ?_
  (try simp only [Act.put, List.setIfInBounds_toArray, List.set_cons_zero, List.set_cons_succ])
  refine wpG_take _ (.int .i64 (rfault t 1 addr (abytes (⟨5, d, addr, b, spb, capb, short, n, z, spz, capz⟩ : Ac))).1) rfl (by rfl) (fun X hX => by rfl) ?_
  (try simp only [Act.put, List.setIfInBounds_toArray, List.set_cons_zero, List.set_cons_succ])
  refine wpG_nil ?_
  go_wp2_with fail
  go_ret2
  exact Spoke.since ⟨rfl, HW.out.2.1, H1.out.rp.chg HW.out.2.2 (fun e => H1.out.rk.nq (e ▸ H1.out.rk.sd)), HW.out.2.2.mono hfq⟩ (HZ.out.trans (HV.out.mono HZ.out.size)) hq
set_option maxRecDepth 100000 in
set_option maxHeartbeats 4000000 in
theorem says_6 (R q : Nat) (T : Nat → Prop) (t : Rsk) (p : Pw) (a : Ac) (w : World) (h : Asks w R q T t p a) (hk : a.act = 6) : Calls Try.prog 13 #[.pointer (some ⟨R, 0, none⟩), aval a] w (Spoke R q T (said t p a) w) := by
  obtain ⟨act, d, addr, b, spb, capb, short, n, z, spz, capz⟩ := a
  simp only at hk
  subst hk
  have hz : Below w.heap.size w (w.alloc (.cells #[.int .u8 (6 : Int), .int .u8 (d : Int), .int .u16 (addr : Int), .slice spb b.length capb, .bool short, .int .i64 n, .slice spz z.length capz] 45)) := (Below.refl _ _).alloc (Nat.le_refl _) _
  have HZ := Lib.hid hz
  have H := Lib.hid (h.grown hz)
  have hadr := h.ok.addr
  have hq : q < w.heap.size := h.rp.blk.lt
  have hlt := h.rk.lt
  have hbx : Boxed w.heap.size (⟨6, d, addr, b, spb, capb, short, n, z, spz, capz⟩ : Ac) (w.alloc (.cells #[.int .u8 (6 : Int), .int .u8 (d : Int), .int .u16 (addr : Int), .slice spb b.length capb, .bool short, .int .i64 n, .slice spz z.length capz] 45)) := Boxed.new (⟨6, d, addr, b, spb, capb, short, n, z, spz, capz⟩ : Ac) w
  have HBX := Lib.hid hbx
  have hbn : ¬ (T w.heap.size ∨ w.heap.size = q) := by
    rintro (hh | hh)
    · have := hlt _ hh; omega
    · omega
  have HBN := Lib.hid hbn
  have HLT := Lib.hid hlt
  clear hbx hlt hbn
  clear h hz
  change Calls Try.prog 13 #[.pointer (some ⟨R, 0, none⟩), .agg #[.int .u8 (6 : Int), .int .u8 (d : Int), .int .u16 (addr : Int), .slice spb b.length capb, .bool short, .int .i64 n, .slice spz z.length capz]] w _
  go_enter Try.func13, Try.ntmps13
  go_wp2_with fail
  refine wp_region_sched (.take 0 (.take 1 (.take 2 (.take 3 (.take 4 (.take 5 (.take 6 (.take 7 (.step 8 (.take 9 (.step 10 (.take 11 (.take 12 (.nil)))))))))))))) (by kernel_rfl) (by kernel_rfl) (fun d _ _ _ _ h => by cases d <;> exact h) (fun X => Boxed w.heap.size (⟨6, d, addr, b, spb, capb, short, n, z, spz, capz⟩ : Ac) X) HBX.out.drew ?_
  refine wpG_take _ (.pointer (some ⟨R, 0, none⟩)) rfl (by rfl) (fun X hX => by rfl) ?_
  (try simp only [Act.put, List.setIfInBounds_toArray, List.set_cons_zero, List.set_cons_succ])
  refine wpG_take _ (.pointer (some ⟨w.heap.size, 0, none⟩)) rfl (by rfl) (fun X hX => by first | rfl | go_simp) ?_
  (try simp only [Act.put, List.setIfInBounds_toArray, List.set_cons_zero, List.set_cons_succ])
  refine wpG_take _ (.int .u8 6) rfl (by rfl) (fun X hX => ex_ld5 rfl rfl (hX 0 (by omega))) ?_
  (try simp only [Act.put, List.setIfInBounds_toArray, List.set_cons_zero, List.set_cons_succ])
  refine wpG_take _ (.int .i64 6) rfl (by rfl) (fun X hX => by first | rfl | go_simp) ?_
  (try simp only [Act.put, List.setIfInBounds_toArray, List.set_cons_zero, List.set_cons_succ])
  refine wpG_take _ (.int .i64 2) rfl (by rfl) (fun X hX => by first | rfl | go_simp) ?_
  (try simp only [Act.put, List.setIfInBounds_toArray, List.set_cons_zero, List.set_cons_succ])
  refine wpG_take _ (.pointer (some ⟨w.heap.size, 2, none⟩)) rfl (by rfl) (fun X hX => ex_fa45 rfl rfl) ?_
  (try simp only [Act.put, List.setIfInBounds_toArray, List.set_cons_zero, List.set_cons_succ])
  refine wpG_take _ (.int .u16 (addr : Int)) rfl (by rfl) (fun X hX => ex_ld41 rfl rfl (hX 2 (by omega))) ?_
  (try simp only [Act.put, List.setIfInBounds_toArray, List.set_cons_zero, List.set_cons_succ])
  refine wpG_take _ (aval (⟨6, d, addr, b, spb, capb, short, n, z, spz, capz⟩ : Ac)) rfl (by rfl) (fun X hX => hX.load rfl rfl) ?_
  (try simp only [Act.put, List.setIfInBounds_toArray, List.set_cons_zero, List.set_cons_succ])
  refine wpG_call _ rfl (by rfl) 33 #[aval (⟨6, d, addr, b, spb, capb, short, n, z, spz, capz⟩ : Ac)] (fun _ => by go_simp) (fun u w' => Abs3 (w.alloc (.cells #[.int .u8 (6 : Int), .int .u8 (d : Int), .int .u16 (addr : Int), .slice spb b.length capb, .bool short, .int .i64 n, .slice spz z.length capz] 45)).drew (⟨6, d, addr, b, spb, capb, short, n, z, spz, capz⟩ : Ac) u w') ((bytes3_any (⟨6, d, addr, b, spb, capb, short, n, z, spz, capz⟩ : Ac) (w.alloc (.cells #[.int .u8 (6 : Int), .int .u8 (d : Int), .int .u16 (addr : Int), .slice spb b.length capb, .bool short, .int .i64 n, .slice spz z.length capz] 45)).drew H.out.drew.ok H.out.len).mono fun e w' ⟨u, e1, e2⟩ => ⟨u, e1, by obtain ⟨_, _, _, _, hb, _⟩ := e2; exact HBX.out.drew.stays (Chg.of_below (F := fun _ => False) hb) (by simp) (fun h => h), e2⟩) ?_
  rintro u v1 hbx1 ⟨sp, cap, rfl, hsrc, hbel, hwhere⟩
  have HBX1 := Lib.hid hbx1
  have hbel1 : Below (w.alloc (.cells #[.int .u8 (6 : Int), .int .u8 (d : Int), .int .u16 (addr : Int), .slice spb b.length capb, .bool short, .int .i64 n, .slice spz z.length capz] 45)).heap.size (w.alloc (.cells #[.int .u8 (6 : Int), .int .u8 (d : Int), .int .u16 (addr : Int), .slice spb b.length capb, .bool short, .int .i64 n, .slice spz z.length capz] 45)) v1 := (Below.refl _ _).drew.trans hbel
  have H1 := Lib.hid (H.out.grown hbel1)
  have hsp : 0 < (abytes (⟨6, d, addr, b, spb, capb, short, n, z, spz, capz⟩ : Ac)).length → ∀ ad, sp = some ad → ¬ (T ad.block ∨ ad.block = q) := fun h0 ad e => by
    rcases hwhere with ⟨hsh, he⟩ | hnew
    · have := H.out.bp (by unfold abytes at h0; rw [if_pos hsh] at h0; exact h0) ad (he ▸ e)
      rintro (hh | hh)
      · exact this.1 hh
      · exact this.2 hh
    · have h9 := hnew ad e
      simp at h9
      rintro (hh | hh)
      · have := HLT.out _ hh; omega
      · omega
  have hbg : w.heap.size < v1.heap.size := by have := hbel1.size; simp at this; omega
  refine ⟨fun X => Boxed w.heap.size (⟨6, d, addr, b, spb, capb, short, n, z, spz, capz⟩ : Ac) X ∧ SrcA X sp (abytes (⟨6, d, addr, b, spb, capb, short, n, z, spz, capz⟩ : Ac)), fun _ h => h.1, ⟨hbx1, hsrc⟩, ?_⟩
  (try simp only [Act.put, List.setIfInBounds_toArray, List.set_cons_zero, List.set_cons_succ])
  refine wpG_take _ (.string (bstr (abytes (⟨6, d, addr, b, spb, capb, short, n, z, spz, capz⟩ : Ac)))) rfl (by rfl) (fun X hX => ex_conv42 rfl rfl hX.2) ?_
  (try simp only [Act.put, List.setIfInBounds_toArray, List.set_cons_zero, List.set_cons_succ])
  have hfq : ∀ kk, kk = R → (T kk ∨ kk = q) := fun kk e => .inl (e ▸ H1.out.rk.sd)
  refine wpG_call _ rfl (by rfl) 41 #[.pointer (some ⟨R, 0, none⟩), .int .i64 2, .int .u16 (addr : Int), .string (bstr (abytes (⟨6, d, addr, b, spb, capb, short, n, z, spz, capz⟩ : Ac)))] (fun _ => by go_simp) (fun u w' => u = .int .i64 (rfault t 2 addr (abytes (⟨6, d, addr, b, spb, capb, short, n, z, spz, capz⟩ : Ac))).1 ∧ Rfaulted R q T (rfault t 2 addr (abytes (⟨6, d, addr, b, spb, capb, short, n, z, spz, capz⟩ : Ac))) v1 (.returned u) w') ((rfault_any R q T t 2 addr (abytes (⟨6, d, addr, b, spb, capb, short, n, z, spz, capz⟩ : Ac)) hadr (by omega) v1 H1.out.rk H1.out.rp.blk.lt H1.out.room.small).mono fun e w' hh => ⟨_, hh.1, ⟨hbx1.stays (hh.2.2.mono hfq) hbg HBN.out, hsrc.stays (hh.2.2.mono hfq) hsp⟩, rfl, by obtain ⟨rfl, h2⟩ := hh; exact ⟨rfl, h2⟩⟩) ?_
  rintro u v2 hs2 ⟨rfl, hw⟩
  have HW := Lib.hid hw
  have HV := Lib.hid hbel1
  refine ⟨_, fun _ h => h, hs2, ?_⟩
  clear hw hsrc hbel hwhere hsp hbel1 hbx1 hs2
  (try simp only [Act.put, List.setIfInBounds_toArray, List.set_cons_zero, List.set_cons_succ])
  refine wpG_take _ (.string ⟨#[]⟩) rfl (by rfl) (fun X hX => by rfl) ?_
  (try simp only [Act.put, List.setIfInBounds_toArray, List.set_cons_zero, List.set_cons_succ])
  refine wpG_take _ (.int .i64 (rfault t 2 addr (abytes (⟨6, d, addr, b, spb, capb, short, n, z, spz, capz⟩ : Ac))).1) rfl (by rfl) (fun X hX => by rfl) ?_
  (try simp only [Act.put, List.setIfInBounds_toArray, List.set_cons_zero, List.set_cons_succ])
  refine wpG_nil ?_
  go_wp2_with fail
  go_ret2
  exact Spoke.since ⟨rfl, HW.out.2.1, H1.out.rp.chg HW.out.2.2 (fun e => H1.out.rk.nq (e ▸ H1.out.rk.sd)), HW.out.2.2.mono hfq⟩ (HZ.out.trans (HV.out.mono HZ.out.size)) hq
end Go.Proofs.Ytneemllgimeacaa
