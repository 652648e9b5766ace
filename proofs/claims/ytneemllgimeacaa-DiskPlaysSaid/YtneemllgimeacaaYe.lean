/- What an act on the program's disk does: Bad, Stick, Write, Rot. -/
import Derived.Test.YtneemllgimeacaaDz
namespace Go.Proofs.Ytneemllgimeacaa
open Go.RowKit

set_option maxRecDepth 100000 in
set_option maxHeartbeats 4000000 in
theorem does_5 (D Q : Nat) (S : Nat → Prop) (s : Dsk) (p : Pw) (a : Ac) (w : World) (h : Acts w D Q S s p a) (hk : a.act = 5) : Calls Try.prog 12 #[.pointer (some ⟨D, 0, none⟩), .pointer (some ⟨Q, 0, none⟩), aval a] w (Made D Q S (done s p a) w) := by
  obtain ⟨act, d, addr, b, spb, capb, short, n, z, spz, capz⟩ := a
  simp only at hk
  subst hk
  have hz : Below w.heap.size w (w.alloc (.cells #[.int .u8 (5 : Int), .int .u8 (d : Int), .int .u16 (addr : Int), .slice spb b.length capb, .bool short, .int .i64 n, .slice spz z.length capz] 45)) := (Below.refl _ _).alloc (Nat.le_refl _) _
  have HZ := Lib.hid hz
  have H := Lib.hid (h.grown hz)
  have hadr := h.ok.addr
  have hq : Q < w.heap.size := h.pw.blk.lt
  clear h hz
  change Calls Try.prog 12 #[.pointer (some ⟨D, 0, none⟩), .pointer (some ⟨Q, 0, none⟩), .agg #[.int .u8 (5 : Int), .int .u8 (d : Int), .int .u16 (addr : Int), .slice spb b.length capb, .bool short, .int .i64 n, .slice spz z.length capz]] w _
  go_enter Try.func12, Try.ntmps12
  go_wp2_with fail
  refine (bad_any D Q S s addr _ hadr H.out.dk H.out.pw.blk.lt H.out.cn).mono ?_
  rintro e w1 ⟨rfl, h1, h3⟩
  have H1 := Lib.hid h1
  have H3 := Lib.hid h3
  clear h1 h3
  go_wp2_with fail
  go_ret2
  exact Made.since ⟨rfl, H1.out, H.out.pw.chg H3.out H.out.dk.nq, H3.out.withQ⟩ HZ.out hq
set_option maxRecDepth 100000 in
set_option maxHeartbeats 4000000 in
theorem does_6 (D Q : Nat) (S : Nat → Prop) (s : Dsk) (p : Pw) (a : Ac) (w : World) (h : Acts w D Q S s p a) (hk : a.act = 6) : Calls Try.prog 12 #[.pointer (some ⟨D, 0, none⟩), .pointer (some ⟨Q, 0, none⟩), aval a] w (Made D Q S (done s p a) w) := by
  obtain ⟨act, d, addr, b, spb, capb, short, n, z, spz, capz⟩ := a
  simp only at hk
  subst hk
  have hz : Below w.heap.size w (w.alloc (.cells #[.int .u8 (6 : Int), .int .u8 (d : Int), .int .u16 (addr : Int), .slice spb b.length capb, .bool short, .int .i64 n, .slice spz z.length capz] 45)) := (Below.refl _ _).alloc (Nat.le_refl _) _
  have HZ := Lib.hid hz
  have H := Lib.hid (h.grown hz)
  have hadr := h.ok.addr
  have hq : Q < w.heap.size := h.pw.blk.lt
  clear h hz
  change Calls Try.prog 12 #[.pointer (some ⟨D, 0, none⟩), .pointer (some ⟨Q, 0, none⟩), .agg #[.int .u8 (6 : Int), .int .u8 (d : Int), .int .u16 (addr : Int), .slice spb b.length capb, .bool short, .int .i64 n, .slice spz z.length capz]] w _
  go_enter Try.func12, Try.ntmps12
  go_wp2_with fail
  refine (stick_any D Q S s addr _ hadr H.out.dk H.out.pw.blk.lt H.out.cn).mono ?_
  rintro e w1 ⟨rfl, h1, h3⟩
  have H1 := Lib.hid h1
  have H3 := Lib.hid h3
  clear h1 h3
  go_wp2_with fail
  go_ret2
  exact Made.since ⟨rfl, H1.out, H.out.pw.chg H3.out H.out.dk.nq, H3.out.withQ⟩ HZ.out hq

set_option maxRecDepth 100000 in
set_option maxHeartbeats 4000000 in
theorem does_0 (D Q : Nat) (S : Nat → Prop) (s : Dsk) (p : Pw) (a : Ac) (w : World) (h : Acts w D Q S s p a) (hk : a.act = 0) : Calls Try.prog 12 #[.pointer (some ⟨D, 0, none⟩), .pointer (some ⟨Q, 0, none⟩), aval a] w (Made D Q S (done s p a) w) := by
  obtain ⟨act, d, addr, b, spb, capb, short, n, z, spz, capz⟩ := a
  simp only at hk
  subst hk
  have hz : Below w.heap.size w (w.alloc (.cells #[.int .u8 (0 : Int), .int .u8 (d : Int), .int .u16 (addr : Int), .slice spb b.length capb, .bool short, .int .i64 n, .slice spz z.length capz] 45)) := (Below.refl _ _).alloc (Nat.le_refl _) _
  have HZ := Lib.hid hz
  have H := Lib.hid (h.grown hz)
  have hadr := h.ok.addr
  have hq : Q < w.heap.size := h.pw.blk.lt
  have hlt := h.dk.lt
  have hbx : Boxed w.heap.size (⟨0, d, addr, b, spb, capb, short, n, z, spz, capz⟩ : Ac) (w.alloc (.cells #[.int .u8 (0 : Int), .int .u8 (d : Int), .int .u16 (addr : Int), .slice spb b.length capb, .bool short, .int .i64 n, .slice spz z.length capz] 45)) := Boxed.new (⟨0, d, addr, b, spb, capb, short, n, z, spz, capz⟩ : Ac) w
  have HBX := Lib.hid hbx
  have hbn : ¬ (S w.heap.size ∨ w.heap.size = Q) := by
    rintro (hh | hh)
    · have := hlt _ hh; omega
    · omega
  have HBN := Lib.hid hbn
  clear hbx hlt hbn
  clear h hz
  change Calls Try.prog 12 #[.pointer (some ⟨D, 0, none⟩), .pointer (some ⟨Q, 0, none⟩), .agg #[.int .u8 (0 : Int), .int .u8 (d : Int), .int .u16 (addr : Int), .slice spb b.length capb, .bool short, .int .i64 n, .slice spz z.length capz]] w _
  go_enter Try.func12, Try.ntmps12
  go_wp2_with fail
  refine wp_region_sched (.take 0 (.take 1 (.take 2 (.take 3 (.step 4 (.step 5 (.take 6 (.take 7 (.nil))))))))) (by kernel_rfl) (by kernel_rfl) (fun d _ _ _ _ h => by cases d <;> exact h) (fun X => Boxed w.heap.size (⟨0, d, addr, b, spb, capb, short, n, z, spz, capz⟩ : Ac) X) HBX.out.drew ?_
  refine wpG_take _ (.pointer (some ⟨D, 0, none⟩)) rfl (by rfl) (fun X hX => by rfl) ?_
  (try simp only [Act.put, List.setIfInBounds_toArray, List.set_cons_zero, List.set_cons_succ])
  refine wpG_take _ (.pointer (some ⟨w.heap.size, 2, none⟩)) rfl (by rfl) (fun X hX => ex_fa45 rfl rfl) ?_
  (try simp only [Act.put, List.setIfInBounds_toArray, List.set_cons_zero, List.set_cons_succ])
  refine wpG_take _ (.int .u16 (addr : Int)) rfl (by rfl) (fun X hX => ex_ld41 rfl rfl (hX 2 (by omega))) ?_
  (try simp only [Act.put, List.setIfInBounds_toArray, List.set_cons_zero, List.set_cons_succ])
  refine wpG_take _ (aval (⟨0, d, addr, b, spb, capb, short, n, z, spz, capz⟩ : Ac)) rfl (by rfl) (fun X hX => hX.load rfl rfl) ?_
  (try simp only [Act.put, List.setIfInBounds_toArray, List.set_cons_zero, List.set_cons_succ])
  refine wpG_call _ rfl (by rfl) 33 #[aval (⟨0, d, addr, b, spb, capb, short, n, z, spz, capz⟩ : Ac)] (fun _ => by go_simp) (fun u w' => Abs3 (w.alloc (.cells #[.int .u8 (0 : Int), .int .u8 (d : Int), .int .u16 (addr : Int), .slice spb b.length capb, .bool short, .int .i64 n, .slice spz z.length capz] 45)).drew (⟨0, d, addr, b, spb, capb, short, n, z, spz, capz⟩ : Ac) u w') ((bytes3_any (⟨0, d, addr, b, spb, capb, short, n, z, spz, capz⟩ : Ac) (w.alloc (.cells #[.int .u8 (0 : Int), .int .u8 (d : Int), .int .u16 (addr : Int), .slice spb b.length capb, .bool short, .int .i64 n, .slice spz z.length capz] 45)).drew H.out.drew.ok H.out.len).mono fun e w' ⟨u, e1, e2⟩ => ⟨u, e1, by obtain ⟨_, _, _, _, hb, _⟩ := e2; exact HBX.out.drew.stays (Chg.of_below (F := fun _ => False) hb) (by simp) (fun h => h), e2⟩) ?_
  rintro u v1 hbx1 ⟨sp, cap, rfl, hsrc, hbel, -⟩
  have hbel1 : Below (w.alloc (.cells #[.int .u8 (0 : Int), .int .u8 (d : Int), .int .u16 (addr : Int), .slice spb b.length capb, .bool short, .int .i64 n, .slice spz z.length capz] 45)).heap.size (w.alloc (.cells #[.int .u8 (0 : Int), .int .u8 (d : Int), .int .u16 (addr : Int), .slice spb b.length capb, .bool short, .int .i64 n, .slice spz z.length capz] 45)) v1 := (Below.refl _ _).drew.trans hbel
  have H1 := Lib.hid (H.out.grown hbel1)
  have hbg : w.heap.size < v1.heap.size := by have := hbel1.size; simp at this; omega
  refine ⟨_, fun _ h => h, hbx1, ?_⟩
  (try simp only [Act.put, List.setIfInBounds_toArray, List.set_cons_zero, List.set_cons_succ])
  refine wpG_call _ rfl (by rfl) 25 #[.pointer (some ⟨D, 0, none⟩), .int .u16 (addr : Int), .slice sp (abytes (⟨0, d, addr, b, spb, capb, short, n, z, spz, capz⟩ : Ac)).length cap] (fun _ => by go_simp) (fun u w' => u = .int .i64 (wrote s p addr (abytes (⟨0, d, addr, b, spb, capb, short, n, z, spz, capz⟩ : Ac))).1 ∧ Wrote D Q S (wrote s p addr (abytes (⟨0, d, addr, b, spb, capb, short, n, z, spz, capz⟩ : Ac))) v1 (.returned u) w') ((write_any D Q S s p addr (abytes (⟨0, d, addr, b, spb, capb, short, n, z, spz, capz⟩ : Ac)) sp (abytes (⟨0, d, addr, b, spb, capb, short, n, z, spz, capz⟩ : Ac)).length cap hadr rfl v1 hsrc H1.out.dk H1.out.pw H1.out.cn).mono fun e w' hh => ⟨_, hh.1, hbx1.stays hh.2.2.2 hbg HBN.out, rfl, by obtain ⟨rfl, h2⟩ := hh; exact ⟨rfl, h2⟩⟩) ?_
  rintro u v2 hs2 ⟨rfl, hw⟩
  have HW := Lib.hid hw
  have HV := Lib.hid hbel1
  refine ⟨_, fun _ h => h, hs2, ?_⟩
  clear hw hsrc hbel hbel1 hbx1 hs2
  (try simp only [Act.put, List.setIfInBounds_toArray, List.set_cons_zero, List.set_cons_succ])
  refine wpG_take _ (.string ⟨#[]⟩) rfl (by rfl) (fun X hX => by rfl) ?_
  (try simp only [Act.put, List.setIfInBounds_toArray, List.set_cons_zero, List.set_cons_succ])
  refine wpG_take _ (.int .i64 (wrote s p addr (abytes (⟨0, d, addr, b, spb, capb, short, n, z, spz, capz⟩ : Ac))).1) rfl (by rfl) (fun X hX => by rfl) ?_
  (try simp only [Act.put, List.setIfInBounds_toArray, List.set_cons_zero, List.set_cons_succ])
  refine wpG_nil ?_
  go_wp2_with fail
  go_ret2
  exact Made.since ⟨rfl, HW.out.2.1, HW.out.2.2.1, HW.out.2.2.2⟩ (HZ.out.trans (HV.out.mono HZ.out.size)) hq
set_option maxRecDepth 100000 in
set_option maxHeartbeats 4000000 in
theorem does_4 (D Q : Nat) (S : Nat → Prop) (s : Dsk) (p : Pw) (a : Ac) (w : World) (h : Acts w D Q S s p a) (hk : a.act = 4) : Calls Try.prog 12 #[.pointer (some ⟨D, 0, none⟩), .pointer (some ⟨Q, 0, none⟩), aval a] w (Made D Q S (done s p a) w) := by
  obtain ⟨act, d, addr, b, spb, capb, short, n, z, spz, capz⟩ := a
  simp only at hk
  subst hk
  have hz : Below w.heap.size w (w.alloc (.cells #[.int .u8 (4 : Int), .int .u8 (d : Int), .int .u16 (addr : Int), .slice spb b.length capb, .bool short, .int .i64 n, .slice spz z.length capz] 45)) := (Below.refl _ _).alloc (Nat.le_refl _) _
  have HZ := Lib.hid hz
  have H := Lib.hid (h.grown hz)
  have hadr := h.ok.addr
  have hq : Q < w.heap.size := h.pw.blk.lt
  have hlt := h.dk.lt
  have hbx : Boxed w.heap.size (⟨4, d, addr, b, spb, capb, short, n, z, spz, capz⟩ : Ac) (w.alloc (.cells #[.int .u8 (4 : Int), .int .u8 (d : Int), .int .u16 (addr : Int), .slice spb b.length capb, .bool short, .int .i64 n, .slice spz z.length capz] 45)) := Boxed.new (⟨4, d, addr, b, spb, capb, short, n, z, spz, capz⟩ : Ac) w
  have HBX := Lib.hid hbx
  have hbn : ¬ (S w.heap.size ∨ w.heap.size = Q) := by
    rintro (hh | hh)
    · have := hlt _ hh; omega
    · omega
  have HBN := Lib.hid hbn
  clear hbx hlt hbn
  clear h hz
  change Calls Try.prog 12 #[.pointer (some ⟨D, 0, none⟩), .pointer (some ⟨Q, 0, none⟩), .agg #[.int .u8 (4 : Int), .int .u8 (d : Int), .int .u16 (addr : Int), .slice spb b.length capb, .bool short, .int .i64 n, .slice spz z.length capz]] w _
  go_enter Try.func12, Try.ntmps12
  go_wp2_with fail
  refine wp_region_sched (.take 0 (.take 1 (.take 2 (.take 3 (.step 4 (.step 5 (.take 6 (.take 7 (.nil))))))))) (by kernel_rfl) (by kernel_rfl) (fun d _ _ _ _ h => by cases d <;> exact h) (fun X => Boxed w.heap.size (⟨4, d, addr, b, spb, capb, short, n, z, spz, capz⟩ : Ac) X) HBX.out.drew ?_
  refine wpG_take _ (.pointer (some ⟨D, 0, none⟩)) rfl (by rfl) (fun X hX => by rfl) ?_
  (try simp only [Act.put, List.setIfInBounds_toArray, List.set_cons_zero, List.set_cons_succ])
  refine wpG_take _ (.pointer (some ⟨w.heap.size, 2, none⟩)) rfl (by rfl) (fun X hX => ex_fa45 rfl rfl) ?_
  (try simp only [Act.put, List.setIfInBounds_toArray, List.set_cons_zero, List.set_cons_succ])
  refine wpG_take _ (.int .u16 (addr : Int)) rfl (by rfl) (fun X hX => ex_ld41 rfl rfl (hX 2 (by omega))) ?_
  (try simp only [Act.put, List.setIfInBounds_toArray, List.set_cons_zero, List.set_cons_succ])
  refine wpG_take _ (aval (⟨4, d, addr, b, spb, capb, short, n, z, spz, capz⟩ : Ac)) rfl (by rfl) (fun X hX => hX.load rfl rfl) ?_
  (try simp only [Act.put, List.setIfInBounds_toArray, List.set_cons_zero, List.set_cons_succ])
  refine wpG_call _ rfl (by rfl) 33 #[aval (⟨4, d, addr, b, spb, capb, short, n, z, spz, capz⟩ : Ac)] (fun _ => by go_simp) (fun u w' => Abs3 (w.alloc (.cells #[.int .u8 (4 : Int), .int .u8 (d : Int), .int .u16 (addr : Int), .slice spb b.length capb, .bool short, .int .i64 n, .slice spz z.length capz] 45)).drew (⟨4, d, addr, b, spb, capb, short, n, z, spz, capz⟩ : Ac) u w') ((bytes3_any (⟨4, d, addr, b, spb, capb, short, n, z, spz, capz⟩ : Ac) (w.alloc (.cells #[.int .u8 (4 : Int), .int .u8 (d : Int), .int .u16 (addr : Int), .slice spb b.length capb, .bool short, .int .i64 n, .slice spz z.length capz] 45)).drew H.out.drew.ok H.out.len).mono fun e w' ⟨u, e1, e2⟩ => ⟨u, e1, by obtain ⟨_, _, _, _, hb, _⟩ := e2; exact HBX.out.drew.stays (Chg.of_below (F := fun _ => False) hb) (by simp) (fun h => h), e2⟩) ?_
  rintro u v1 hbx1 ⟨sp, cap, rfl, hsrc, hbel, -⟩
  have hbel1 : Below (w.alloc (.cells #[.int .u8 (4 : Int), .int .u8 (d : Int), .int .u16 (addr : Int), .slice spb b.length capb, .bool short, .int .i64 n, .slice spz z.length capz] 45)).heap.size (w.alloc (.cells #[.int .u8 (4 : Int), .int .u8 (d : Int), .int .u16 (addr : Int), .slice spb b.length capb, .bool short, .int .i64 n, .slice spz z.length capz] 45)) v1 := (Below.refl _ _).drew.trans hbel
  have H1 := Lib.hid (H.out.grown hbel1)
  have hbg : w.heap.size < v1.heap.size := by have := hbel1.size; simp at this; omega
  refine ⟨_, fun _ h => h, hbx1, ?_⟩
  (try simp only [Act.put, List.setIfInBounds_toArray, List.set_cons_zero, List.set_cons_succ])
  refine wpG_call _ rfl (by rfl) 27 #[.pointer (some ⟨D, 0, none⟩), .int .u16 (addr : Int), .slice sp (abytes (⟨4, d, addr, b, spb, capb, short, n, z, spz, capz⟩ : Ac)).length cap] (fun _ => by go_simp) (fun u w' => u = .int .i64 (ailed s addr (abytes (⟨4, d, addr, b, spb, capb, short, n, z, spz, capz⟩ : Ac)).length (rotK (abytes (⟨4, d, addr, b, spb, capb, short, n, z, spz, capz⟩ : Ac)))).1 ∧ Hurt D Q S (ailed s addr (abytes (⟨4, d, addr, b, spb, capb, short, n, z, spz, capz⟩ : Ac)).length (rotK (abytes (⟨4, d, addr, b, spb, capb, short, n, z, spz, capz⟩ : Ac)))) v1 (.returned u) w') ((rot_any D Q S s addr (abytes (⟨4, d, addr, b, spb, capb, short, n, z, spz, capz⟩ : Ac)) sp (abytes (⟨4, d, addr, b, spb, capb, short, n, z, spz, capz⟩ : Ac)).length cap v1 hadr rfl hsrc H1.out.dk H1.out.pw.blk.lt H1.out.cn).mono fun e w' hh => ⟨_, hh.1, hbx1.stays hh.2.2.withQ hbg HBN.out, rfl, by obtain ⟨rfl, h2⟩ := hh; exact ⟨rfl, h2⟩⟩) ?_
  rintro u v2 hs2 ⟨rfl, hw⟩
  have HW := Lib.hid hw
  have HV := Lib.hid hbel1
  refine ⟨_, fun _ h => h, hs2, ?_⟩
  clear hw hsrc hbel hbel1 hbx1 hs2
  (try simp only [Act.put, List.setIfInBounds_toArray, List.set_cons_zero, List.set_cons_succ])
  refine wpG_take _ (.string ⟨#[]⟩) rfl (by rfl) (fun X hX => by rfl) ?_
  (try simp only [Act.put, List.setIfInBounds_toArray, List.set_cons_zero, List.set_cons_succ])
  refine wpG_take _ (.int .i64 (ailed s addr (abytes (⟨4, d, addr, b, spb, capb, short, n, z, spz, capz⟩ : Ac)).length (rotK (abytes (⟨4, d, addr, b, spb, capb, short, n, z, spz, capz⟩ : Ac)))).1) rfl (by rfl) (fun X hX => by rfl) ?_
  (try simp only [Act.put, List.setIfInBounds_toArray, List.set_cons_zero, List.set_cons_succ])
  refine wpG_nil ?_
  go_wp2_with fail
  go_ret2
  exact Made.since ⟨rfl, HW.out.2.1, H1.out.pw.chg HW.out.2.2 H1.out.dk.nq, HW.out.2.2.withQ⟩ (HZ.out.trans (HV.out.mono HZ.out.size)) hq
end Go.Proofs.Ytneemllgimeacaa
