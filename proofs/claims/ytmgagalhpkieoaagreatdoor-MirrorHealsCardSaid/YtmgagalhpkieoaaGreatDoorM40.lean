/- What befalls the disks under a mirror: plain, and by the program's own calls. -/
import Derived.Test.YtmgagalhpkieoaaGreatDoorM37
import Derived.Test.YtmgagalhpkieoaaGreatDoorM39
namespace Go.Proofs.YtmgagalhpkieoaaGreatDoor
open Go.RowKit

def fD (x : Mi Dsk Sp) (k : Nat) (s : Dsk) : Mi Dsk Sp := { x with d := upk x.d k s }
/-- A fault, or the power. -/
def faultS (x : Mi Dsk Sp) (a : Ac) : Mi Dsk Sp :=
  if a.act = 3 then fD x (a.d % 2) (crashed (x.d (a.d % 2)) a.z)
  else if a.act = 4 then fD x (a.d % 2) (ailed (x.d (a.d % 2)) a.addr 512 (rotK (d_full a.b))).2
  else if a.act = 5 then fD x (a.d % 2) (ailed (x.d (a.d % 2)) a.addr 512 (fun k => { k with bad := true })).2
  else if a.act = 6 then fD x (a.d % 2) (ailed (x.d (a.d % 2)) a.addr 512 (fun k => { k with stuck := true })).2
  else if a.act = 7 then fD x (a.d % 2) { x.d (a.d % 2) with lose := true }
  else if a.act = 8 then fD x (a.d % 2) { x.d (a.d % 2) with astray := some a.addr }
  else if a.act = 9 then fD x (a.d % 2) { x.d (a.d % 2) with dead := true }
  else if a.act = 10 then { x with p := x.p.set a.n }
  else if a.act = 11 then { x with p := ⟨true, -1⟩ }
  else x
/-- An act's pointer and block. -/
def Ma.q (m : Ma) : Pt := if m.wr then m.p else sealP m.p (d_full m.b)
def Ma.f (m : Ma) : Bs := d_full m.b
theorem Ma.q_ok {w : World} {m : Ma} (h : MaOK w m) : m.q.OK := by
  unfold Ma.q
  split
  · exact h.p
  · exact sealP_ok h.p _
def doS (x : Mi Dsk Sp) (m : Ma) : Mi Dsk Sp :=
  if m.d = 0 then healS kinD x m.q false
  else if m.d = 1 then healS kinD x m.q true
  else if m.d = 2 then (writeR kinD x m.q m.f).2
  else if m.d = 3 then (flushR kinD x).2
  else if m.d = 4 then { x with mv := [] }
  else faultS x m.a
theorem Lim.fd {x : Mi Dsk Sp} {n : Nat} (h : Lim x n) (k : Nat) {s : Dsk} (hs : s.cache.length ≤ (x.d k).cache.length) : Lim (fD x k s) n := by
  refine ⟨fun i hi => ?_, h.f, h.g, h.mv⟩
  show (upk x.d k s i).cache.length ≤ n
  by_cases e : i = k
  · subst e; rw [upk_same]; exact Nat.le_trans hs (h.c i hi)
  · rw [upk_other _ _ e]; exact h.c i hi
theorem crashed_lim (s : Dsk) (z : List Int) : (crashed s z).cache.length ≤ s.cache.length := by
  unfold crashed
  split <;> simp
theorem Lim.fault {x : Mi Dsk Sp} {n : Nat} (h : Lim x n) (a : Ac) : Lim (faultS x a) n := by
  unfold faultS
  split
  · exact h.fd _ (crashed_lim _ _)
  · split
    · exact h.fd _ (ailed_lim _ _ _ _)
    · split
      · exact h.fd _ (ailed_lim _ _ _ _)
      · split
        · exact h.fd _ (ailed_lim _ _ _ _)
        · split
          · exact h.fd _ (Nat.le_refl _)
          · split
            · exact h.fd _ (Nat.le_refl _)
            · split
              · exact h.fd _ (Nat.le_refl _)
              · split
                · exact ⟨h.c, h.f, h.g, h.mv⟩
                · split
                  · exact ⟨h.c, h.f, h.g, h.mv⟩
                  · exact h
theorem Lim.act {x : Mi Dsk Sp} {n : Nat} (h : Lim x n) {m : Ma} (hq : m.q.OK) : Lim (doS x m) (n + 8) := by
  unfold doS
  split
  · exact h.heal hq _
  · split
    · exact h.heal hq _
    · split
      · exact h.write hq _
      · split
        · exact h.flush
        · split
          · exact ⟨fun k hk => Nat.le_trans (h.c k hk) (by omega), fun k => Nat.le_trans (h.f k) (by omega), fun k => Nat.le_trans (h.g k) (by omega), by simp⟩
          · exact (h.fault m.a).mono (by omega)
section
variable {w W W' : World} {lab : Nat → Nat} {X : Nat} {P : Pl} {x : Mi Dsk Sp} {n k : Nat}
theorem PrS.turnE (h : PrS w W lab X P x) (hk : k < 2) {s' : Dsk} (hd : DkAt W' (P.D k) P.Q (Ext (fun b => lab b = k + 1) W W') s') (hc : Chg (fun b => lab b = k + 1) W W') : MiPost W lab P (fD x k s') W' :=
  h.mi.stepD hk hd (h.mi.pw.chg hc (by show ¬ lab P.Q = k + 1; rw [h.mi.lq]; omega)) (hc.mono (fun _ hb => .inl hb))
theorem PrS.turnS (h : PrS w W lab X P x) (hk : k < 2) {s' : Dsk} (hd : DkAt W' (P.D k) P.Q (fun b => lab b = k + 1) s') (hc : Chg (fun b => lab b = k + 1) W W') : MiPost W lab P (fD x k s') W' :=
  h.mi.stayD hk hd (h.mi.pw.chg hc (by show ¬ lab P.Q = k + 1; rw [h.mi.lq]; omega)) (hc.mono (fun _ hb => .inl hb))
theorem PrS.qlt (h : PrS w W lab X P x) : P.Q < W.heap.size := h.mi.lt _ (by rw [h.mi.lq]; omega)
theorem flt_crash (h : PrS w W lab X P x) (hl : Lim x n) (hn : n < 600000) (hk : k < 2) {zs : List Int} {sp : Option Addr} {cap : Nat} (hz : SrcI w sp zs) (hc : zs.length ≤ cap) (hm : cap ≤ maxLen) :
    Calls Tryz.prog 26 #[.pointer (some ⟨P.D k, 0, none⟩), .slice sp zs.length cap] W fun e w' => e = .returned (.tuple #[]) ∧ MiPost W lab P (fD x k (crashed (x.d k) zs)) w' :=
  (crash_any2 (P.D k) P.Q _ (x.d k) zs sp zs.length cap W (h.mi.dk k hk) (by have := hl.c k hk; omega) (hz.below h.bel (Nat.le_refl _)) rfl hc hm (fun h0 a ha e => by
    obtain ⟨g, o, e1, hg, _⟩ := hz.2 h0
    rw [e1] at ha
    obtain rfl := Option.some.inj ha
    exact h.old hg (by omega) (by omega) e)).mono fun e w' ⟨h1, h2, h3⟩ => ⟨h1, h.turnS hk h2 h3⟩
theorem flt_rot (h : PrS w W lab X P x) (hl : Lim x n) (hn : n < 600000) (hk : k < 2) {ad : Nat} (ha : ad < 65536) {b : Bs} {sp : Option Addr} {cap : Nat} (hb : b.length = 512) (hS : SrcA W sp b) :
    Calls Tryz.prog 31 #[.pointer (some ⟨P.D k, 0, none⟩), .int .u16 (ad : Int), .slice sp 512 cap] W fun e w' => (∃ z : Int, e = .returned (.int .i64 z)) ∧ MiPost W lab P (fD x k (ailed (x.d k) ad 512 (rotK b)).2) w' :=
  (rot_any (P.D k) P.Q _ (x.d k) ad b sp 512 cap W ha hb hS (h.mi.dk k hk) h.qlt (by have := hl.c k hk; omega)).mono fun e w' ⟨h1, h2, h3⟩ => ⟨⟨_, h1⟩, h.turnE hk h2 h3⟩
theorem flt_bad (h : PrS w W lab X P x) (hl : Lim x n) (hn : n < 600000) (hk : k < 2) {ad : Nat} (ha : ad < 65536) :
    Calls Tryz.prog 55 #[.pointer (some ⟨P.D k, 0, none⟩), .int .u16 (ad : Int)] W fun e w' => (∃ z : Int, e = .returned (.int .i64 z)) ∧ MiPost W lab P (fD x k (ailed (x.d k) ad 512 (fun k => { k with bad := true })).2) w' :=
  (d_bad_any (P.D k) P.Q _ (x.d k) ad W ha (h.mi.dk k hk) h.qlt (by have := hl.c k hk; omega)).mono fun e w' ⟨h1, h2, h3⟩ => ⟨⟨_, h1⟩, h.turnE hk h2 h3⟩
theorem flt_stick (h : PrS w W lab X P x) (hl : Lim x n) (hn : n < 600000) (hk : k < 2) {ad : Nat} (ha : ad < 65536) :
    Calls Tryz.prog 33 #[.pointer (some ⟨P.D k, 0, none⟩), .int .u16 (ad : Int)] W fun e w' => (∃ z : Int, e = .returned (.int .i64 z)) ∧ MiPost W lab P (fD x k (ailed (x.d k) ad 512 (fun k => { k with stuck := true })).2) w' :=
  (stick_any (P.D k) P.Q _ (x.d k) ad W ha (h.mi.dk k hk) h.qlt (by have := hl.c k hk; omega)).mono fun e w' ⟨h1, h2, h3⟩ => ⟨⟨_, h1⟩, h.turnE hk h2 h3⟩
theorem flt_lose (h : PrS w W lab X P x) (hk : k < 2) : Calls Tryz.prog 56 #[.pointer (some ⟨P.D k, 0, none⟩)] W fun e w' => e = .returned (.tuple #[]) ∧ MiPost W lab P (fD x k { x.d k with lose := true }) w' :=
  (lose_any (P.D k) P.Q _ (x.d k) W (h.mi.dk k hk)).mono fun e w' ⟨h1, h2, h3⟩ => ⟨h1, h.turnS hk h2 h3⟩
theorem flt_astray (h : PrS w W lab X P x) (hk : k < 2) {ad : Nat} (ha : ad < 65536) : Calls Tryz.prog 57 #[.pointer (some ⟨P.D k, 0, none⟩), .int .u16 (ad : Int)] W fun e w' => e = .returned (.tuple #[]) ∧ MiPost W lab P (fD x k { x.d k with astray := some ad }) w' :=
  (astray_any (P.D k) P.Q _ (x.d k) ad ha W (h.mi.dk k hk)).mono fun e w' ⟨h1, h2, h3⟩ => ⟨h1, h.turnS hk h2 h3⟩
theorem flt_die (h : PrS w W lab X P x) (hk : k < 2) : Calls Tryz.prog 58 #[.pointer (some ⟨P.D k, 0, none⟩)] W fun e w' => e = .returned (.tuple #[]) ∧ MiPost W lab P (fD x k { x.d k with dead := true }) w' :=
  (die_any (P.D k) P.Q _ (x.d k) W (h.mi.dk k hk)).mono fun e w' ⟨h1, h2, h3⟩ => ⟨h1, h.turnS hk h2 h3⟩
theorem flt_fuse (h : PrS w W lab X P x) {z : Int} (hz : z ≤ 9223372036854775807) : Calls Tryz.prog 59 #[.pointer (some ⟨P.Q, 0, none⟩), .int .i64 z] W fun e w' => e = .returned (.tuple #[]) ∧ MiPost W lab P { x with p := x.p.set z } w' :=
  (fuse_any P.Q x.p z W h.mi.pw hz).mono fun e w' ⟨h1, h2, h3⟩ => ⟨h1, h.mi.power h2 h3⟩
theorem flt_back (h : PrS w W lab X P x) : Calls Tryz.prog 24 #[.pointer (some ⟨P.Q, 0, none⟩)] W fun e w' => e = .returned (.tuple #[]) ∧ MiPost W lab P { x with p := ⟨true, -1⟩ } w' :=
  (d_back_any P.Q x.p W h.mi.pw).mono fun e w' ⟨h1, h2, h3⟩ => ⟨h1, h.mi.power h2 h3⟩
end
theorem Ma.cell44 {w : World} {m : Ma} (h : MaOK w m) {j : Nat} (hj : j < 7) : m.cells[44 + j]? = some (m.a.cell j) := by
  have h1 := h.len
  unfold Ma.cells at h1 ⊢
  rw [actC_44 h.p, List.append_nil, List.getElem?_append_right (by rw [List.length_take, h1]; omega), List.length_take, h1]
  rw [show 44 + j - min 44 51 = j by omega]
  exact acs_at _ hj
end Go.Proofs.YtmgagalhpkieoaaGreatDoor
