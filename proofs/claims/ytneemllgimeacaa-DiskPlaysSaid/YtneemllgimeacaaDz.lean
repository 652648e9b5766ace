/- What an act on the program's disk does. -/
import Derived.Test.YtneemllgimeacaaSz
namespace Go.Proofs.Ytneemllgimeacaa
open Go.RowKit

/-- What the program's disk tells of an act: its answer, its error, the disk, the power. -/
def done (s : Dsk) (p : Pw) (a : Ac) : Bs × Int × Dsk × Pw :=
  match a.act with
  | 0 => ([], wrote s p a.addr (abytes a))
  | 1 => ((readB s p a.addr).getD [], readE s p a.addr, s, p)
  | 2 => ([], flushed s p)
  | 3 => ([], 0, crashed s a.z, p)
  | 4 => ([], (ailed s a.addr (abytes a).length (rotK (abytes a))).1, (ailed s a.addr (abytes a).length (rotK (abytes a))).2, p)
  | 5 => ([], (ailed s a.addr 512 (fun k => { k with bad := true })).1, (ailed s a.addr 512 (fun k => { k with bad := true })).2, p)
  | 6 => ([], (ailed s a.addr 512 (fun k => { k with stuck := true })).1, (ailed s a.addr 512 (fun k => { k with stuck := true })).2, p)
  | 7 => ([], 0, { s with lose := true }, p)
  | 8 => ([], 0, { s with astray := some a.addr }, p)
  | 9 => ([], 0, { s with dead := true }, p)
  | 10 => ([], 0, s, p.set a.n)
  | 11 => ([], 0, s, ⟨true, -1⟩)
  | _ => ([], if p.step.1 then 0 else 3, s, p.step.2)
def Made (D Q : Nat) (S : Nat → Prop) (r : Bs × Int × Dsk × Pw) (w : World) (e : Ending) (w' : World) : Prop :=
  e = .returned (.tuple #[.string (bstr r.1), .int .i64 r.2.1]) ∧ DkAt w' D Q (Ext S w w') r.2.2.1 ∧ PwAt w' Q r.2.2.2 ∧ Chg (Fo S Q) w w'
structure Acts (w : World) (D Q : Nat) (S : Nat → Prop) (s : Dsk) (p : Pw) (a : Ac) : Prop where
  dk : DkAt w D Q S s
  pw : PwAt w Q p
  cn : s.cache.length < 1000000
  ok : AcOK w a
  len : a.b.length ≤ 600
  sp : 0 < a.z.length → ∀ ad, a.spz = some ad → ¬ S ad.block
theorem Acts.grown {w w' : World} {D Q : Nat} {S : Nat → Prop} {s : Dsk} {p : Pw} {a : Ac} (h : Acts w D Q S s p a) (hb : Below w.heap.size w w') : Acts w' D Q S s p a :=
  ⟨h.dk.chg (Chg.of_below (F := fun _ => False) hb) (fun _ _ h => h), h.pw.chg (Chg.of_below (F := fun _ => False) hb) (fun h => h), h.cn, h.ok.below hb (Nat.le_refl _), h.len, h.sp⟩
theorem Acts.drew {w : World} {D Q : Nat} {S : Nat → Prop} {s : Dsk} {p : Pw} {a : Ac} (h : Acts w D Q S s p a) : Acts w.drew D Q S s p a := h.grown (Below.refl _ _).drew
theorem DkAt.ext2 {w w1 w0 : World} {D Q : Nat} {S : Nat → Prop} {s : Dsk} (h : DkAt w D Q (Ext S w1 w) s) (h01 : w0.heap.size ≤ w1.heap.size) (hq : Q < w0.heap.size) : DkAt w D Q (Ext S w0 w) s :=
  h.mono (fun k hk => by rcases hk with hk | hk; exact .inl hk; exact .inr ⟨by omega, hk.2⟩) (fun hh => by
    rcases hh with hh | hh
    · exact h.nq (.inl hh)
    · omega) (fun k hk => by
    rcases hk with hk | hk
    · exact h.lt k (.inl hk)
    · exact hk.2)
theorem Made.since {D Q : Nat} {S : Nat → Prop} {r : Bs × Int × Dsk × Pw} {w w1 : World} {e : Ending} {w' : World} (h : Made D Q S r w1 e w') (hb : Below w.heap.size w w1) (hq : Q < w.heap.size) : Made D Q S r w e w' := by
  obtain ⟨h1, h2, h3, h4⟩ := h
  exact ⟨h1, h2.ext2 hb.size hq, h3, ((Chg.of_below (F := fun _ => False) hb).mono (fun _ h => h.elim)).trans' h4⟩
end Go.Proofs.Ytneemllgimeacaa
