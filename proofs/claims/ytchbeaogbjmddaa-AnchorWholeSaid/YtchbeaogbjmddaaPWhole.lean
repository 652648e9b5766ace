/- AnchorWhole: stores, the power on and off, in any order: what is held is the last that was stored whole; whatever the acts. No condition. -/
import Derived.Test.YtchbeaogbjmddaaLWhole
import Derived.Test.YtchbeaogbjmddaaOp
import Derived.Deep.Slices
namespace Go.Proofs.Ytchbeaogbjmddaa
open Go.ChangeShapes Go.WideShapes Go.ChangeAt Go.RowKit Go.Deep

instance : Inhabited A5 := ⟨⟨0, 0, zeroA⟩⟩
theorem cells3a : Try.prog.cellsOf 3 = 1 := by kernel_rfl
theorem cells46 : Try.prog.cellsOf 46 = 39 := by kernel_rfl
theorem A5.cells_length {a : A5} (h : a.OK) : a.cells.length = 39 := by simp [A5.cells, acells_length h.an]
section
variable {H : Type} {enc : TypeId × Value → H} {W : World} {spare : Nat → Bool} {held : Bool} {b' : Nat}
theorem cells_act {fuel : Nat} {cs : List Value} {x : DataW H × List MemPlace} (h : DataW.trod enc Try.prog W b' spare held fuel 46 cs = some x) : ∃ a : A5, a.OK ∧ cs = a.cells := by
  obtain ⟨xs, k, _, _, hl, hxl, hfl⟩ := DataW.trod_struct Try.underlying46 h
  rw [cells46] at hl
  match xs, hxl with
  | [y0, y1, y2], _ =>
    have g0 := hfl 0 _ rfl
    have g1 := hfl 1 _ rfl
    have g2 := hfl 2 _ rfl
    simp [cellsB, cells3a, cells27] at g0 g1 g2
    obtain ⟨z0, e0, _, w0⟩ := DataW.trod_int Try.underlying5 g0
    obtain ⟨z1, e1, _, w1⟩ := DataW.trod_int Try.underlying3 g1
    obtain ⟨an, ha, e2⟩ := cells_anchor g2
    have b0 := bounds_u8 w0
    have b1 := bounds_i64 w1
    refine ⟨⟨z0.toNat, z1, an⟩, ⟨by simp only; omega, b1.1, b1.2, ha⟩, ?_⟩
    rw [← List.drop_one] at e1
    have e3 : cs = cs.take 1 ++ ((cs.drop 1).take 1 ++ (cs.drop 2).take 37) := by
      have h1 : (cs.drop 2).take 37 = cs.drop 2 := List.take_of_length_le (by simp [hl])
      rw [h1, show 2 = 1 + 1 by rfl, ← List.drop_drop, List.take_append_drop, List.take_append_drop]
    rw [e3, e0, e1, e2]
    simp only [A5.cells]
    rw [show ((z0.toNat : Nat) : Int) = z0 by omega]
    rfl
theorem open_acts5 {b : Nat} {v : Value} {d : DataW H} {p : List MemPlace} (ho : Value.okWide Try.prog W .any b 39 v) (h : DataW.Trod enc Try.prog W b' spare held 39 v d p) :
    ∃ (l : List A5) (sp : Option Addr) (cap : Nat), v = .slice sp l.length cap ∧ Acts5 W sp l := by
  obtain ⟨a0, len, cap, rfl⟩ := okWide_slice Try.underlying39 ho
  obtain ⟨fuel, hf⟩ := h
  rcases open_slice Try.underlying39 hf with ⟨hcs, hx⟩ | ⟨a, len', cap', m, n, D, Pl, hcs, _, hl, hm, hmm, hx, hcell⟩
  · simp [Value.cells] at hcs
    obtain ⟨rfl, rfl, rfl⟩ := hcs
    exact ⟨[], none, 0, rfl, ⟨fun a ha => (by cases ha), fun h => absurd h (Nat.lt_irrefl 0)⟩⟩
  · simp [Value.cells] at hcs
    obtain ⟨rfl, rfl, rfl⟩ := hcs
    have hlm : len ≤ m := by rw [hmm]; split <;> omega
    have each : ∀ i, i < m → ∃ q : A5, q.OK ∧ ∀ j v, q.cells[j]? = some v → W.cell? (a.add (i * 39 + j)) = some v := by
      intro i hi
      obtain ⟨cs', h1, h2⟩ := hcell i hi
      rw [cells46] at h1
      obtain ⟨_, hlen, hcl⟩ := World.cells?_some h1
      obtain ⟨q, hq, rfl⟩ := cells_act h2
      refine ⟨q, hq, fun j v hv => ?_⟩
      have hj : j < 39 := by
        have := (List.getElem?_eq_some_iff.1 hv).1
        omega
      have hc := hcl j hj
      rw [add_add] at hc
      rw [hc, hv]
    obtain ⟨q, hq⟩ := choose_lt each
    refine ⟨(List.range len).map q, some a, cap, by simp, fun x hx => ?_, fun h0 => ?_⟩
    · obtain ⟨i, hi, rfl⟩ := List.mem_map.1 hx
      exact (hq i (by have := List.mem_range.1 hi; omega)).1
    · have h0' : 0 < len := by simpa using h0
      obtain ⟨g, o, spot⟩ := a
      have hfirst := (hq 0 (by omega)).2 0 _ rfl
      have hspot : spot = none := by simpa [Addr.add] using World.cell?_spot hfirst
      subst hspot
      refine ⟨g, o, rfl, ?_, fun i x hi j v hj => ?_⟩
      · rw [Addr.add_mid] at hfirst
        exact lt_of_cell hfirst
      · obtain ⟨hi1, hi2⟩ := List.getElem?_eq_some_iff.1 hi
        have hi' : i < len := by simpa using hi1
        have hx : q i = x := by rw [← hi2]; simp
        have hc := (hq i (by omega)).2 j v (by rw [hx]; exact hj)
        rw [Addr.add_mid] at hc
        rw [Nat.add_assoc]
        exact hc
end
set_option maxRecDepth 100000 in
theorem whole_walk (l : List A5) (sp : Option Addr) (c1 : Nat) (W : World) (hA : Acts5 W sp l) : Calls Try.prog 4 #[.slice sp l.length c1] W fun e w' => e = .returned (.bool true) ∧ Below W.heap.size W w' := by
  by_cases hn : l.length ≤ 100
  · exact whole_body l.length c1 l sp W rfl hn hA
  · clear hA
    obtain ⟨n1, hn1⟩ : ∃ n, l.length = n := ⟨_, rfl⟩
    rw [hn1] at hn ⊢
    clear hn1
    have hn' : (100 : Int) < (n1 : Int) := by omega
    go_enter Try.func4, Try.ntmps4
    go_wp2_with fail
    refine (wakes_any W).mono ?_
    rintro e w2 ⟨rfl, hb⟩
    have HB := Lib.hid hb
    clear hb
    go_wp2_with fail
    go_ret
    exact ⟨rfl, HB.out⟩

set_option maxRecDepth 100000 in
theorem whole_lifted (os : Os) (started : os.Started) (H : Type) (enc : TypeId × Value → H) :
    ReturnsInHanded {} Try.checked os 4 .any (Rows.anchorWholeSpec.pre6 enc Try.prog Try.f4 Rows.anchorWholeRow.domain false) (Rows.anchorWholeSpec.post enc Try.prog Try.f4 false true false false) := by
  refine returnsInHanded_of_change (C := Try.checked) own started (by kernel_rfl) Try.func4
    (ChangeSpec.witness6 (enc := enc) (C := Try.checked) false ⟨#[], #[.slice none 0 0], []⟩ 8 (by kernel_rfl) (by kernel_rfl) (by kernel_rfl) (by kernel_rfl)) ?_
  intro W base args ds gs before hval0 hW hcnd _
  have hval : ∀ (j : Nat) t v, Try.f4.params[j]? = some t → args[j]? = some v → Value.okWide Try.prog W .any base t v := hval0
  have hW' := hW
  obtain ⟨p, q, hA0, hV, rfl, hfz, hnd⟩ := hW
  have hA : DataW.TrodAll enc Try.prog W 0 (fun _ => true) true Try.f4.params.toList args.toList ds p := hA0
  rw [Try.params4] at hA hval
  obtain ⟨v0, vs0, d0, ds0, p0', q0, hargs, rfl, rfl, h0, r0⟩ := trodAll_cons hA
  obtain ⟨rfl, rfl, rfl⟩ := trodAll_nil r0
  obtain rfl : args = #[v0] := by cases args; simp_all
  obtain ⟨rfl, rfl⟩ := trodVars_none hV
  obtain ⟨l, sp, cap, rfl, hacts⟩ := open_acts5 (hval 0 39 v0 rfl rfl) h0
  clear hA0 hval0
  simp only [List.append_nil] at hW'
  have hlt0 : ∀ x ∈ p0', x.block < W.heap.size := fun x hx => hW'.lt x (by simp [hx])
  refine (whole_walk l sp cap W hacts).mono fun e W' ⟨he, hbel⟩ => ?_
  subst he
  have r0 := Below.trod laidOut (by kernel_rfl) (of_decide_eq_true (by kernel_rfl)) h0 hbel hlt0
  exact ⟨_, rfl, _, _, _, [], _, [], hW', trodAll_mk1 (shut_bool Try.underlying4 _), trodAll_cons_mk r0 trodAll_mk0, rfl, hbel.frame _, fun h => by cases h⟩

theorem anchorWhole_holds : Rows.AnchorWholeSaid :=
  OpenClaim.holds_of_wide 4 Try.f4 rfl rfl rfl rfl rfl rfl rfl ⟨rfl, rfl, rfl, rfl, rfl⟩ rfl rfl rfl rfl rfl (by kernel_rfl) Try.func4 (by kernel_rfl)
    (of_decide_eq_true (by kernel_rfl)) (by unfold Func.isWrapper; first | (rw [if_pos (by decide +kernel)]; kernel_rfl) | (rw [if_neg (by decide +kernel)]; exact ⟨rfl, rfl⟩))
    (fun os started H enc _ => whole_lifted os started H enc)
#print axioms anchorWhole_holds
end Go.Proofs.Ytchbeaogbjmddaa
