/- Entries that are known: wakes. -/
import Derived.Test.YtlkhnmhhcagghaaEi
import Derived.BigFrame
namespace Go.Proofs.Ytlkhnmhhcagghaa
open Go.RowKit

attribute [local go_sem] Oper.semAt_some

def ka : Ent := ⟨[98], 2, 1⟩
def kb : Ent := ⟨[97], 3, 2⟩
def kby : List (BitVec 8) := [1, 97, 3, 0, 2, 1, 98, 2, 0, 1]
set_option maxRecDepth 100000 in
theorem k_add1 : addE [] ka = 0 := by kernel_rfl
set_option maxRecDepth 100000 in
theorem k_add1L : addL [] ka = [ka] := by kernel_rfl
set_option maxRecDepth 100000 in
theorem k_add2 : addE [ka] kb = 0 := by kernel_rfl
set_option maxRecDepth 100000 in
theorem k_add2L : addL [ka] kb = [kb, ka] := by kernel_rfl
set_option maxRecDepth 100000 in
theorem k_are : areB [kb, ka] = true := by kernel_rfl
set_option maxRecDepth 100000 in
theorem k_put : rowsB [kb, ka] = kby := by kernel_rfl
set_option maxRecDepth 100000 in
theorem k_take : takeL kby = some [kb, ka] := by kernel_rfl
set_option maxRecDepth 100000 in
theorem k_find : findP [98] [kb, ka] = some ka := by kernel_rfl
set_option maxRecDepth 100000 in
theorem k_drop : dropE [99] [kb, ka] = 20 := by kernel_rfl
set_option maxRecDepth 100000 in
theorem k_dropL : dropL [99] [kb, ka] = [] := by kernel_rfl
theorem k_strL : (str (un kby)).toList = [1, 97, 3, 0, 2, 1, 98, 2, 0, 1] := str_toList _
set_option maxRecDepth 100000 in
set_option maxHeartbeats 16000000 in
theorem enWakes_any (w : World) : Calls Try.prog 7 #[] w fun e w' => e = .returned (.bool true) ∧ Below w.heap.size w w' := by
  generalize hPost : (fun (e : Ending) (w' : World) => e = .returned (.bool true) ∧ Below w.heap.size w w') = Post
  have HP : Hid (∀ w', Below w.heap.size w w' → Post (.returned (.bool true)) w') := Lib.hid fun w' h => by rw [← hPost]; exact ⟨rfl, h⟩
  clear hPost
  go_enter Try.func7, Try.ntmps7
  go_upto_region 1 with fail
  go_wp2_with fail
  have h1 := enAdd_any [] ka none 0 (by simp) (fun _ => rfl) (by simp) (by decide) w (SrcE.nil _ _)
  rw [k_add1, k_add1L] at h1
  refine (show Calls Try.prog 18 #[.slice none 0 0, .agg #[.string ⟨#[98]⟩, .int .u16 2, .int .u8 1]] w _ from h1).mono ?_
  rintro e W1 ⟨v1, rfl, ho1, hb1⟩
  obtain ⟨sp1, cap1, rfl, hc1, -, hs1, hz1, -⟩ := ho1.form
  have HB1 := Lib.hid hb1; have HS1 := Lib.hid hs1; have HC1 := Lib.hid hc1; have HZ1 := Lib.hid hz1
  clear h1 ho1 hb1 hs1 hc1 hz1
  go_upto_region 2 with fail
  go_wp2_with fail
  have h2 := enAdd_any [ka] kb sp1 cap1 HC1.out HZ1.out (by simp) (by decide) W1 HS1.out
  rw [k_add2, k_add2L] at h2
  refine (show Calls Try.prog 18 #[.slice sp1 1 cap1, .agg #[.string ⟨#[97]⟩, .int .u16 3, .int .u8 2]] W1 _ from h2).mono ?_
  rintro e W2 ⟨v2, rfl, ho2, hb2⟩
  obtain ⟨sp2, cap2, rfl, hc2, -, hs2, hz2, -⟩ := ho2.form
  have HB2 : Hid (Below w.heap.size w W2) := Lib.hid (HB1.out.trans (hb2.mono HB1.out.size))
  have HS2 := Lib.hid hs2; have HC2 := Lib.hid hc2; have HZ2 := Lib.hid hz2
  clear h2 ho2 hb2 hs2 hc2 hz2 HB1 HS1 HC1 HZ1
  go_upto_region 3 with fail
  go_wp2_with fail
  have h3 := enPut_any [kb, ka] sp2 cap2 HC2.out (by simp) (fun e he => by
    simp only [List.mem_cons, List.not_mem_nil, or_false] at he
    rcases he with rfl | rfl
    · exact ⟨by decide, by decide, by decide⟩
    · exact ⟨by decide, by decide, by decide⟩) W2 HS2.out
  rw [k_are, if_pos rfl, if_pos rfl, k_put] at h3
  refine (show Calls Try.prog 8 #[.slice sp2 2 cap2] W2 _ from h3).mono ?_
  rintro e W3 ⟨v3, rfl, ho3, hb3⟩
  obtain ⟨sp3, cap3, rfl, hc3, -, hs3, hz3, -⟩ := ho3.form
  have HB3 : Hid (Below w.heap.size w W3) := Lib.hid (HB2.out.trans (hb3.mono HB2.out.size))
  have HS3 := Lib.hid hs3; have HC3 := Lib.hid hc3; have HZ3 := Lib.hid hz3; have HS23 := Lib.hid (HS2.out.grown hb3)
  clear h3 ho3 hb3 hs3 hc3 hz3 HB2 HS2
  go_upto_region 4 with fail
  go_wp2_with fail
  have h4 := enTake_any kby sp3 cap3 (by simp [kby]) HZ3.out HC3.out W3 HS3.out
  rw [k_take, if_neg (by simp)] at h4
  refine (show Calls Try.prog 11 #[.slice sp3 10 cap3] W3 _ from h4).mono ?_
  rintro e W4 ⟨v4, rfl, ho4, hb4⟩
  obtain ⟨sp4, cap4, e4, -⟩ := ho4.form
  have e4' : v4 = .slice sp4 2 cap4 := e4
  subst e4'
  have HB4 : Hid (Below w.heap.size w W4) := Lib.hid (HB3.out.trans (hb4.mono HB3.out.size))
  have HS24 := Lib.hid (HS23.out.grown hb4); have HS34 := Lib.hid (HS3.out.grown hb4)
  clear h4 ho4 hb4 e4 HB3 HS23 HS3
  go_upto_region 5 with fail
  go_wp2_with fail
  have h5 := enFind_any [kb, ka] [98] sp2 cap2 HC2.out (by simp) W4 HS24.out
  rw [k_find] at h5
  refine (show Calls Try.prog 16 #[.slice sp2 2 cap2, .string ⟨#[98]⟩] W4 _ from h5).mono ?_
  rintro e W5 ⟨rfl, hb5⟩
  have hbx := box_in W5 #[.string ⟨#[]⟩, .int .u16 0, .int .u8 0] ka rfl
  have HBX := Lib.hid hbx
  have HB5 : Hid (Below w.heap.size w W5) := Lib.hid (HB4.out.trans (hb5.mono HB4.out.size))
  have HS25 := Lib.hid (HS24.out.grown hb5); have HS35 := Lib.hid (HS34.out.grown hb5)
  clear h5 hb5 hbx HB4 HS24 HS34
  go_upto_region 6 with (first | (refine wpList_store_row rfl 46 (.tmp 9) (.tmp 37) rfl W5.heap.size (ecells ka).toArray rfl rfl 46 _ (heap_alloc_new W5 _) (sizeEc ka) rfl (all_ec ka) ?_) | fail)
  obtain ⟨W6, hW6⟩ : ∃ W, (W5.alloc (.cells #[.string ⟨#[]⟩, .int .u16 0, .int .u8 0] 46)).setRow W5.heap.size (ecells ka).toArray = W := ⟨_, rfl⟩
  obtain ⟨g9, hg9⟩ : ∃ g, W5.heap.size = g := ⟨_, rfl⟩
  obtain ⟨hbx1, hbx2⟩ := HBX.out
  rw [hg9] at hW6
  rw [hg9] at hbx1 hbx2 ⊢
  rw [hW6] at hbx1 hbx2 ⊢
  rw [← hg9] at hbx1
  have HB6 : Hid (Below w.heap.size w W6) := Lib.hid (HB5.out.trans (hbx1.mono HB5.out.size))
  have HS26 := Lib.hid (HS25.out.grown hbx1); have HS36 := Lib.hid (HS35.out.grown hbx1); have HK6 := Lib.hid hbx2
  clear hbx1 hbx2 hW6 hg9 HBX HB5 HS25 HS35
  go_wp2_with fail
  have h6 := enDrop_any [kb, ka] [99] sp2 cap2 HC2.out HZ2.out (by simp) W6 HS26.out
  rw [k_drop, k_dropL] at h6
  refine (show Calls Try.prog 14 #[.slice sp2 2 cap2, .string ⟨#[99]⟩] W6 _ from h6).mono ?_
  rintro e W7 ⟨v7, rfl, -, hb7⟩
  have HB7 : Hid (Below w.heap.size w W7) := Lib.hid (HB6.out.trans (hb7.mono HB6.out.size))
  have HS37 := Lib.hid (HS36.out.grown hb7)
  have c1 := (HK6.out.below hb7 HK6.out.lt).cell (j := 1) rfl
  have hls := k_strL
  clear h6 hb7 HB6 HS26 HS36 HK6
  have HQ := Lib.hid (HP.out W7 HB7.out)
  go_wp2_with (first | (refine e_valG (by rfl) (ex_strB HS37.out rfl rfl rfl) ?_) | fail)
  first | exact HQ.out | (go_ret; exact HQ.out)
end Go.Proofs.Ytlkhnmhhcagghaa
