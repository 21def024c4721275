/-
  THE WALK OF LexMeans.
-/
import Derived.Test.YtbheafpbamkphaaGreatDoorLexMeansCalls
import Derived.Test.YtbheafpbamkphaaGreatDoorRefLong
import Derived.Test.YtbheafpbamkphaaGreatDoorRefText
import Derived.Deep.DeepCutAuto
namespace Go.Proofs.YtbheafpbamkphaaGreatDoor
open Go.RowKit
open Utf Term Lex
set_option linter.unusedVariables false
set_option linter.unusedSimpArgs false

theorem termL_neq_same (k : Int) (t x : ByteArray) (w : World) : (binOp .neq 31 (.agg #[.int .i64 k, .string t, .string x]) (.agg #[.int .i64 k, .string t, .string x])).run Tryz.prog w = .ok (.bool false) w := by
  go_simp

abbrev HrpL (w : World) : Prop := 0 < w.heap.size ∧ 1 < w.heap.size ∧ 2 < w.heap.size
theorem HrpL.below {w u : World} (h : HrpL w) (k : Below w.heap.size w u) : HrpL u := by
  have := k.size
  exact ⟨by have := h.1; omega, by have := h.2.1; omega, by have := h.2.2; omega⟩

set_option maxRecDepth 100000 in
set_option maxHeartbeats 8000000 in
theorem lexMeans_long (k : Int) (t x a b : ByteArray) (hl : ¬ (longD (k, t, x) = false ∧ a.size ≤ 3000 ∧ b.size ≤ 3000)) (w : World) (hv : LexEnv w) (hrp : HrpL w) :
    Calls Tryz.prog 4 #[.agg #[.int .i64 k, .string t, .string x], .string a, .string b] w fun e w' => e = .returned (.bool true) ∧ Below w.heap.size w w' := by
  have hB : Below w.heap.size w (w.alloc (.cells #[.int .i64 k, .string t, .string x] 31)) := below_lex _ _
  have hT : BlockAt (w.alloc (.cells #[.int .i64 k, .string t, .string x] 31)) w.heap.size #[.int .i64 k, .string t, .string x] 31 := block_new _ _ _
  obtain ⟨W0, hW0⟩ : ∃ W0, W0 = w.alloc (.cells #[.int .i64 k, .string t, .string x] 31) := ⟨_, rfl⟩
  rw [← hW0] at hB hT
  have HK := Lib.hid (known4_any W0 (hv.below hB) (hrp.below hB))
  have HLn := Lib.hid (fun W => long_any (k, t, x) W)
  have HT := Lib.hid hT
  have HB := Lib.hid hB
  have HW0 := Lib.hid hW0
  clear hv hrp hB hT hW0
  have hcase : longD (k, t, x) = true ∨ (longD (k, t, x) = false ∧ 3000 < a.size) ∨ (longD (k, t, x) = false ∧ ¬ 3000 < a.size ∧ 3000 < b.size) := by
    cases h : longD (k, t, x) with
    | true => exact .inl rfl
    | false =>
      rw [h] at hl
      by_cases h1 : 3000 < a.size
      · exact .inr (.inl ⟨rfl, h1⟩)
      · exact .inr (.inr ⟨rfl, h1, by
          by_cases h2 : 3000 < b.size
          · exact h2
          · exact absurd ⟨rfl, by omega, by omega⟩ hl⟩)
  clear hl
  go_enter Tryz.func4, Tryz.ntmps4
  go_upto_region 1 with fail
  rw [← HW0.out]
  go_upto_region 3 with (go_at_call 7; refine HK.out.mono ?_; rintro e y ⟨rfl, hY⟩)
  have HB1 := Lib.hid (HB.out.trans (hY.mono HB.out.size))
  have x0 := (HT.out.kept hY).cell (j := 0) rfl
  have x1 := (HT.out.kept hY).cell (j := 1) rfl
  have x2 := (HT.out.kept hY).cell (j := 2) rfl
  clear hY
  have HLy := Lib.hid (HLn.out y)
  clear HLn
  generalize longD (k, t, x) = v at *
  rcases hcase with rfl | ⟨rfl, h1⟩ | ⟨rfl, h1, h2⟩
  · go_wp2_with (go_at_call 16; refine HLy.out.mono ?_; rintro e z ⟨rfl, hZ⟩)
    go_ret
    exact ⟨rfl, HB1.out.trans (hZ.mono HB1.out.size)⟩
  · have d1 : decide ((3000 : Int) < (a.size : Int)) = true := by simp; omega
    go_wp2_with (go_at_call 16; refine HLy.out.mono ?_; rintro e z ⟨rfl, hZ⟩)
    go_ret
    exact ⟨rfl, HB1.out.trans (hZ.mono HB1.out.size)⟩
  · have d1 : decide ((3000 : Int) < (a.size : Int)) = false := by simp; omega
    have d2 : decide ((3000 : Int) < (b.size : Int)) = true := by simp; omega
    go_wp2_with (go_at_call 16; refine HLy.out.mono ?_; rintro e z ⟨rfl, hZ⟩)
    go_ret
    exact ⟨rfl, HB1.out.trans (hZ.mono HB1.out.size)⟩

set_option maxRecDepth 100000 in
set_option maxHeartbeats 16000000 in
theorem lexMeans_short (k : Int) (t x a b : ByteArray) (hl : longD (k, t, x) = false) (ha : a.size ≤ 3000) (hb : b.size ≤ 3000) (w : World) (hv : LexEnv w) (hrp : HrpL w) :
    Calls Tryz.prog 4 #[.agg #[.int .i64 k, .string t, .string x], .string a, .string b] w fun e w' => e = .returned (.bool true) ∧ Below w.heap.size w w' := by
  have hB : Below w.heap.size w (w.alloc (.cells #[.int .i64 k, .string t, .string x] 31)) := below_lex _ _
  have hT : BlockAt (w.alloc (.cells #[.int .i64 k, .string t, .string x] 31)) w.heap.size #[.int .i64 k, .string t, .string x] 31 := block_new _ _ _
  obtain ⟨W0, hW0⟩ : ∃ W0, W0 = w.alloc (.cells #[.int .i64 k, .string t, .string x] 31) := ⟨_, rfl⟩
  rw [← hW0] at hB hT
  have hsh := hl
  unfold longD at hsh
  rw [Bool.or_eq_false_iff, decide_eq_false_iff_not, decide_eq_false_iff_not] at hsh
  have ht9 : t.size ≤ 9000 := by have := hsh.1; simp at this; omega
  have hx9 : x.size ≤ 9000 := by have := hsh.2; simp at this; omega
  have HK := Lib.hid (known4_any W0 (hv.below hB) (hrp.below hB))
  have HLn := Lib.hid (fun W => long_any (k, t, x) W)
  have HT := Lib.hid hT
  have HB := Lib.hid hB
  have HV := Lib.hid hv
  have HRp := Lib.hid hrp
  have HW0 := Lib.hid hW0
  rw [hl] at HLn
  have d1 : decide ((3000 : Int) < (a.size : Int)) = false := by simp; omega
  have d2 : decide ((3000 : Int) < (b.size : Int)) = false := by simp; omega
  clear hv hrp hB hT hW0 hl hsh
  go_enter Tryz.func4, Tryz.ntmps4
  go_upto_region 1 with fail
  rw [← HW0.out]
  go_upto_region 3 with (go_at_call 7; refine HK.out.mono ?_; rintro e y ⟨rfl, hY⟩)
  have HB1 := Lib.hid (HB.out.trans (hY.mono HB.out.size))
  have HT1 := Lib.hid (HT.out.kept hY)
  clear hY HK HW0 HT HB
  have x0 := HT1.out.cell (j := 0) rfl
  have x1 := HT1.out.cell (j := 1) rfl
  have x2 := HT1.out.cell (j := 2) rfl
  have HLy := Lib.hid (HLn.out y)
  clear HLn
  go_upto_region 5 with (go_at_call 16; refine HLy.out.mono ?_; rintro e z ⟨rfl, hZ⟩)
  have HB2 := Lib.hid (HB1.out.trans (hZ.mono HB1.out.size))
  have HT2 := Lib.hid (HT1.out.kept hZ)
  clear hZ HT1 HB1 HLy x0 x1 x2
  have x0 := HT2.out.cell (j := 0) rfl
  have x1 := HT2.out.cell (j := 1) rfl
  have x2 := HT2.out.cell (j := 2) rfl
  obtain ⟨v, hvm⟩ : ∃ v, v = mayS k t x := ⟨_, rfl⟩
  have HMy := Lib.hid (refmay_any k t x ht9 hx9 z)
  rw [← hvm] at HMy
  have HVM := Lib.hid hvm
  clear hvm
  go_upto_if 38 with (go_at_call 17; refine HMy.out.mono ?_; rintro e z1 ⟨rfl, hZ⟩)
  have HB3 := Lib.hid (HB2.out.trans (hZ.mono HB2.out.size))
  have HT3 := Lib.hid (HT2.out.kept hZ)
  clear hZ HT2 HB2 HMy x0 x1 x2
  go_cut [] (fun wx => Below w.heap.size w wx)
  case first => as_aux_lemma =>
    have x0 := HT3.out.cell (j := 0) rfl
    have x1 := HT3.out.cell (j := 1) rfl
    have x2 := HT3.out.cell (j := 2) rfl
    cases v with
    | false =>
      go_wp2_with fail
      go_meet
      exact HB3.out
    | true =>
      have hm := HVM.out.symm
      have HTx := Lib.hid (reftext_any k t x hm ht9 hx9 z1)
      have HAl := Lib.hid (fun W (h : Below w.heap.size w W) => all_of_text hm W (HV.out.below h) (HRp.out.below h))
      have HRd := Lib.hid (fun g cap hcap mv W (h : Below w.heap.size w W) hr => read_of_text hm ht9 hx9 g cap hcap mv W (HV.out.below h) hr)
      have HX := Lib.hid (termL_neq_same k t x)
      clear hm
      generalize strOfNums (textL k t x) = T at *
      generalize symsOf k (bs t) (bs x) = L at *
      go_upto_region 7 with (first | (go_at_call 19; refine HTx.out.mono ?_; rintro e z2 ⟨rfl, hY⟩; have hB4 := HB3.out.trans (hY.mono HB3.out.size); have HA2 := Lib.hid (HAl.out _ hB4); have hT4 := HT3.out.kept hY) | (go_at_call 18; refine HA2.out.mono ?_; rintro e z3 ⟨g, cap, rfl, hcap, hrow, hY2⟩))
      have hB5 := hB4.trans (hY2.mono hB4.size)
      have HR2 := Lib.hid (HRd.out g cap hcap (.map none) z3 hB5 hrow)
      have HT5 := Lib.hid (hT4.kept hY2)
      have HB5 := Lib.hid hB5
      clear hB4 hB5 hY hY2 hT4 hcap hrow HA2 HAl HRd HTx x0 x1 x2
      go_wp2_with (first | (go_at_call 8; refine HR2.out.mono ?_; rintro e z4 ⟨rfl, hY⟩; have x0 := fun o => ((HT5.out.kept hY).alloc o).cell (j := 0) rfl; have x1 := fun o => ((HT5.out.kept hY).alloc o).cell (j := 1) rfl; have x2 := fun o => ((HT5.out.kept hY).alloc o).cell (j := 2) rfl; have hB6 := HB5.out.trans (hY.mono HB5.out.size)) | (go_at_call 11; refine (num4_any _ _).mono ?_; rintro e z5 ⟨rfl, rfl⟩))
      go_meet
      exact below_next hB6 (below_lex _ _)
  case rest =>
    have HBc := Lib.hid hcut
    clear hcut
    cases hoa : okS a with
    | false =>
      have HAa := Lib.hid (all_no a (by omega) hoa wc (HV.out.below HBc.out) (HRp.out.below HBc.out))
      go_upto_region 11 with (go_at_call 18; refine HAa.out.mono ?_; rintro e za ⟨p, rfl, hY⟩)
      have HBa := Lib.hid (HBc.out.trans (hY.mono HBc.out.size))
      clear hY HAa
      cases hob : okS b with
      | false =>
        have HAb := Lib.hid (all_no b (by omega) hob za (HV.out.below HBa.out) (HRp.out.below HBa.out))
        go_wp2_with (first | (go_at_call 18; refine HAb.out.mono ?_; rintro e zb ⟨q, rfl, hY⟩) | (go_at_call 11; refine (num4_any _ _).mono ?_; rintro e z5 ⟨rfl, rfl⟩))
        go_ret
        exact ⟨rfl, HBa.out.trans (hY.mono HBa.out.size)⟩
      | true =>
        have HAb := Lib.hid (all_ok b (by omega) hob za (HV.out.below HBa.out) (HRp.out.below HBa.out))
        go_wp2_with (first | (go_at_call 18; refine HAb.out.mono ?_; rintro e zb ⟨vb, rfl, _, hY⟩) | (go_at_call 11; refine (num4_any _ _).mono ?_; rintro e z5 ⟨rfl, rfl⟩))
        go_ret
        exact ⟨rfl, HBa.out.trans (hY.mono HBa.out.size)⟩
    | true =>
      have HAa := Lib.hid (all_ok a (by omega) hoa wc (HV.out.below HBc.out) (HRp.out.below HBc.out))
      go_upto_region 11 with (go_at_call 18; refine HAa.out.mono ?_; rintro e za ⟨va, rfl, hrow, hY⟩)
      have HBa := Lib.hid (HBc.out.trans (hY.mono HBc.out.size))
      have HSa := Lib.hid (slice_of_owns hrow)
      clear hY HAa hrow
      cases hob : okS b with
      | false =>
        have HAb := Lib.hid (all_no b (by omega) hob za (HV.out.below HBa.out) (HRp.out.below HBa.out))
        go_wp2_with (first | (go_at_call 18; refine HAb.out.mono ?_; rintro e zb ⟨q, rfl, hY⟩) | (go_at_call 11; refine (num4_any _ _).mono ?_; rintro e z5 ⟨rfl, rfl⟩))
        go_ret
        exact ⟨rfl, HBa.out.trans (hY.mono HBa.out.size)⟩
      | true =>
        have HAb := Lib.hid (all_ok b (by omega) hob za (HV.out.below HBa.out) (HRp.out.below HBa.out))
        obtain ⟨hoz, hLz⟩ := ok_joined ha hb hoa hob
        have hz : (a ++ (⟨#[10]⟩ : ByteArray) ++ b).size ≤ 1048576 := by rw [ByteArray.size_append, ByteArray.size_append]; show a.size + 1 + b.size ≤ _; omega
        have HAz := Lib.hid (fun W (h : Below w.heap.size w W) => all_ok _ hz hoz W (HV.out.below h) (HRp.out.below h))
        rw [hLz] at HAz
        have HPl := Lib.hid (fun (i : Nat) (x : Sym) (h : (allL (bs b)).1[i]? = some x) => places_small h)
        have HFa := Lib.hid (syms_few a)
        have HFb := Lib.hid (syms_few b)
        clear hoz hLz hz hoa hob
        generalize (allL (bs a)).1 = La at *
        generalize (allL (bs b)).1 = Lb at *
        go_upto_region 12 with (go_at_call 18; refine HAb.out.mono ?_; rintro e zb ⟨vb, rfl, hrow, hY⟩)
        obtain ⟨oy, capy, g, rfl, hcapy, hcapm, hoy, hbg, hyr, hnil⟩ := yrow_any hrow
        have HYb := Lib.hid hY
        have HYR := Lib.hid hyr
        have HOY := Lib.hid hoy
        have HNL := Lib.hid hnil
        have HBG := Lib.hid hbg
        have HCM := Lib.hid hcapm
        have HCY := Lib.hid hcapy
        clear hY hrow HAb hyr hoy hnil hbg hcapm hcapy
        obtain ⟨n, hn⟩ : ∃ n, n = Lb.length := ⟨_, rfl⟩
        have HN := Lib.hid hn
        rw [← hn] at HCY HYR HOY HNL HFb ⊢
        clear hn
        go_upto_region 14 with (go_at_call 11; refine (num4_any _ _).mono ?_; rintro e z5 ⟨rfl, rfl⟩)
        go_wp2_with fail
        go_loopg [19] n (fun gg i wr => ∃ k : Nat, k ≤ n ∧ n - k ≤ gg ∧ i = .int .i64 k ∧ Below za.heap.size zb wr ∧ (0 < n → YRow wr g (moved (a.size + 1) k Lb)))
        case atStart => exact ⟨0, Nat.zero_le _, by omega, rfl, Below.refl _ _, fun h => by rw [moved_zero]; exact HYR.out h⟩
        case round =>
          obtain ⟨k, hk, hg, rfl, hBr, hyr⟩ := hrel
          have HBr := Lib.hid hBr
          have HYr := Lib.hid hyr
          clear hBr hyr
          by_cases hlt : k < n
          · obtain rfl := HOY.out (by omega)
            obtain ⟨x, hx⟩ : ∃ x, Lb[k]? = some x := ⟨_, List.getElem?_eq_getElem (by have := HN.out; omega)⟩
            have hyw := HYr.out (by omega)
            have hp := HPl.out k x hx
            have c5 := (hyw.row.six (moved_get hx)).c5
            have kf := hyw.free
            have HX := Lib.hid hx
            have HYW := Lib.hid hyw
            clear hx hyw
            have d3 : decide ((k : Int) < (n : Int)) = true := by simpa using hlt
            have i0 : (0 : Int) ≤ (k : Int) := by omega
            have i1 : (k : Int) < (n : Int) := by omega
            have i2 : n ≤ 3000 := by have := HFb.out; omega
            have p0 : (0 : Int) ≤ (x.place : Int) := by omega
            have p1 : (x.place : Int) ≤ 3000 := by omega
            have p2 : (0 : Int) ≤ (a.size : Int) := by omega
            have p3 : (a.size : Int) ≤ 3000 := by omega
            go_wp2_with fail
            go_roundg (n - (k + 1))
            case measure => omega
            case rel => exact ⟨k + 1, by omega, Nat.le_refl _, by go_num, HBr.out.setCell HBG.out _, fun _ => by rw [← moved_next HX.out]; exact HYW.out.place' (moved_get HX.out) _ _ (by push_cast; omega)⟩
          · obtain rfl : k = n := by omega
            have d3 : decide ((k : Int) < (k : Int)) = false := by simp
            have hBw := HBa.out.trans (HYb.out.mono HBa.out.size)
            have hBr2 : Below w.heap.size w wr := hBw.trans (HBr.out.mono HBa.out.size)
            have hSx : SliceS wr va La := (HSa.out.below HYb.out).below2 HSa.out HYb.out HBr.out
            have hSy : SliceS wr (.slice oy k capy) (Lb.map (shiftS (a.size + 1))) := by
              by_cases h0 : k = 0
              · subst h0
                have hL : Lb = [] := List.eq_nil_of_length_eq_zero HN.out.symm
                rw [hL]
                exact HNL.out rfl wr
              · have hy := HYr.out (by omega)
                rw [HN.out, moved_all] at hy
                refine .inr ⟨g, capy, by rw [HOY.out (by omega), List.length_map, ← HN.out], by rw [List.length_map, ← HN.out]; exact HCY.out, HCM.out, hy.row⟩
            have HZ := Lib.hid (HAz.out wr hBr2)
            have HSx := Lib.hid hSx
            have HSy := Lib.hid hSy
            have HBw := Lib.hid hBr2
            have fa : ¬ 9223372036854775807 < a.size + 1 := by omega
            have fb : ¬ 9223372036854775807 < a.size + 1 + b.size := by omega
            clear hBw hBr2 hSx hSy HYr HBr HAz
            go_upto_region 19 with (go_at_call 18; refine HZ.out.mono ?_; rintro e zz ⟨vz, rfl, hrow, hY⟩)
            have HSz := Lib.hid (slice_of_owns hrow)
            have HSx2 := Lib.hid (HSx.out.below hY)
            have HSy2 := Lib.hid (HSy.out.below hY)
            have HBz := Lib.hid (HBw.out.trans (hY.mono HBw.out.size))
            have la : La.length ≤ 1000000 := by have := HFa.out; omega
            have lb : (Lb.map (shiftS (a.size + 1))).length ≤ 1000000 := by rw [List.length_map, ← HN.out]; have := HFb.out; omega
            clear hrow hY HSx HSy HZ
            go_wp2_with (first
              | (go_at_call 11; refine (num4_any _ _).mono ?_; rintro e z5 ⟨rfl, rfl⟩)
              | (go_at_call 20; refine (same_any _ _ _ _ (HSz.out.below (hB2.trans hB3)) (slice_of_owns hown3)).mono ?_; rintro e z6 ⟨rfl, hB4⟩)
              | (at_builtin; refine wpList_append_sym (by rfl) _ _ rfl zz.heap.size _ La rfl hown _ (Lb.map (shiftS (a.size + 1))) rfl (HSy2.out.below hB2) la lb hB2.size ?_; intro vt w3 hown3 hB3)
              | (at_builtin; refine wpList_append_sym (by rfl) _ _ rfl zz.heap.size _ [] rfl (World.ownsRow_nil _ _ _ _) va La rfl HSx2.out (by simp) la (Nat.le_refl _) ?_; intro vo w2 hown hB2))
            go_ret
            have hB23 := hB2.trans hB3
            exact ⟨rfl, HBz.out.trans ((hB23.trans (hB4.mono hB23.size)).mono HBz.out.size)⟩

theorem lexMeans_any (k : Int) (t x a b : ByteArray) (w : World) (hv : LexEnv w) (hrp : HrpL w) :
    Calls Tryz.prog 4 #[.agg #[.int .i64 k, .string t, .string x], .string a, .string b] w fun e w' => e = .returned (.bool true) ∧ Below w.heap.size w w' := by
  by_cases h : longD (k, t, x) = false ∧ a.size ≤ 3000 ∧ b.size ≤ 3000
  · exact lexMeans_short k t x a b h.1 h.2.1 h.2.2 w hv hrp
  · exact lexMeans_long k t x a b h w hv hrp
end Go.Proofs.YtbheafpbamkphaaGreatDoor
