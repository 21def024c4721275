/-
  THE LAW UtfMeans: THE WALK.
-/
import Derived.Test.YthfflepgiikbjaaUtfJoins
import Derived.Test.YthfflepgiikbjaaUtfLawRunes
import Derived.Test.YthfflepgiikbjaaUtfOrder
namespace Go.Proofs.Ythfflepgiikbjaa
open Go.RowKit
open Utf

theorem bytesLess_lex : ∀ (l m : List UInt8), Op.bytesLess l m = lexLt (l.map fun c => (c.toNat : Int)) (m.map fun c => (c.toNat : Int))
  | [], [] => rfl
  | _ :: _, [] => rfl
  | [], _ :: _ => rfl
  | a :: l, b :: m => by
    have ih := bytesLess_lex l m
    rw [Op.bytesLess, ih, List.map_cons, List.map_cons, lexLt]
    congr 1
    · rw [decide_eq_decide, UInt8.lt_iff_toNat_lt]; omega
    · congr 1
      rw [Bool.eq_iff_iff, beq_iff_eq, decide_eq_true_eq, ← UInt8.toNat_inj]; omega

theorem strOfNums_bs (s : ByteArray) : strOfNums (bs s) = s := by
  apply bs_inj
  exact bs_strOfNums (bs_byte s)

theorem get_put (r : Int) (s : ByteArray) (w : World) (hr : May r) (hs : s.size ≤ 100000) :
    Calls Try.prog 10 #[.string (strOfNums (enc r) ++ s)] w fun e w' => e = .returned (.tuple #[.int .i64 r, .int .i64 (rsize r : Nat), .int .i64 0]) ∧ w = w' := by
  refine get_ok _ w ?_ (by rw [bs_append, bs_strOfNums (enc_bytes hr)]; exact dec_enc hr _) (by have := rsize_pos.2 hr; omega)
  rw [ByteArray.size_append, strOfNums_size]
  have := enc_len r
  omega

set_option maxRecDepth 100000 in
set_option maxHeartbeats 2000000 in
theorem utfMeans_long (r : Int) (s t : ByteArray) (w : World) (hm : s.size ≤ 9223372036854775807) (hmt : t.size ≤ 9223372036854775807) (h : 3000 < s.size ∨ 3000 < t.size) :
    Calls Try.prog 6 #[.int .i64 r, .string s, .string t] w fun e w' => e = .returned (.bool true) ∧ Below w.heap.size w w' := by
  by_cases h1 : 3000 < s.size
  · clear h
    have d1 : decide ((3000 : Int) < (s.size : Int)) = true := by simp; omega
    go_enter Try.func6, Try.ntmps6
    go_wp2_with (go_at_call 8; refine (known_any _).mono ?_; rintro e w' ⟨rfl, hB⟩)
    go_ret
    exact ⟨rfl, hB⟩
  · have h2 : 3000 < t.size := by omega
    have d1 : decide ((3000 : Int) < (s.size : Int)) = false := by simp; omega
    have d2 : decide ((3000 : Int) < (t.size : Int)) = true := by simp; omega
    clear h
    go_enter Try.func6, Try.ntmps6
    go_wp2_with (go_at_call 8; refine (known_any _).mono ?_; rintro e w' ⟨rfl, hB⟩)
    go_ret
    exact ⟨rfl, hB⟩

set_option maxRecDepth 100000 in
set_option maxHeartbeats 4000000 in
theorem utfMeans_no (r : Int) (s t : ByteArray) (w : World) (hs : s.size ≤ 3000) (ht : t.size ≤ 3000) {b1 b2 : Bool} (hv1 : valid (bs s) = b1) (hv2 : valid (bs t) = b2) (hb : b1 = false ∨ b2 = false) :
    Calls Try.prog 6 #[.int .i64 r, .string s, .string t] w fun e w' => e = .returned (.bool true) ∧ Below w.heap.size w w' := by
  have d1 : decide ((3000 : Int) < (s.size : Int)) = false := by simp; omega
  have d2 : decide ((3000 : Int) < (t.size : Int)) = false := by simp; omega
  have HV1 := Lib.hid (fun w => valid_yes s w (by omega) hv1)
  have HV2 := Lib.hid (fun w => valid_yes t w (by omega) hv2)
  clear hv1 hv2
  cases b1
  · clear hb
    by_cases hr : May r
    · have HG := Lib.hid (fun w => get_put r s w hr (by omega))
      have HP := Lib.hid (fun w => put_any r w hr)
      have HN := Lib.hid (rsize_pos.2 hr)
      clear hr
      go_enter Try.func6, Try.ntmps6
      go_wp2_with (go_at_call 8; refine (known_any _).mono ?_; rintro e w1 ⟨rfl, hB1⟩)
      refine (HP.out _).mono ?_
      rintro e w2 ⟨v, rfl, hown, hB2⟩
      obtain ⟨g, cp, rfl, hg, hl, hx, hcell⟩ := owns_some hown HN.out
      have hcv := owns_string (cap := cp) (w' := w2) hx hcell hl (Below.refl _ _)
      have HB := Lib.hid (below_chain hB1 hB2)
      clear hown hcell hx hg hl hB1 hB2
      have hss : (strOfNums (enc r)).size + s.size ≤ 9223372036854775807 := by rw [strOfNums_size]; have := enc_len r; omega
      go_wp2_with (first | (go_at_call 12; refine (num_any _ _).mono ?_; rintro e w' ⟨rfl, rfl⟩) | (go_at_call 10; refine (HG.out _).mono ?_; rintro e w' ⟨rfl, rfl⟩))
      refine (HV1.out _).mono ?_
      rintro e w3 ⟨rfl, hB3⟩
      have HB3 := Lib.hid (below_chain HB.out hB3)
      clear hB3 hcv hss
      go_wp2_with fail
      go_ret
      exact ⟨rfl, HB3.out⟩
    · have HP := Lib.hid (fun w => put_none r w hr)
      clear hr
      go_enter Try.func6, Try.ntmps6
      go_wp2_with (go_at_call 8; refine (known_any _).mono ?_; rintro e w1 ⟨rfl, hB1⟩)
      refine (HP.out _).mono ?_
      rintro e w2 ⟨rfl, hB2⟩
      have HB := Lib.hid (below_chain hB1 hB2)
      clear hB1 hB2
      go_wp2_with (go_at_call 12; refine (num_any _ _).mono ?_; rintro e w' ⟨rfl, rfl⟩)
      refine (HV1.out _).mono ?_
      rintro e w3 ⟨rfl, hB3⟩
      have HB3 := Lib.hid (below_chain HB.out hB3)
      clear hB3
      go_wp2_with fail
      go_ret
      exact ⟨rfl, HB3.out⟩
  · obtain rfl : b2 = false := by simpa using hb
    clear hb
    by_cases hr : May r
    · have HG := Lib.hid (fun w => get_put r s w hr (by omega))
      have HP := Lib.hid (fun w => put_any r w hr)
      have HN := Lib.hid (rsize_pos.2 hr)
      clear hr
      go_enter Try.func6, Try.ntmps6
      go_wp2_with (go_at_call 8; refine (known_any _).mono ?_; rintro e w1 ⟨rfl, hB1⟩)
      refine (HP.out _).mono ?_
      rintro e w2 ⟨v, rfl, hown, hB2⟩
      obtain ⟨g, cp, rfl, hg, hl, hx, hcell⟩ := owns_some hown HN.out
      have hcv := owns_string (cap := cp) (w' := w2) hx hcell hl (Below.refl _ _)
      have HB := Lib.hid (below_chain hB1 hB2)
      clear hown hcell hx hg hl hB1 hB2
      have hss : (strOfNums (enc r)).size + s.size ≤ 9223372036854775807 := by rw [strOfNums_size]; have := enc_len r; omega
      go_wp2_with (first | (go_at_call 12; refine (num_any _ _).mono ?_; rintro e w' ⟨rfl, rfl⟩) | (go_at_call 10; refine (HG.out _).mono ?_; rintro e w' ⟨rfl, rfl⟩))
      refine (HV1.out _).mono ?_
      rintro e w3 ⟨rfl, hB3⟩
      have HB3 := Lib.hid (below_chain HB.out hB3)
      clear hB3 hcv hss
      go_wp2_with fail
      refine (HV2.out _).mono ?_
      rintro e w4 ⟨rfl, hB4⟩
      go_wp2_with fail
      go_ret
      exact ⟨rfl, below_chain HB3.out hB4⟩
    · have HP := Lib.hid (fun w => put_none r w hr)
      clear hr
      go_enter Try.func6, Try.ntmps6
      go_wp2_with (go_at_call 8; refine (known_any _).mono ?_; rintro e w1 ⟨rfl, hB1⟩)
      refine (HP.out _).mono ?_
      rintro e w2 ⟨rfl, hB2⟩
      have HB := Lib.hid (below_chain hB1 hB2)
      clear hB1 hB2
      go_wp2_with (go_at_call 12; refine (num_any _ _).mono ?_; rintro e w' ⟨rfl, rfl⟩)
      refine (HV1.out _).mono ?_
      rintro e w3 ⟨rfl, hB3⟩
      have HB3 := Lib.hid (below_chain HB.out hB3)
      clear hB3
      go_wp2_with fail
      refine (HV2.out _).mono ?_
      rintro e w4 ⟨rfl, hB4⟩
      go_wp2_with fail
      go_ret
      exact ⟨rfl, below_chain HB3.out hB4⟩

/-- A row of integers that is one's own, as a slice value's elements. -/
theorem ints_of {w : World} {B : Nat} {v : Value} {zs : List Int} (h : w.ownsRow B 3 1 v zs.length (zs.map (Value.int .i64))) : ∃ a cap, v = .slice a zs.length cap ∧ IntsAt w.heap.size w a zs.length zs := by
  have h' := h
  obtain ⟨hl, ⟨rfl, h0⟩ | ⟨g, cap, cur, rfl, hg, hb, hle, _, hc, ht⟩⟩ := h
  · exact ⟨none, 0, by rw [h0], rfl, .inl h0⟩
  · refine ⟨some ⟨g, 0, none⟩, cap, rfl, rfl, .inr ⟨g, 0, rfl, (Array.getElem?_eq_some_iff.1 hb).1, ?_⟩⟩
    intro i hi
    have := h'.cellAt i (by omega)
    rw [Nat.zero_add, this, List.getElem?_map, List.getElem?_eq_getElem hi]
    simp

namespace Utf
/-- The heads of two lists are the same up to k. -/
def Same (a b : List Int) (k : Nat) : Prop := lexLt a b = lexLt (a.drop k) (b.drop k)
theorem Same.at_end {a b : List Int} {k : Nat} (h : Same a b k) (hk : b.length ≤ k) : lexLt a b = false := by
  rw [h, lex_end a b k hk]
theorem Same.short {a b : List Int} {k : Nat} (h : Same a b k) (hk : k < b.length) (ha : a.length ≤ k) : lexLt a b = true := by
  rw [h, lex_step a b k hk, dif_neg (by omega)]
theorem Same.lt {a b : List Int} {k : Nat} (h : Same a b k) (hk : k < b.length) (ha : k < a.length) (hl : a[k]?.getD 0 < b[k]?.getD 0) : lexLt a b = true := by
  simp only [List.getElem?_eq_getElem hk, List.getElem?_eq_getElem ha, Option.getD_some] at hl
  rw [h, lex_step a b k hk, dif_pos ha]
  simp [hl]
theorem Same.gt {a b : List Int} {k : Nat} (h : Same a b k) (hk : k < b.length) (ha : k < a.length) (hl : b[k]?.getD 0 < a[k]?.getD 0) : lexLt a b = false := by
  simp only [List.getElem?_eq_getElem hk, List.getElem?_eq_getElem ha, Option.getD_some] at hl
  rw [h, lex_step a b k hk, dif_pos ha]
  have h1 : ¬ a[k] < b[k] := by omega
  have h2 : ¬ a[k] = b[k] := by omega
  simp [h1, h2]
theorem Same.next {a b : List Int} {k : Nat} (h : Same a b k) (hk : k < b.length) (ha : k < a.length) (hl : a[k]?.getD 0 = b[k]?.getD 0) : Same a b (k + 1) := by
  simp only [List.getElem?_eq_getElem hk, List.getElem?_eq_getElem ha, Option.getD_some] at hl
  unfold Same at *
  rw [h, lex_step a b k hk, dif_pos ha]
  simp [hl]
end Utf

set_option maxRecDepth 100000 in
set_option maxHeartbeats 4000000 in
theorem utfMeans_yes (r : Int) (s t : ByteArray) (w : World) (hs : s.size ≤ 3000) (ht : t.size ≤ 3000) (hv1 : valid (bs s) = true) (hv2 : valid (bs t) = true) :
    Calls Try.prog 6 #[.int .i64 r, .string s, .string t] w fun e w' => e = .returned (.bool true) ∧ Below w.heap.size w w' := by
  have d1 : decide ((3000 : Int) < (s.size : Int)) = false := by simp; omega
  have d2 : decide ((3000 : Int) < (t.size : Int)) = false := by simp; omega
  have HV1 := Lib.hid (fun w => valid_yes s w (by omega) hv1)
  have HV2 := Lib.hid (fun w => valid_yes t w (by omega) hv2)
  have HA := Lib.hid (fun w => lawrunes_any s (by omega) w)
  have HC := Lib.hid (fun w => lawrunes_any t (by omega) w)
  have HMA : Hid (AllMay (vals (allR (bs s)))) := (vals_of (by rw [bs_length]; omega) hv1).1
  have HE : Hid (strOfNums (encs (vals (allR (bs s)))) = s) := by
    have := (vals_of (by rw [bs_length]; omega) hv1).2
    show strOfNums (encs (vals (allR (bs s)))) = s
    unfold vals
    rw [this, strOfNums_bs]
  have HLX : Hid (lexLt (vals (allR (bs s))) (vals (allR (bs t))) = Op.bytesLess s.toList t.toList) := by
    obtain ⟨a1, a2⟩ := vals_of (by rw [bs_length]; omega) hv1
    obtain ⟨b1, b2⟩ := vals_of (by rw [bs_length]; omega) hv2
    show lexLt (vals (allR (bs s))) (vals (allR (bs t))) = _
    unfold vals
    rw [← lex_encs _ _ a1 b1, a2, b2, bytesLess_lex, toList_eq, toList_eq]
    rfl
  clear hv1 hv2
  by_cases hr : May r
  · have HG := Lib.hid (fun w => get_put r s w hr (by omega))
    have HP := Lib.hid (fun w => put_any r w hr)
    have HN := Lib.hid (rsize_pos.2 hr)
    clear hr
    go_enter Try.func6, Try.ntmps6
    go_wp2_with (go_at_call 8; refine (known_any _).mono ?_; rintro e w1 ⟨rfl, hB1⟩)
    refine (HP.out _).mono ?_
    rintro e w2 ⟨v, rfl, hown, hB2⟩
    obtain ⟨g, cp, rfl, hg, hl, hx, hcell⟩ := owns_some hown HN.out
    have hcv := owns_string (cap := cp) (w' := w2) hx hcell hl (Below.refl _ _)
    have HB := Lib.hid (below_chain hB1 hB2)
    clear hown hcell hx hg hl hB1 hB2
    have hss : (strOfNums (enc r)).size + s.size ≤ 9223372036854775807 := by rw [strOfNums_size]; have := enc_len r; omega
    go_wp2_with (first | (go_at_call 12; refine (num_any _ _).mono ?_; rintro e w' ⟨rfl, rfl⟩) | (go_at_call 10; refine (HG.out _).mono ?_; rintro e w' ⟨rfl, rfl⟩))
    refine (HV1.out _).mono ?_
    rintro e w3 ⟨rfl, hB3⟩
    have HB3 := Lib.hid (below_chain HB.out hB3)
    clear hB3 hcv hss
    go_wp2_with fail
    refine (HV2.out _).mono ?_
    rintro e w4 ⟨rfl, hB4⟩
    have HB4 := Lib.hid (below_chain HB3.out hB4)
    clear hB4 HB HB3
    go_wp2_with fail
    refine (HA.out _).mono ?_
    rintro e w5 ⟨va, rfl, howna, hB5⟩
    go_wp2_with fail
    refine (HC.out _).mono ?_
    rintro e w6 ⟨vb, rfl, hownb, hB6⟩
    have hia := ints_of howna
    have hib := ints_of hownb
    obtain ⟨aa, ca, rfl, hia⟩ := hia
    obtain ⟨ab, cb, rfl, hib⟩ := hib
    have HIB := Lib.hid hib
    have HIA := Lib.hid ((hia.below hB6).mono hB6.size)
    have HO := Lib.hid (of_any aa (vals (allR (bs s))).length ca (vals (allR (bs s))) w6 HIA.out (by rw [vals_length]; have := restR_length (bs s).length 0 (bs s); rw [bs_length] at this; unfold allR; rw [bs_length]; omega))
    have HB6 := Lib.hid (below_chain HB4.out (below_chain hB5 hB6))
    clear howna hownb hia hib hB5 hB6
    go_wp2_with fail
    refine HO.out.mono ?_
    rintro e w7 ⟨⟨_, rfl⟩ | ⟨h, _⟩, hB7⟩
    rotate_left
    · exact (h HMA.out).elim
    have HB7 := Lib.hid (below_chain HB6.out hB7)
    have HIA7 := Lib.hid ((HIA.out.below hB7).mono hB7.size)
    have HIB7 := Lib.hid ((HIB.out.below hB7).mono hB7.size)
    clear hB7
    rw [HE.out]
    go_wp2_with (go_at_call 12; refine (num_any _ _).mono ?_; rintro e w' ⟨rfl, rfl⟩)
    have hLB9 : (vals (allR (bs t))).length ≤ 9000 := by rw [vals_length]; have := restR_length (bs t).length 0 (bs t); unfold allR; rw [bs_length] at this ⊢; omega
    generalize hA : vals (allR (bs s)) = A at *
    generalize hBv : vals (allR (bs t)) = Bv at *
    clear hA hBv HA HC HMA HO HE HIA HIB
    obtain ⟨LA, hLA⟩ : ∃ n, A.length = n := ⟨_, rfl⟩
    obtain ⟨LB, hLB⟩ : ∃ n, Bv.length = n := ⟨_, rfl⟩
    rw [hLA] at HIA7 ⊢
    rw [hLB] at HIB7 hLB9 ⊢
    have HLA := Lib.hid hLA
    have HLB := Lib.hid hLB
    clear hLA hLB
    go_loopw [16, 17] (fun g i wr => ∃ k : Nat, k ≤ LB ∧ i = .int .i64 k ∧ g = .bool false ∧ Same A Bv k ∧ Below w7.heap.size w7 wr) (fun _ i _ => LB - (intOf i).toNat)
    case atStart => exact ⟨0, by omega, rfl, rfl, rfl, Below.refl _ _⟩
    case round =>
      obtain ⟨k, hk, rfl, rfl, HS, hB⟩ := hrel
      have HBr := Lib.hid (below_chain HB7.out hB)
      by_cases hlt : k < LB
      · obtain ⟨gb, ob, rfl, hgb, hcb⟩ : ∃ b off, ab = some ⟨b, off, none⟩ ∧ b < w7.heap.size ∧ ∀ i, i < LB → w7.cell? ⟨b, off + i, none⟩ = some (.int .i64 (Bv[i]?.getD 0)) := by
          rcases HIB7.out.2 with h0 | ⟨b, off, h1, h2, h3⟩
          · omega
          · exact ⟨b, off, h1, h2, h3⟩
        have qb := (hB.cell (p := ⟨gb, ob + k, none⟩) hgb).trans (hcb k hlt)
        clear hcb
        by_cases hla : k < LA
        · obtain ⟨ga, oa, rfl, hga, hca⟩ : ∃ b off, aa = some ⟨b, off, none⟩ ∧ b < w7.heap.size ∧ ∀ i, i < LA → w7.cell? ⟨b, off + i, none⟩ = some (.int .i64 (A[i]?.getD 0)) := by
            rcases HIA7.out.2 with h0 | ⟨b, off, h1, h2, h3⟩
            · omega
            · exact ⟨b, off, h1, h2, h3⟩
          have qa := (hB.cell (p := ⟨ga, oa + k, none⟩) hga).trans (hca k hla)
          clear hca
          have HN := Lib.hid (fun h => HS.next (by have := HLB.out; omega) (by have := HLA.out; omega) h)
          have HT := Lib.hid (fun h => HS.lt (by have := HLB.out; omega) (by have := HLA.out; omega) h)
          have HU := Lib.hid (fun h => HS.gt (by have := HLB.out; omega) (by have := HLA.out; omega) h)
          generalize hx : A[k]?.getD 0 = x at *
          generalize hy : Bv[k]?.getD 0 = y at *
          clear hx hy HS
          have dg : decide (LA ≤ k) = false := by simp; omega
          have dg2 : decide ((LA : Int) ≤ (k : Int)) = false := by simp; omega
          rcases Int.lt_trichotomy x y with hl | rfl | hl
          · have hF : Op.bytesLess s.toList t.toList = true := by rw [← HLX.out]; exact HT.out hl
            clear HN HT HU
            go_wp2_with fail
            go_quiet (fail)
            go_wp2_with fail
            go_ret
            exact ⟨rfl, HBr.out.trans (below_drewN _ _ _)⟩
          · clear HT HU
            have dx : decide (x < x) = false := by simp
            go_wp2_with fail
            go_quiet (fail)
            go_wp2_with fail
            go_quiet (fail)
            go_wp2_with fail
            go_roundw
            case rel => exact ⟨k + 1, by omega, by simp, rfl, HN.out (by simp), hB.trans (below_drewN _ _ _)⟩
            case measure => simp [intOf]; omega
          · have hF : Op.bytesLess s.toList t.toList = false := by rw [← HLX.out]; exact HU.out hl
            clear HN HT HU
            have dx : decide (x < y) = false := by simp; omega
            go_wp2_with fail
            go_quiet (fail)
            go_wp2_with fail
            go_quiet (fail)
            go_wp2_with fail
            go_ret
            exact ⟨rfl, HBr.out.trans (below_drewN _ _ _)⟩
        · have HT := Lib.hid (HS.short (by have := HLB.out; omega) (by have := HLA.out; omega))
          have hF : Op.bytesLess s.toList t.toList = true := by rw [← HLX.out]; exact HT.out
          clear HS HT
          have dg : decide (LA ≤ k) = true := by simp; omega
          have dg2 : decide ((LA : Int) ≤ (k : Int)) = true := by simp; omega
          go_wp2_with fail
          go_quiet (fail)
          go_wp2_with fail
          go_ret
          exact ⟨rfl, HBr.out.trans (below_drewN _ _ _)⟩
      · obtain rfl : k = LB := by omega
        have HF : Hid (Op.bytesLess s.toList t.toList = false) := by rw [Hid, ← HLX.out]; exact HS.at_end (by have := HLB.out; omega)
        have hF := HF.out
        go_wp2_with fail
        go_ret
        exact ⟨rfl, HBr.out⟩
  · have HP := Lib.hid (fun w => put_none r w hr)
    clear hr
    go_enter Try.func6, Try.ntmps6
    go_wp2_with (go_at_call 8; refine (known_any _).mono ?_; rintro e w1 ⟨rfl, hB1⟩)
    refine (HP.out _).mono ?_
    rintro e w2 ⟨rfl, hB2⟩
    have HB := Lib.hid (below_chain hB1 hB2)
    clear hB1 hB2
    go_wp2_with (go_at_call 12; refine (num_any _ _).mono ?_; rintro e w' ⟨rfl, rfl⟩)
    refine (HV1.out _).mono ?_
    rintro e w3 ⟨rfl, hB3⟩
    have HB3 := Lib.hid (below_chain HB.out hB3)
    clear hB3
    go_wp2_with fail
    refine (HV2.out _).mono ?_
    rintro e w4 ⟨rfl, hB4⟩
    have HB4 := Lib.hid (below_chain HB3.out hB4)
    clear hB4 HB HB3
    go_wp2_with fail
    refine (HA.out _).mono ?_
    rintro e w5 ⟨va, rfl, howna, hB5⟩
    go_wp2_with fail
    refine (HC.out _).mono ?_
    rintro e w6 ⟨vb, rfl, hownb, hB6⟩
    have hia := ints_of howna
    have hib := ints_of hownb
    obtain ⟨aa, ca, rfl, hia⟩ := hia
    obtain ⟨ab, cb, rfl, hib⟩ := hib
    have HIB := Lib.hid hib
    have HIA := Lib.hid ((hia.below hB6).mono hB6.size)
    have HO := Lib.hid (of_any aa (vals (allR (bs s))).length ca (vals (allR (bs s))) w6 HIA.out (by rw [vals_length]; have := restR_length (bs s).length 0 (bs s); rw [bs_length] at this; unfold allR; rw [bs_length]; omega))
    have HB6 := Lib.hid (below_chain HB4.out (below_chain hB5 hB6))
    clear howna hownb hia hib hB5 hB6
    go_wp2_with fail
    refine HO.out.mono ?_
    rintro e w7 ⟨⟨_, rfl⟩ | ⟨h, _⟩, hB7⟩
    rotate_left
    · exact (h HMA.out).elim
    have HB7 := Lib.hid (below_chain HB6.out hB7)
    have HIA7 := Lib.hid ((HIA.out.below hB7).mono hB7.size)
    have HIB7 := Lib.hid ((HIB.out.below hB7).mono hB7.size)
    clear hB7
    rw [HE.out]
    go_wp2_with (go_at_call 12; refine (num_any _ _).mono ?_; rintro e w' ⟨rfl, rfl⟩)
    have hLB9 : (vals (allR (bs t))).length ≤ 9000 := by rw [vals_length]; have := restR_length (bs t).length 0 (bs t); unfold allR; rw [bs_length] at this ⊢; omega
    generalize hA : vals (allR (bs s)) = A at *
    generalize hBv : vals (allR (bs t)) = Bv at *
    clear hA hBv HA HC HMA HO HE HIA HIB
    obtain ⟨LA, hLA⟩ : ∃ n, A.length = n := ⟨_, rfl⟩
    obtain ⟨LB, hLB⟩ : ∃ n, Bv.length = n := ⟨_, rfl⟩
    rw [hLA] at HIA7 ⊢
    rw [hLB] at HIB7 hLB9 ⊢
    have HLA := Lib.hid hLA
    have HLB := Lib.hid hLB
    clear hLA hLB
    go_loopw [16, 17] (fun g i wr => ∃ k : Nat, k ≤ LB ∧ i = .int .i64 k ∧ g = .bool false ∧ Same A Bv k ∧ Below w7.heap.size w7 wr) (fun _ i _ => LB - (intOf i).toNat)
    case atStart => exact ⟨0, by omega, rfl, rfl, rfl, Below.refl _ _⟩
    case round =>
      obtain ⟨k, hk, rfl, rfl, HS, hB⟩ := hrel
      have HBr := Lib.hid (below_chain HB7.out hB)
      by_cases hlt : k < LB
      · obtain ⟨gb, ob, rfl, hgb, hcb⟩ : ∃ b off, ab = some ⟨b, off, none⟩ ∧ b < w7.heap.size ∧ ∀ i, i < LB → w7.cell? ⟨b, off + i, none⟩ = some (.int .i64 (Bv[i]?.getD 0)) := by
          rcases HIB7.out.2 with h0 | ⟨b, off, h1, h2, h3⟩
          · omega
          · exact ⟨b, off, h1, h2, h3⟩
        have qb := (hB.cell (p := ⟨gb, ob + k, none⟩) hgb).trans (hcb k hlt)
        clear hcb
        by_cases hla : k < LA
        · obtain ⟨ga, oa, rfl, hga, hca⟩ : ∃ b off, aa = some ⟨b, off, none⟩ ∧ b < w7.heap.size ∧ ∀ i, i < LA → w7.cell? ⟨b, off + i, none⟩ = some (.int .i64 (A[i]?.getD 0)) := by
            rcases HIA7.out.2 with h0 | ⟨b, off, h1, h2, h3⟩
            · omega
            · exact ⟨b, off, h1, h2, h3⟩
          have qa := (hB.cell (p := ⟨ga, oa + k, none⟩) hga).trans (hca k hla)
          clear hca
          have HN := Lib.hid (fun h => HS.next (by have := HLB.out; omega) (by have := HLA.out; omega) h)
          have HT := Lib.hid (fun h => HS.lt (by have := HLB.out; omega) (by have := HLA.out; omega) h)
          have HU := Lib.hid (fun h => HS.gt (by have := HLB.out; omega) (by have := HLA.out; omega) h)
          generalize hx : A[k]?.getD 0 = x at *
          generalize hy : Bv[k]?.getD 0 = y at *
          clear hx hy HS
          have dg : decide (LA ≤ k) = false := by simp; omega
          have dg2 : decide ((LA : Int) ≤ (k : Int)) = false := by simp; omega
          rcases Int.lt_trichotomy x y with hl | rfl | hl
          · have hF : Op.bytesLess s.toList t.toList = true := by rw [← HLX.out]; exact HT.out hl
            clear HN HT HU
            go_wp2_with fail
            go_quiet (fail)
            go_wp2_with fail
            go_ret
            exact ⟨rfl, HBr.out.trans (below_drewN _ _ _)⟩
          · clear HT HU
            have dx : decide (x < x) = false := by simp
            go_wp2_with fail
            go_quiet (fail)
            go_wp2_with fail
            go_quiet (fail)
            go_wp2_with fail
            go_roundw
            case rel => exact ⟨k + 1, by omega, by simp, rfl, HN.out (by simp), hB.trans (below_drewN _ _ _)⟩
            case measure => simp [intOf]; omega
          · have hF : Op.bytesLess s.toList t.toList = false := by rw [← HLX.out]; exact HU.out hl
            clear HN HT HU
            have dx : decide (x < y) = false := by simp; omega
            go_wp2_with fail
            go_quiet (fail)
            go_wp2_with fail
            go_quiet (fail)
            go_wp2_with fail
            go_ret
            exact ⟨rfl, HBr.out.trans (below_drewN _ _ _)⟩
        · have HT := Lib.hid (HS.short (by have := HLB.out; omega) (by have := HLA.out; omega))
          have hF : Op.bytesLess s.toList t.toList = true := by rw [← HLX.out]; exact HT.out
          clear HS HT
          have dg : decide (LA ≤ k) = true := by simp; omega
          have dg2 : decide ((LA : Int) ≤ (k : Int)) = true := by simp; omega
          go_wp2_with fail
          go_quiet (fail)
          go_wp2_with fail
          go_ret
          exact ⟨rfl, HBr.out.trans (below_drewN _ _ _)⟩
      · obtain rfl : k = LB := by omega
        have HF : Hid (Op.bytesLess s.toList t.toList = false) := by rw [Hid, ← HLX.out]; exact HS.at_end (by have := HLB.out; omega)
        have hF := HF.out
        go_wp2_with fail
        go_ret
        exact ⟨rfl, HBr.out⟩

theorem utfMeans_walk (r : Int) (s t : ByteArray) (w : World) (_ : (Lit.int .i64 r).wf = true) (hm : s.size ≤ maxLen) (hmt : t.size ≤ maxLen) :
    Calls Try.prog 6 #[.int .i64 r, .string s, .string t] w fun e w' => e = .returned (.bool true) ∧ Below w.heap.size w w' := by
  unfold maxLen at hm hmt
  by_cases h : 3000 < s.size ∨ 3000 < t.size
  · exact utfMeans_long r s t w (by omega) (by omega) h
  · by_cases hv : valid (bs s) = false ∨ valid (bs t) = false
    · exact utfMeans_no r s t w (by omega) (by omega) rfl rfl hv
    · have h1 : valid (bs s) = true := by
        cases hh : valid (bs s)
        · exact (hv (.inl hh)).elim
        · rfl
      have h2 : valid (bs t) = true := by
        cases hh : valid (bs t)
        · exact (hv (.inr hh)).elim
        · rfl
      exact utfMeans_yes r s t w (by omega) (by omega) h1 h2
end Go.Proofs.Ythfflepgiikbjaa
