/-
  THE CONTRACT OF Text.
-/
import Derived.Test.YtjpppfcbhkbbpaaDoorTermMay2
import Derived.Test.YtjpppfcbhkbbpaaDoorTermQuoted
namespace Go.Proofs.YtjpppfcbhkbbpaaDoor
open Go.RowKit
open Utf Term
set_option linter.unusedVariables false

theorem bs_app (a b : ByteArray) : bs (a ++ b) = bs a ++ bs b := by
  unfold bs
  simp

namespace Term
/-- A term's text. -/
def textL (k : Int) (t x : ByteArray) : List Int :=
  if k = 1 then 60 :: (bs t ++ [62]) else if k = 2 then 95 :: 58 :: bs t else if k = 4 then quoteL (bs t) ++ 64 :: bs x
  else if k = 5 then quoteL (bs t) ++ 94 :: 94 :: 60 :: (bs x ++ [62]) else quoteL (bs t)
theorem quoteL_byte {l : List Int} (h : ∀ c ∈ l, IsByte c) : ∀ c ∈ quoteL l, IsByte c := by
  have h34 : IsByte 34 := ⟨by decide, by decide⟩
  intro c hc
  unfold quoteL at hc
  rcases List.mem_cons.1 hc with rfl | hc
  · exact h34
  · rcases List.mem_append.1 hc with hc | hc
    · obtain ⟨d, hd, hc⟩ := List.mem_flatMap.1 hc
      unfold shown at hc
      split at hc
      · simp at hc; rw [hc]; exact h d hd
      · rename_i he
        have hl := esc_low he
        have hall : ∀ r : Fin 128, ∀ c ∈ esc (r.val : Nat), 0 ≤ c ∧ c ≤ 255 := by decide +kernel
        obtain ⟨a, ha⟩ := Int.eq_ofNat_of_zero_le (h d hd).1
        rw [ha] at hc
        exact hall ⟨a, by omega⟩ c hc
    · simp at hc; subst hc; exact h34
end Term

theorem bs_quote (s : ByteArray) : bs (strOfNums (quoteL (bs s))) = quoteL (bs s) := bs_strOfNums (quoteL_byte (bs_byte s))

set_option maxRecDepth 100000 in
set_option maxHeartbeats 2000000 in
theorem text_no (k : Int) (t x : ByteArray) (ht : t.size ≤ 1000000000000) (hx : x.size ≤ 1000000000000) (m : Int) (w : World) (hm : w.cell? ⟨0, 0, none⟩ = some (.int .i64 m)) (hk : mayS k t x = false) :
    Calls Tryd.prog 32 #[termV k t x] w fun e w' => e = .returned (.tuple #[.string ⟨#[]⟩, .int .i64 2]) ∧ Below w.heap.size w w' := by
  have hB1 : Below w.heap.size w (w.alloc (.cells #[.int .i64 k, .string t, .string x] 24)) := (Below.refl _ w).alloc (Nat.le_refl _) _
  have C := may_term k t x ht hx m _ ((hB1.cell (p := ⟨0, 0, none⟩) (World.block_lt_of_cell? _ _ hm)).trans hm)
  rw [hk] at C
  clear hk hm
  go_enter Tryd.func32, Tryd.ntmps32
  go_wp2_with (go_at_call 43; refine C.mono ?_; rintro e w2 ⟨rfl, hB2⟩)
  go_ret2
  exact ⟨rfl, hB1.trans (hB2.mono hB1.size)⟩

theorem box_cells2 {w w2 : World} {k : Int} {t x : ByteArray} (hB : Below (w.alloc (.cells #[.int .i64 k, .string t, .string x] 24)).heap.size (w.alloc (.cells #[.int .i64 k, .string t, .string x] 24)) w2) :
    w2.cell? ⟨w.heap.size, 0, none⟩ = some (.int .i64 k) ∧ w2.cell? ⟨w.heap.size, 1, none⟩ = some (.string t) ∧ w2.cell? ⟨w.heap.size, 2, none⟩ = some (.string x) := box_cells ⟨hB.os, hB.tape, hB.output, hB.size, hB.block⟩

theorem strOf_eq {S : ByteArray} {l : List Int} (h : bs S = l) : S = strOfNums l := by
  apply bs_inj
  rw [bs_strOfNums (by rw [← h]; exact bs_byte S), h]
theorem ret_st {a b : ByteArray} {v : Value} (h : a = b) : Ending.returned (.tuple #[.string a, v]) = .returned (.tuple #[.string b, v]) := by rw [h]
theorem quote_size (t : ByteArray) (ht : t.size ≤ 1000000000000) : (strOfNums (quoteL (bs t))).size ≤ 6000000000002 := by
  rw [strOfNums_size]
  unfold quoteL
  have h1 := shown_len (bs t)
  rw [bs_length] at h1
  simp only [List.length_cons, List.length_append, List.length_nil]
  omega
theorem text_below {w w2 w3 : World} {o : Obj} (hB : Below (w.alloc o).heap.size (w.alloc o) w2) (hB3 : Below w2.heap.size w2 w3) : Below w.heap.size w w3 := by
  have h1 : Below w.heap.size w (w.alloc o) := (Below.refl _ w).alloc (Nat.le_refl _) _
  have h2 := h1.trans (hB.mono h1.size)
  exact h2.trans (hB3.mono h2.size)
theorem cell_kept2 {w2 w3 : World} {a : Addr} {v : Value} (hB : Below w2.heap.size w2 w3) (h : w2.cell? a = some v) : w3.cell? a = some v := (hB.cell (World.block_lt_of_cell? _ _ h)).trans h

set_option maxRecDepth 100000 in
set_option maxHeartbeats 2000000 in
theorem text_1 (t x : ByteArray) (ht : t.size ≤ 1000000000000) (hx : x.size ≤ 1000000000000) (m : Int) (w : World) (hm : w.cell? ⟨0, 0, none⟩ = some (.int .i64 m)) (hk : mayS 1 t x = true) :
    Calls Tryd.prog 32 #[termV 1 t x] w fun e w' => e = .returned (.tuple #[.string (strOfNums (textL 1 t x)), .int .i64 0]) ∧ Below w.heap.size w w' := by
  have hB1 : Below w.heap.size w (w.alloc (.cells #[.int .i64 1, .string t, .string x] 24)) := (Below.refl _ w).alloc (Nat.le_refl _) _
  have C := may_term 1 t x ht hx m _ ((hB1.cell (p := ⟨0, 0, none⟩) (World.block_lt_of_cell? _ _ hm)).trans hm)
  rw [hk] at C
  clear hk hm
  go_enter Tryd.func32, Tryd.ntmps32
  go_wp2_with (go_at_call 43; refine C.mono ?_; rintro e w2 ⟨rfl, hB2⟩; obtain ⟨d0, d1, d2⟩ := box_cells2 hB2)
  go_ret2
  refine ⟨ret_st (strOf_eq ?_), text_below hB2 (Below.refl _ _)⟩
  rw [bs_app, bs_app]
  rfl
set_option maxRecDepth 100000 in
set_option maxHeartbeats 2000000 in
theorem text_2 (t x : ByteArray) (ht : t.size ≤ 1000000000000) (hx : x.size ≤ 1000000000000) (m : Int) (w : World) (hm : w.cell? ⟨0, 0, none⟩ = some (.int .i64 m)) (hk : mayS 2 t x = true) :
    Calls Tryd.prog 32 #[termV 2 t x] w fun e w' => e = .returned (.tuple #[.string (strOfNums (textL 2 t x)), .int .i64 0]) ∧ Below w.heap.size w w' := by
  have hB1 : Below w.heap.size w (w.alloc (.cells #[.int .i64 2, .string t, .string x] 24)) := (Below.refl _ w).alloc (Nat.le_refl _) _
  have C := may_term 2 t x ht hx m _ ((hB1.cell (p := ⟨0, 0, none⟩) (World.block_lt_of_cell? _ _ hm)).trans hm)
  rw [hk] at C
  clear hk hm
  go_enter Tryd.func32, Tryd.ntmps32
  go_wp2_with (go_at_call 43; refine C.mono ?_; rintro e w2 ⟨rfl, hB2⟩; obtain ⟨d0, d1, d2⟩ := box_cells2 hB2)
  go_ret2
  refine ⟨ret_st (strOf_eq ?_), text_below hB2 (Below.refl _ _)⟩
  rw [bs_app]
  rfl
set_option maxRecDepth 100000 in
set_option maxHeartbeats 2000000 in
theorem text_3 (t x : ByteArray) (ht : t.size ≤ 1000000000000) (hx : x.size ≤ 1000000000000) (m : Int) (w : World) (hm : w.cell? ⟨0, 0, none⟩ = some (.int .i64 m)) (hk : mayS 3 t x = true) :
    Calls Tryd.prog 32 #[termV 3 t x] w fun e w' => e = .returned (.tuple #[.string (strOfNums (textL 3 t x)), .int .i64 0]) ∧ Below w.heap.size w w' := by
  have hB1 : Below w.heap.size w (w.alloc (.cells #[.int .i64 3, .string t, .string x] 24)) := (Below.refl _ w).alloc (Nat.le_refl _) _
  have C := may_term 3 t x ht hx m _ ((hB1.cell (p := ⟨0, 0, none⟩) (World.block_lt_of_cell? _ _ hm)).trans hm)
  have hv : valid (bs t) = true := by
    have h0 : (noExtra x && isValueB (bs t)) = true := hk
    unfold isValueB at h0
    simp only [Bool.and_eq_true] at h0
    exact h0.2.2
  have CQ := fun W => quoted_any t ht hv W
  clear hv
  rw [hk] at C
  clear hk hm
  go_enter Tryd.func32, Tryd.ntmps32
  go_wp2_with (go_at_call 43; refine C.mono ?_; rintro e w2 ⟨rfl, hB2⟩; obtain ⟨d0, d1, d2⟩ := box_cells2 hB2)
  refine (CQ _).mono ?_
  rintro e w3 ⟨rfl, hB3⟩
  go_wp2
  go_ret2
  exact ⟨rfl, text_below hB2 hB3⟩
theorem below_of_drew {w w' : World} (h : Below w.drew.heap.size w.drew w') : Below w.heap.size w w' := ⟨h.os, h.tape, h.output, h.size, h.block⟩
set_option maxRecDepth 100000 in
set_option maxHeartbeats 2000000 in
theorem text_4 (t x : ByteArray) (ht : t.size ≤ 1000000000000) (hx : x.size ≤ 1000000000000) (m : Int) (w : World) (hm : w.cell? ⟨0, 0, none⟩ = some (.int .i64 m)) (hk : mayS 4 t x = true) :
    Calls Tryd.prog 32 #[termV 4 t x] w fun e w' => e = .returned (.tuple #[.string (strOfNums (textL 4 t x)), .int .i64 0]) ∧ Below w.heap.size w w' := by
  have hB1 : Below w.heap.size w (w.alloc (.cells #[.int .i64 4, .string t, .string x] 24)) := (Below.refl _ w).alloc (Nat.le_refl _) _
  have C := may_term 4 t x ht hx m _ ((hB1.cell (p := ⟨0, 0, none⟩) (World.block_lt_of_cell? _ _ hm)).trans hm)
  have hv : valid (bs t) = true := by
    have h0 : (isTagS x && isValueB (bs t)) = true := hk
    unfold isValueB at h0
    simp only [Bool.and_eq_true] at h0
    exact h0.2.2
  have CQ := fun W => quoted_any t ht hv W
  clear hv
  rw [hk] at C
  clear hk hm
  have hq := quote_size t ht
  have HQ := Lib.hid (bs_quote t)
  generalize strOfNums (quoteL (bs t)) = Q at *
  go_enter Tryd.func32, Tryd.ntmps32
  go_wp2_with (go_at_call 43; refine C.mono ?_; rintro e w2 ⟨rfl, hB2⟩; obtain ⟨d0, d1, d2⟩ := box_cells2 hB2)
  go_region_with (go_at_call 54; refine (CQ _).mono ?_; rintro e w3 ⟨rfl, hB3⟩; have q0 := cell_kept2 hB3 d0; have q1 := cell_kept2 hB3 d1; have q2 := cell_kept2 hB3 d2)
  all_goals
    go_wp2
    go_ret2
    refine ⟨ret_st (strOf_eq ?_), text_below hB2 (below_of_drew hB3)⟩
    rw [bs_app, bs_app, HQ.out]
    show _ ++ [64] ++ _ = quoteL (bs t) ++ 64 :: bs x
    simp
set_option maxRecDepth 100000 in
set_option maxHeartbeats 2000000 in
theorem text_5 (t x : ByteArray) (ht : t.size ≤ 1000000000000) (hx : x.size ≤ 1000000000000) (m : Int) (w : World) (hm : w.cell? ⟨0, 0, none⟩ = some (.int .i64 m)) (hk : mayS 5 t x = true) :
    Calls Tryd.prog 32 #[termV 5 t x] w fun e w' => e = .returned (.tuple #[.string (strOfNums (textL 5 t x)), .int .i64 0]) ∧ Below w.heap.size w w' := by
  have hB1 : Below w.heap.size w (w.alloc (.cells #[.int .i64 5, .string t, .string x] 24)) := (Below.refl _ w).alloc (Nat.le_refl _) _
  have C := may_term 5 t x ht hx m _ ((hB1.cell (p := ⟨0, 0, none⟩) (World.block_lt_of_cell? _ _ hm)).trans hm)
  have hv : valid (bs t) = true := by
    have h0 : (isTypeB (bs x) && isValueB (bs t)) = true := hk
    unfold isValueB at h0
    simp only [Bool.and_eq_true] at h0
    exact h0.2.2
  have CQ := fun W => quoted_any t ht hv W
  clear hv
  rw [hk] at C
  clear hk hm
  have hq := quote_size t ht
  have HQ := Lib.hid (bs_quote t)
  generalize strOfNums (quoteL (bs t)) = Q at *
  go_enter Tryd.func32, Tryd.ntmps32
  go_wp2_with (go_at_call 43; refine C.mono ?_; rintro e w2 ⟨rfl, hB2⟩; obtain ⟨d0, d1, d2⟩ := box_cells2 hB2)
  go_region_with (go_at_call 54; refine (CQ _).mono ?_; rintro e w3 ⟨rfl, hB3⟩; have q0 := cell_kept2 hB3 d0; have q1 := cell_kept2 hB3 d1; have q2 := cell_kept2 hB3 d2)
  all_goals
    go_wp2
    go_ret2
    refine ⟨ret_st (strOf_eq ?_), text_below hB2 (below_of_drew hB3)⟩
    rw [bs_app, bs_app, bs_app, HQ.out]
    show _ ++ [94, 94, 60] ++ _ ++ [62] = quoteL (bs t) ++ 94 :: 94 :: 60 :: (bs x ++ [62])
    simp

/-- A term's text, or none. -/
def TextDone (k : Int) (t x : ByteArray) : Ending := if mayS k t x then .returned (.tuple #[.string (strOfNums (textL k t x)), .int .i64 0]) else .returned (.tuple #[.string ⟨#[]⟩, .int .i64 2])
theorem text_any (k : Int) (t x : ByteArray) (ht : t.size ≤ 1000000000000) (hx : x.size ≤ 1000000000000) (m : Int) (w : World) (hm : w.cell? ⟨0, 0, none⟩ = some (.int .i64 m)) :
    Calls Tryd.prog 32 #[termV k t x] w fun e w' => e = TextDone k t x ∧ Below w.heap.size w w' := by
  unfold TextDone
  cases hk : mayS k t x with
  | false => exact text_no k t x ht hx m w hm hk
  | true =>
    by_cases h1 : k = 1
    · subst h1; exact text_1 t x ht hx m w hm hk
    · by_cases h2 : k = 2
      · subst h2; exact text_2 t x ht hx m w hm hk
      · by_cases h3 : k = 3
        · subst h3; exact text_3 t x ht hx m w hm hk
        · by_cases h4 : k = 4
          · subst h4; exact text_4 t x ht hx m w hm hk
          · by_cases h5 : k = 5
            · subst h5; exact text_5 t x ht hx m w hm hk
            · unfold mayS at hk
              rw [if_neg h1, if_neg h2, if_neg h3, if_neg h4, if_neg h5] at hk
              cases hk
end Go.Proofs.YtjpppfcbhkbbpaaDoor
