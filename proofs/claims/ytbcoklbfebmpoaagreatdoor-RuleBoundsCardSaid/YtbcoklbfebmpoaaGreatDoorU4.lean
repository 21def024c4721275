/-
  WHAT THE PROOF STANDS ON, a part of it: UtfGet, UtfOwn, UtfAdd.
-/
import Derived.Test.YtbcoklbfebmpoaaGreatDoorU3
import Derived.Deep.LoopGhost
/-
  THE CONTRACT OF utf.Get.
-/

namespace Go.Proofs.YtbcoklbfebmpoaaGreatDoor
open Go.RowKit
open Utf

/-- A scope whose one label lies ahead: the run goes on behind it, and jumps no more. -/
theorem wp_scope_ahead {P : Program} {a : Act} {w : World} {Q : Exit → Act → World → Prop} {c rest : Code} (l : Nat) (hf : findLabel c l = some rest)
    (first : c.wp P (Exit.jump l (fun a w => rest.wp P (Exit.noGoto Q) a w) Q) a w) : (Code.scope c).wp P Q a w := by
  refine wp_scope_jumps l _ (fun _ _ => 0) hf first ?_
  intro a w h
  refine wp_mono h ?_
  intro e a' w' hq
  cases e with
  | goto l' => exact hq.elim
  | _ => exact hq

namespace Utf
def gotten (l : List Int) : Ending := .returned (.tuple #[.int .i64 (dec l).1, .int .i64 ((dec l).2 : Nat), .int .i64 (getErr (dec l).2)])
theorem gotten_zero {l : List Int} (h : dec l = (0, 0)) : .returned (.tuple #[.int .i64 0, .int .i64 0, .int .i64 4]) = gotten l := by
  unfold gotten; rw [h]; rfl
end Utf

set_option maxHeartbeats 400000 in
theorem get_empty (s : ByteArray) (w : World) (h0 : s.size = 0) : Calls Tryz.prog 105 #[.string s] w fun e w' => e = gotten (bs s) ∧ w = w' := by
  have hs : s = ByteArray.empty := by
    apply ByteArray.ext
    apply Array.eq_empty_of_size_eq_zero
    exact h0
  subst hs
  have H := Lib.hid (gotten_zero (l := bs ByteArray.empty) rfl)
  go_enter Tryz.func105, Tryz.ntmps105
  go_wp2_with fail
  refine wp_scope_ahead 0 rfl ?_
  go_wp2_with (go_at_call 132; refine (first_nil _).mono ?_; rintro e w' ⟨rfl, rfl⟩)
  go_step3
  refine ⟨rfl, ?_⟩
  go_wp2
  try rw [Exit.noGoto_ret]
  go_ret3
  exact ⟨H.out, rfl⟩

set_option maxHeartbeats 400000 in
theorem get_short (s : ByteArray) (w : World) (h0 : 0 < s.size) (hs : s.size ≤ 9223372036854775807) {b0 : Int} {n : Nat} (hl : lead s[0].toNat = (b0, n)) (hn : n = 0 ∨ s.size < n) : Calls Tryz.prog 105 #[.string s] w fun e w' => e = gotten (bs s) ∧ w = w' := by
  have H := Lib.hid (gotten_zero (l := bs s) (by
    rw [bs_head s h0]
    exact dec_short hl (by have := bs_length s; rw [bs_head s h0] at this; simp at this ⊢; omega)))
  have HF := Lib.hid (first_any s w h0)
  have hb := (lead_bd (by have := byte_bd s[0]; exact this) hl).2.2
  rw [hl] at HF
  clear hl
  go_enter Tryz.func105, Tryz.ntmps105
  go_wp2_with fail
  refine wp_scope_ahead 0 rfl ?_
  rcases hn with rfl | hn
  · go_wp2_with (go_at_call 132; refine HF.out.mono ?_; rintro e w' ⟨rfl, rfl⟩)
    go_step3
    refine ⟨rfl, ?_⟩
    go_wp2
    try rw [Exit.noGoto_ret]
    go_ret3
    exact ⟨H.out, rfl⟩
  · have hn0 : ((n : Int) == 0) = false := by simp; omega
    go_wp2_with (go_at_call 132; refine HF.out.mono ?_; rintro e w' ⟨rfl, rfl⟩)
    go_step3
    refine ⟨rfl, ?_⟩
    go_wp2
    try rw [Exit.noGoto_ret]
    go_ret3
    exact ⟨H.out, rfl⟩

theorem fold_bd {b0 : Int} (hb : 0 ≤ b0 ∧ b0 ≤ 127) {l : List Int} : ∀ k, k ≤ 3 → (l.take k).all isCont = true → 0 ≤ fold b0 (l.take k) ∧ fold b0 (l.take k) ≤ 40000000 := by
  have step : ∀ k (B : Int), (0 ≤ fold b0 (l.take k) ∧ fold b0 (l.take k) ≤ B) → (l.take (k + 1)).all isCont = true → 63 ≤ B → 0 ≤ fold b0 (l.take (k + 1)) ∧ fold b0 (l.take (k + 1)) ≤ B * 64 + 63 := by
    intro k B h ha hB
    by_cases hk : k < l.length
    · have hd : l[k]? = some l[k] := List.getElem?_eq_getElem hk
      rw [fold_snoc b0 l k hd]
      rw [List.all_eq_true] at ha
      have := ha l[k] (List.mem_of_getElem? (i := k) (by rw [List.getElem?_take_of_lt (by omega)]; exact hd))
      rw [isCont_iff] at this
      omega
    · rw [List.take_of_length_le (by omega)]
      rw [List.take_of_length_le (by omega)] at h
      omega
  have le : ∀ k, (l.take (k + 1)).all isCont = true → (l.take k).all isCont = true := by
    intro k h
    rw [List.all_eq_true] at h ⊢
    intro x hx
    exact h x (List.mem_of_mem_take (by rw [List.take_take]; rw [show min k (k+1) = k by omega]; exact hx))
  intro k hk ha
  have h0 : 0 ≤ fold b0 (l.take 0) ∧ fold b0 (l.take 0) ≤ 127 := by simp [fold]; exact hb
  match k, hk, ha with
  | 0, _, _ => omega
  | 1, _, ha => have := step 0 127 h0 ha (by omega); simp only [Nat.zero_add] at this; omega
  | 2, _, ha =>
    have h1 := step 0 127 h0 (le _ ha) (by omega)
    have := step 1 _ h1 ha (by omega); simp only [Nat.reduceAdd] at this; omega
  | 3, _, ha =>
    have h1 := step 0 127 h0 (le _ (le _ ha)) (by omega)
    have h2 := step 1 _ h1 (le _ ha) (by omega)
    have := step 2 _ h2 ha (by omega); simp only [Nat.reduceAdd] at this; omega

def Conts (l : List Int) (k : Nat) : Prop := (l.take k).all isCont = true

set_option maxRecDepth 100000 in
set_option maxHeartbeats 1000000 in
theorem get_long (s : ByteArray) (w : World) (h0 : 0 < s.size) (hs : s.size ≤ 9223372036854775807) {b0 : Int} {n : Nat} (hl : lead s[0].toNat = (b0, n)) (hn : n ≠ 0) (hn2 : n ≤ s.size) : Calls Tryz.prog 105 #[.string s] w fun e w' => e = gotten (bs s) ∧ w = w' := by
  obtain ⟨hb0, hb1, hb⟩ := lead_bd (by have := byte_bd s[0]; exact this) hl
  have HF := Lib.hid (first_any s w h0)
  rw [hl] at HF
  have HL := Lib.hid hl
  clear hl
  obtain ⟨l, HB, hll⟩ : ∃ l : List Int, Hid (bs s = (s[0].toNat : Int) :: l) ∧ l.length + 1 = s.size := ⟨(bs s).tail, Lib.hid (bs_head s h0), by rw [List.length_tail, bs_length]; omega⟩
  have hget : ∀ k, (h : k + 1 < s.size) → l[k]? = some (s[k + 1].toNat : Int) := by
    intro k h
    have := bs_get s (k + 1) h
    rw [HB.out] at this
    simpa using this
  have HG := Lib.hid hget
  clear hget
  have hn0 : ((n : Int) == 0) = false := by simp; omega
  go_enter Tryz.func105, Tryz.ntmps105
  go_wp2_with fail
  refine wp_scope_ahead 0 rfl ?_
  go_wp2_with (go_at_call 132; refine HF.out.mono ?_; rintro e w' ⟨rfl, rfl⟩)
  go_loop [5, 7] (fun r i => ∃ k : Nat, k + 1 ≤ n ∧ i = .int .i64 ((k + 1 : Nat) : Int) ∧ r = .int .i64 (fold b0 (l.take k)) ∧ Conts l k) (fun _ i => n - (intOf i).toNat)
  case atStart => exact ⟨0, by omega, by simp, rfl, rfl⟩
  case round =>
    obtain ⟨k, hk, rfl, rfl, HA⟩ := hrel
    have hf := fold_bd (l := l) ⟨hb0, hb1⟩ k (by omega) HA
    obtain ⟨hf0, hf1⟩ := hf
    by_cases hlt : k + 1 < n
    · have hks : k + 1 < s.size := by omega
      have hg := HG.out k hks
      have HS := Lib.hid (fold_snoc b0 l k hg)
      have HX := Lib.hid hg
      clear hg
      go_wp2
      · go_step3
        refine ⟨rfl, ?_⟩
        go_wp2
        try rw [Exit.noGoto_ret]
        go_ret3
        have h1 : (s[k + 1].toNat : Int) < 128 := by assumption
        exact ⟨gotten_zero (by rw [HB.out]; exact dec_bad HL.out hlt HX.out (by simp [isCont]; omega)), rfl⟩
      · go_step3
        refine ⟨rfl, ?_⟩
        go_wp2
        try rw [Exit.noGoto_ret]
        go_ret3
        have h1 : 192 ≤ (s[k + 1].toNat : Int) := by assumption
        exact ⟨gotten_zero (by rw [HB.out]; exact dec_bad HL.out hlt HX.out (by simp [isCont]; omega)), rfl⟩
      · have h1 : (s[k + 1].toNat : Int) < 192 := by assumption
        have h2 : 128 ≤ (s[k + 1].toNat : Int) := by assumption
        go_round
        case rel => exact ⟨k + 1, by omega, by simp, HS.out.symm, all_snoc l k HX.out HA (by rw [isCont_iff]; omega)⟩
        case measure => simp [intOf]; omega
    · obtain rfl : n = k + 1 := by omega
      have hd := dec_done HL.out (by omega) (by omega) HA
      rw [← HB.out] at hd
      have HD := Lib.hid hd
      clear hd
      simp only [Nat.add_sub_cancel] at HD
      generalize hF : fold b0 (List.take k l) = F at *
      have HF2 := Lib.hid hF
      clear hF
      have HZ := Lib.hid (size_any F w)
      by_cases hsz : rsize F = k + 1
      · rw [if_pos hsz] at HD
        rw [hsz] at HZ
        clear hsz
        go_wp2_with (go_at_call 133; refine HZ.out.mono ?_; rintro e w' ⟨rfl, rfl⟩)
        simp only [Exit.jump]
        go_ret3
        refine ⟨?_, rfl⟩
        unfold gotten
        rw [HD.out]
        simp [getErr]
      · rw [if_neg hsz] at HD
        generalize rsize F = z at *
        have hne : ((z : Int) != (k : Int) + 1) = true := by rw [bne_iff_ne]; omega
        go_wp2_with (go_at_call 133; refine HZ.out.mono ?_; rintro e w' ⟨rfl, rfl⟩)
        go_step3
        refine ⟨rfl, ?_⟩
        go_wp2
        try rw [Exit.noGoto_ret]
        go_ret3
        exact ⟨gotten_zero HD.out, rfl⟩

theorem get_any (s : ByteArray) (w : World) (hs : s.size ≤ 9223372036854775807) : Calls Tryz.prog 105 #[.string s] w fun e w' => e = gotten (bs s) ∧ w = w' := by
  by_cases h0 : s.size = 0
  · exact get_empty s w h0
  · have h1 : 0 < s.size := by omega
    obtain ⟨b0, n, hl⟩ : ∃ b0 n, lead s[0].toNat = (b0, n) := ⟨_, _, rfl⟩
    by_cases hn : n = 0 ∨ s.size < n
    · exact get_short s w h1 hs hl hn
    · exact get_long s w h1 hs hl (by omega) (by omega)
end Go.Proofs.YtbcoklbfebmpoaaGreatDoor

/-
  LEMMAS on rows that a call makes.
-/

namespace Go.Proofs.YtbcoklbfebmpoaaGreatDoor
open Go.RowKit
open Utf

theorem info_u8 : (Tryz.prog.info? 5).map (fun i => (i.zero, i.size, i.bytes)) = some (some (.int .u8 0), 1, 1) := by kernel_rfl

theorem cells_new (w : World) (cs : Array Value) (t : TypeId) (news : List Value) (h : ∀ (j : Nat) (u : Value), news[j]? = some u → cs[j]? = some u) :
    ∀ (j : Nat) (u : Value), news[j]? = some u → (w.alloc (.cells cs t)).cell? ((⟨w.heap.size, 0, none⟩ : Addr).add j) = some u := by
  intro j u hj
  have e : (⟨w.heap.size, 0, none⟩ : Addr).add j = ⟨w.heap.size, j, none⟩ := by unfold Addr.add; split <;> simp_all
  rw [e, World.cell?_alloc_at _ _ _ _ rfl]
  exact h j u hj

theorem grown_alloc {w w' : World} {row : Option Nat} (o : Obj) (h : (w.alloc o).grownBy w' row) : w.grownBy w' row :=
  ⟨h.os, h.tape, h.output, Nat.le_trans (by simp) h.size, fun k hk hr => (h.block k (by simp; omega) hr).trans (Below.heap_alloc _ _ _ hk)⟩

theorem pre2 (a b c d : Value) : ∀ (j : Nat) (u : Value), [a, b][j]? = some u → #[a, b, c, d][j]? = some u := by
  intro j u h
  match j, h with
  | 0, h => exact h
  | 1, h => exact h
  | j + 2, h => simp at h
theorem pre1 (a b c d : Value) : ∀ (j : Nat) (u : Value), [a][j]? = some u → #[a, b, c, d][j]? = some u := by
  intro j u h
  match j, h with
  | 0, h => exact h
  | j + 1, h => simp at h
theorem pre3 (a b c d : Value) : ∀ (j : Nat) (u : Value), [a, b, c][j]? = some u → #[a, b, c, d][j]? = some u := by
  intro j u h
  match j, h with
  | 0, h => exact h
  | 1, h => exact h
  | 2, h => exact h
  | j + 3, h => simp at h
theorem pre4 (a b c d : Value) : ∀ (j : Nat) (u : Value), [a, b, c, d][j]? = some u → #[a, b, c, d][j]? = some u := by
  intro j u h
  simpa using h

theorem below_of_grown {w w' : World} (h : w.grownBy w' (Value.slice none 0 0).ownBlock) : Below w.heap.size w w' := (Below.refl _ _).grown h (Nat.le_refl _) (fun k e => by cases e)
end Go.Proofs.YtbcoklbfebmpoaaGreatDoor

/-
  THE CONTRACT OF utf.add, AND OF utf.Put.
-/

namespace Go.Proofs.YtbcoklbfebmpoaaGreatDoor
open Go.RowKit
open Utf

/-- What add does: the rune's bytes are appended. -/
def Added (w : World) (B : Nat) (v : Value) (n : Nat) (xs : List Int) (r : Int) (e : Ending) (w' : World) : Prop :=
  ∃ v', e = .returned (.tuple #[v', .int .i64 0]) ∧ w'.ownsRow B 5 1 v' (n + rsize r) ((xs ++ enc r).map (Value.int .u8)) ∧ w.grownBy w' v.ownBlock

theorem added_of {w : World} {B : Nat} {v : Value} {n : Nat} {xs : List Int} {r : Int} {v' : Value} {w' : World} {m : Nat} {news : List Value} {o : Obj} (hm : rsize r = m) (hn : news = (enc r).map (Value.int .u8))
    (h : w'.ownsRow B 5 1 v' (n + m) (xs.map (Value.int .u8) ++ news)) (hg : (w.alloc o).grownBy w' v.ownBlock) : Added w B v n xs r (.returned (.tuple #[v', .int .i64 0])) w' :=
  ⟨v', rfl, by rw [hm, List.map_append, ← hn]; exact h, grown_alloc o hg⟩

set_option maxRecDepth 100000 in
set_option maxHeartbeats 1000000 in
theorem add_one (r : Int) (w : World) (B : Nat) (hB : B ≤ w.heap.size) (v : Value) (n : Nat) (xs : List Int) (hown : w.ownsRow B 5 1 v n (xs.map (Value.int .u8))) (hn : n ≤ 1000000000000)
   (h0 : 0 ≤ r) (h1 : r ≤ 127) :
    Calls Tryz.prog 182 #[v, .int .i64 r] w (Added w B v n xs r) := by
  obtain ⟨i0, hi, hz0, hz1, hz2⟩ := info_parts info_u8
  have hr := rsize_eq.1.2 ⟨h0, h1⟩
  have HZ := Lib.hid (size_any r)
  rw [hr] at HZ
  have HR := Lib.hid hr
  clear hr
  go_enter Tryz.func182, Tryz.ntmps182
  go_wp2_with fail
  refine wp_scope_ahead 0 rfl ?_
  go_wp2_with (first | (go_at_call 133; refine (HZ.out _).mono ?_; rintro e w' ⟨rfl, rfl⟩) | (go_at_call 190; refine (mark_any 1 _).mono ?_; rw [show markOf 1 = 0 from rfl]; rintro e w' ⟨rfl, rfl⟩) | (at_builtin; refine wpList_append_own _ rfl _ _ 105 rfl B 5 i0 (.int .u8 0) 1 1 Tryz.underlying105 hi hz0 hz1 hz2 rfl (by decide) _ _ _ rfl (hown.alloc _) ⟨w.heap.size, 0, none⟩ 1 4 [.int .u8 r] rfl rfl (cells_new _ _ _ _ (pre1 _ _ _ _)) (by simp [Value.oneCell']) (by unfold maxLen; omega) (by omega) (by simp; omega) ?_; intro v' w' hown' hgrow _))
  simp only [Exit.jump]
  go_ret2
  exact added_of HR.out (by unfold enc; rw [if_pos h1]; rfl) hown' hgrow
set_option maxRecDepth 100000 in
set_option maxHeartbeats 1000000 in
theorem add_two (r : Int) (w : World) (B : Nat) (hB : B ≤ w.heap.size) (v : Value) (n : Nat) (xs : List Int) (hown : w.ownsRow B 5 1 v n (xs.map (Value.int .u8))) (hn : n ≤ 1000000000000)
   (h0 : 128 ≤ r) (h1 : r ≤ 2047) :
    Calls Tryz.prog 182 #[v, .int .i64 r] w (Added w B v n xs r) := by
  obtain ⟨i0, hi, hz0, hz1, hz2⟩ := info_parts info_u8
  have hr := rsize_eq.2.1.2 ⟨h0, h1⟩
  have HZ := Lib.hid (size_any r)
  rw [hr] at HZ
  have HR := Lib.hid hr
  clear hr
  go_enter Tryz.func182, Tryz.ntmps182
  go_wp2_with fail
  refine wp_scope_ahead 0 rfl ?_
  go_wp2_with (first | (go_at_call 133; refine (HZ.out _).mono ?_; rintro e w' ⟨rfl, rfl⟩) | (go_at_call 190; refine (mark_any 2 _).mono ?_; rw [show markOf 2 = 192 from rfl]; rintro e w' ⟨rfl, rfl⟩) | (at_builtin; refine wpList_append_own _ rfl _ _ 105 rfl B 5 i0 (.int .u8 0) 1 1 Tryz.underlying105 hi hz0 hz1 hz2 rfl (by decide) _ _ _ rfl (hown.alloc _) ⟨w.heap.size, 0, none⟩ 2 4 [.int .u8 (192 + r / 64), .int .u8 (128 + r % 64)] rfl rfl (cells_new _ _ _ _ (pre2 _ _ _ _)) (by simp [Value.oneCell']) (by unfold maxLen; omega) (by omega) (by simp; omega) ?_; intro v' w' hown' hgrow _))
  simp only [Exit.jump]
  go_ret2
  exact added_of HR.out (by unfold enc; rw [if_neg (by omega), if_pos h1]; rfl) hown' hgrow
set_option maxRecDepth 100000 in
set_option maxHeartbeats 1000000 in
theorem add_three (r : Int) (w : World) (B : Nat) (hB : B ≤ w.heap.size) (v : Value) (n : Nat) (xs : List Int) (hown : w.ownsRow B 5 1 v n (xs.map (Value.int .u8))) (hn : n ≤ 1000000000000)
   (h0 : 2048 ≤ r) (h1 : r ≤ 65535) (h2 : r < 55296 ∨ 57343 < r) :
    Calls Tryz.prog 182 #[v, .int .i64 r] w (Added w B v n xs r) := by
  obtain ⟨i0, hi, hz0, hz1, hz2⟩ := info_parts info_u8
  have hr := rsize_eq.2.2.1.2 ⟨h0, h1, h2⟩
  have HZ := Lib.hid (size_any r)
  rw [hr] at HZ
  have HR := Lib.hid hr
  clear hr h2
  go_enter Tryz.func182, Tryz.ntmps182
  go_wp2_with fail
  refine wp_scope_ahead 0 rfl ?_
  go_wp2_with (first | (go_at_call 133; refine (HZ.out _).mono ?_; rintro e w' ⟨rfl, rfl⟩) | (go_at_call 190; refine (mark_any 3 _).mono ?_; rw [show markOf 3 = 224 from rfl]; rintro e w' ⟨rfl, rfl⟩) | (at_builtin; refine wpList_append_own _ rfl _ _ 105 rfl B 5 i0 (.int .u8 0) 1 1 Tryz.underlying105 hi hz0 hz1 hz2 rfl (by decide) _ _ _ rfl (hown.alloc _) ⟨w.heap.size, 0, none⟩ 3 4 [.int .u8 (224 + r / 64 / 64), .int .u8 (128 + r / 64 % 64), .int .u8 (128 + r % 64)] rfl rfl (cells_new _ _ _ _ (pre3 _ _ _ _)) (by simp [Value.oneCell']) (by unfold maxLen; omega) (by omega) (by simp; omega) ?_; intro v' w' hown' hgrow _))
  simp only [Exit.jump]
  go_ret2
  exact added_of HR.out (by unfold enc; rw [if_neg (by omega), if_neg (by omega), if_pos h1, show r / 64 / 64 = r / 4096 by omega]; rfl) hown' hgrow
set_option maxRecDepth 100000 in
set_option maxHeartbeats 1000000 in
theorem add_four (r : Int) (w : World) (B : Nat) (hB : B ≤ w.heap.size) (v : Value) (n : Nat) (xs : List Int) (hown : w.ownsRow B 5 1 v n (xs.map (Value.int .u8))) (hn : n ≤ 1000000000000)
   (h0 : 65536 ≤ r) (h1 : r ≤ 1114111) :
    Calls Tryz.prog 182 #[v, .int .i64 r] w (Added w B v n xs r) := by
  obtain ⟨i0, hi, hz0, hz1, hz2⟩ := info_parts info_u8
  have hr := rsize_eq.2.2.2.2 ⟨h0, h1⟩
  have HZ := Lib.hid (size_any r)
  rw [hr] at HZ
  have HR := Lib.hid hr
  clear hr
  go_enter Tryz.func182, Tryz.ntmps182
  go_wp2_with fail
  refine wp_scope_ahead 0 rfl ?_
  go_wp2_with (first | (go_at_call 133; refine (HZ.out _).mono ?_; rintro e w' ⟨rfl, rfl⟩) | (go_at_call 190; refine (mark_any 4 _).mono ?_; rw [show markOf 4 = 240 from rfl]; rintro e w' ⟨rfl, rfl⟩) | (at_builtin; refine wpList_append_own _ rfl _ _ 105 rfl B 5 i0 (.int .u8 0) 1 1 Tryz.underlying105 hi hz0 hz1 hz2 rfl (by decide) _ _ _ rfl (hown.alloc _) ⟨w.heap.size, 0, none⟩ 4 4 [.int .u8 (240 + r / 64 / 64 / 64), .int .u8 (128 + r / 64 / 64 % 64), .int .u8 (128 + r / 64 % 64), .int .u8 (128 + r % 64)] rfl rfl (cells_new _ _ _ _ (pre4 _ _ _ _)) (by simp [Value.oneCell']) (by unfold maxLen; omega) (by omega) (by simp; omega) ?_; intro v' w' hown' hgrow _))
  simp only [Exit.jump]
  go_ret2
  exact added_of HR.out (by unfold enc; rw [if_neg (by omega), if_neg (by omega), if_neg (by omega), show r / 64 / 64 = r / 4096 by omega, show r / 4096 / 64 = r / 262144 by omega]; rfl) hown' hgrow
set_option maxHeartbeats 400000 in
theorem add_none (r : Int) (w : World) (v : Value) (h : ¬ May r) :
    Calls Tryz.prog 182 #[v, .int .i64 r] w fun e w' => e = .returned (.tuple #[.slice none 0 0, .int .i64 2]) ∧ w' = w.alloc (.cells #[.int .u8 0, .int .u8 0, .int .u8 0, .int .u8 0] 215) := by
  have hr : rsize r = 0 := Nat.eq_zero_of_not_pos fun hp => h (rsize_pos.1 hp)
  have HZ := Lib.hid (size_any r)
  rw [hr] at HZ
  clear hr
  go_enter Tryz.func182, Tryz.ntmps182
  go_wp2_with fail
  refine wp_scope_ahead 0 rfl ?_
  go_wp2_with (go_at_call 133; refine (HZ.out _).mono ?_; rintro e w' ⟨rfl, rfl⟩)
  go_step3
  refine ⟨rfl, ?_⟩
  go_wp2
  try rw [Exit.noGoto_ret]
  go_ret2
  exact ⟨rfl, rfl⟩

theorem add_any (r : Int) (w : World) (B : Nat) (hB : B ≤ w.heap.size) (v : Value) (n : Nat) (xs : List Int) (hown : w.ownsRow B 5 1 v n (xs.map (Value.int .u8))) (hn : n ≤ 1000000000000) (h : May r) :
    Calls Tryz.prog 182 #[v, .int .i64 r] w (Added w B v n xs r) := by
  unfold May at h
  by_cases h1 : r ≤ 127
  · exact add_one r w B hB v n xs hown hn h.1 h1
  by_cases h2 : r ≤ 2047
  · exact add_two r w B hB v n xs hown hn (by omega) h2
  by_cases h3 : r ≤ 65535
  · exact add_three r w B hB v n xs hown hn (by omega) h3 h.2.2
  · exact add_four r w B hB v n xs hown hn (by omega) (by omega)

/-- What Put hands back: a row of its own with the rune's bytes. -/
def PutDone (w : World) (r : Int) (e : Ending) (w' : World) : Prop :=
  ∃ v', e = .returned (.tuple #[v', .int .i64 0]) ∧ w'.ownsRow w.heap.size 5 1 v' (rsize r) ((enc r).map (Value.int .u8)) ∧ Below w.heap.size w w'


set_option maxHeartbeats 400000 in
theorem put_any (r : Int) (w : World) (h : May r) : Calls Tryz.prog 176 #[.int .i64 r] w (PutDone w r) := by
  have HA := Lib.hid (add_any r w w.heap.size (Nat.le_refl _) (.slice none 0 0) 0 [] (World.ownsRow_nil _ _ _ _) (by omega) h)
  clear h
  go_enter Tryz.func176, Tryz.ntmps176
  go_wp2_with (go_at_call 182; refine HA.out.mono ?_; rintro e w' ⟨v', rfl, hown, hg⟩)
  go_ret2
  exact ⟨v', rfl, by simpa using hown, below_of_grown hg⟩

set_option maxHeartbeats 400000 in
theorem put_none (r : Int) (w : World) (h : ¬ May r) : Calls Tryz.prog 176 #[.int .i64 r] w fun e w' => e = .returned (.tuple #[.slice none 0 0, .int .i64 2]) ∧ Below w.heap.size w w' := by
  have HA := Lib.hid (add_none r w (.slice none 0 0) h)
  clear h
  go_enter Tryz.func176, Tryz.ntmps176
  go_wp2_with (go_at_call 182; refine HA.out.mono ?_; rintro e w' ⟨rfl, rfl⟩)
  go_ret2
  exact ⟨rfl, (Below.refl _ _).alloc (Nat.le_refl _) _⟩

end Go.Proofs.YtbcoklbfebmpoaaGreatDoor

