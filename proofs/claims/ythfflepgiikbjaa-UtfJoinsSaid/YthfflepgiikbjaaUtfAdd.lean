/-
  THE CONTRACT OF utf.add, AND OF utf.Put.
-/
import Derived.Test.YthfflepgiikbjaaUtfGet
namespace Go.Proofs.Ythfflepgiikbjaa
open Go.RowKit
open Utf

theorem info_u8 : (Try.prog.info? 5).map (fun i => (i.zero, i.size, i.bytes)) = some (some (.int .u8 0), 1, 1) := by kernel_rfl

theorem cells_new (w : World) (cs : Array Value) (t : TypeId) (news : List Value) (h : ∀ (j : Nat) (u : Value), news[j]? = some u → cs[j]? = some u) :
    ∀ (j : Nat) (u : Value), news[j]? = some u → (w.alloc (.cells cs t)).cell? ((⟨w.heap.size, 0, none⟩ : Addr).add j) = some u := by
  intro j u hj
  have e : (⟨w.heap.size, 0, none⟩ : Addr).add j = ⟨w.heap.size, j, none⟩ := by unfold Addr.add; split <;> simp_all
  rw [e, World.cell?_alloc_at _ _ _ _ rfl]
  exact h j u hj

theorem grown_alloc {w w' : World} {row : Option Nat} (o : Obj) (h : (w.alloc o).grownBy w' row) : w.grownBy w' row :=
  ⟨h.os, h.tape, h.output, Nat.le_trans (by simp) h.size, fun k hk hr => (h.block k (by simp; omega) hr).trans (Below.heap_alloc _ _ _ hk)⟩

theorem pre2 (a b c d : Value) : ∀ (j : Nat) (u : Value), [a, b][j]? = some u → #[a, b, c, d][j]? = some u := by
  intro j u h
  match j, h with
  | 0, h => exact h
  | 1, h => exact h
  | j + 2, h => simp at h
theorem pre1 (a b c d : Value) : ∀ (j : Nat) (u : Value), [a][j]? = some u → #[a, b, c, d][j]? = some u := by
  intro j u h
  match j, h with
  | 0, h => exact h
  | j + 1, h => simp at h
theorem pre3 (a b c d : Value) : ∀ (j : Nat) (u : Value), [a, b, c][j]? = some u → #[a, b, c, d][j]? = some u := by
  intro j u h
  match j, h with
  | 0, h => exact h
  | 1, h => exact h
  | 2, h => exact h
  | j + 3, h => simp at h
theorem pre4 (a b c d : Value) : ∀ (j : Nat) (u : Value), [a, b, c, d][j]? = some u → #[a, b, c, d][j]? = some u := by
  intro j u h
  simpa using h

/-- What add does: the rune's bytes are appended. -/
def Added (w : World) (B : Nat) (v : Value) (n : Nat) (xs : List Int) (r : Int) (e : Ending) (w' : World) : Prop :=
  ∃ v', e = .returned (.tuple #[v', .int .i64 0]) ∧ w'.ownsRow B 5 1 v' (n + rsize r) ((xs ++ enc r).map (Value.int .u8)) ∧ w.grownBy w' v.ownBlock

theorem added_of {w : World} {B : Nat} {v : Value} {n : Nat} {xs : List Int} {r : Int} {v' : Value} {w' : World} {m : Nat} {news : List Value} {o : Obj} (hm : rsize r = m) (hn : news = (enc r).map (Value.int .u8))
    (h : w'.ownsRow B 5 1 v' (n + m) (xs.map (Value.int .u8) ++ news)) (hg : (w.alloc o).grownBy w' v.ownBlock) : Added w B v n xs r (.returned (.tuple #[v', .int .i64 0])) w' :=
  ⟨v', rfl, by rw [hm, List.map_append, ← hn]; exact h, grown_alloc o hg⟩

set_option maxRecDepth 100000 in
set_option maxHeartbeats 1000000 in
theorem add_one (r : Int) (w : World) (B : Nat) (hB : B ≤ w.heap.size) (v : Value) (n : Nat) (xs : List Int) (hown : w.ownsRow B 5 1 v n (xs.map (Value.int .u8))) (hn : n ≤ 1000000000000)
   (h0 : 0 ≤ r) (h1 : r ≤ 127) :
    Calls Try.prog 21 #[v, .int .i64 r] w (Added w B v n xs r) := by
  obtain ⟨i0, hi, hz0, hz1, hz2⟩ := info_parts info_u8
  have hr := rsize_eq.1.2 ⟨h0, h1⟩
  have HZ := Lib.hid (size_any r)
  rw [hr] at HZ
  have HR := Lib.hid hr
  clear hr
  go_enter Try.func21, Try.ntmps21
  go_wp2_with fail
  refine wp_scope_ahead 0 rfl ?_
  go_wp2_with (first | (go_at_call 23; refine (HZ.out _).mono ?_; rintro e w' ⟨rfl, rfl⟩) | (go_at_call 25; refine (mark_any 1 _).mono ?_; rw [show markOf 1 = 0 from rfl]; rintro e w' ⟨rfl, rfl⟩) | (at_builtin; refine wpList_append_own _ rfl _ _ 23 rfl B 5 i0 (.int .u8 0) 1 1 Try.underlying23 hi hz0 hz1 hz2 rfl (by decide) _ _ _ rfl (hown.alloc _) ⟨w.heap.size, 0, none⟩ 1 4 [.int .u8 r] rfl rfl (cells_new _ _ _ _ (pre1 _ _ _ _)) (by simp [Value.oneCell']) (by unfold maxLen; omega) (by omega) (by simp; omega) ?_; intro v' w' hown' hgrow _))
  simp only [Exit.jump]
  go_ret2
  exact added_of HR.out (by unfold enc; rw [if_pos h1]; rfl) hown' hgrow
set_option maxRecDepth 100000 in
set_option maxHeartbeats 1000000 in
theorem add_two (r : Int) (w : World) (B : Nat) (hB : B ≤ w.heap.size) (v : Value) (n : Nat) (xs : List Int) (hown : w.ownsRow B 5 1 v n (xs.map (Value.int .u8))) (hn : n ≤ 1000000000000)
   (h0 : 128 ≤ r) (h1 : r ≤ 2047) :
    Calls Try.prog 21 #[v, .int .i64 r] w (Added w B v n xs r) := by
  obtain ⟨i0, hi, hz0, hz1, hz2⟩ := info_parts info_u8
  have hr := rsize_eq.2.1.2 ⟨h0, h1⟩
  have HZ := Lib.hid (size_any r)
  rw [hr] at HZ
  have HR := Lib.hid hr
  clear hr
  go_enter Try.func21, Try.ntmps21
  go_wp2_with fail
  refine wp_scope_ahead 0 rfl ?_
  go_wp2_with (first | (go_at_call 23; refine (HZ.out _).mono ?_; rintro e w' ⟨rfl, rfl⟩) | (go_at_call 25; refine (mark_any 2 _).mono ?_; rw [show markOf 2 = 192 from rfl]; rintro e w' ⟨rfl, rfl⟩) | (at_builtin; refine wpList_append_own _ rfl _ _ 23 rfl B 5 i0 (.int .u8 0) 1 1 Try.underlying23 hi hz0 hz1 hz2 rfl (by decide) _ _ _ rfl (hown.alloc _) ⟨w.heap.size, 0, none⟩ 2 4 [.int .u8 (192 + r / 64), .int .u8 (128 + r % 64)] rfl rfl (cells_new _ _ _ _ (pre2 _ _ _ _)) (by simp [Value.oneCell']) (by unfold maxLen; omega) (by omega) (by simp; omega) ?_; intro v' w' hown' hgrow _))
  simp only [Exit.jump]
  go_ret2
  exact added_of HR.out (by unfold enc; rw [if_neg (by omega), if_pos h1]; rfl) hown' hgrow
set_option maxRecDepth 100000 in
set_option maxHeartbeats 1000000 in
theorem add_three (r : Int) (w : World) (B : Nat) (hB : B ≤ w.heap.size) (v : Value) (n : Nat) (xs : List Int) (hown : w.ownsRow B 5 1 v n (xs.map (Value.int .u8))) (hn : n ≤ 1000000000000)
   (h0 : 2048 ≤ r) (h1 : r ≤ 65535) (h2 : r < 55296 ∨ 57343 < r) :
    Calls Try.prog 21 #[v, .int .i64 r] w (Added w B v n xs r) := by
  obtain ⟨i0, hi, hz0, hz1, hz2⟩ := info_parts info_u8
  have hr := rsize_eq.2.2.1.2 ⟨h0, h1, h2⟩
  have HZ := Lib.hid (size_any r)
  rw [hr] at HZ
  have HR := Lib.hid hr
  clear hr h2
  go_enter Try.func21, Try.ntmps21
  go_wp2_with fail
  refine wp_scope_ahead 0 rfl ?_
  go_wp2_with (first | (go_at_call 23; refine (HZ.out _).mono ?_; rintro e w' ⟨rfl, rfl⟩) | (go_at_call 25; refine (mark_any 3 _).mono ?_; rw [show markOf 3 = 224 from rfl]; rintro e w' ⟨rfl, rfl⟩) | (at_builtin; refine wpList_append_own _ rfl _ _ 23 rfl B 5 i0 (.int .u8 0) 1 1 Try.underlying23 hi hz0 hz1 hz2 rfl (by decide) _ _ _ rfl (hown.alloc _) ⟨w.heap.size, 0, none⟩ 3 4 [.int .u8 (224 + r / 64 / 64), .int .u8 (128 + r / 64 % 64), .int .u8 (128 + r % 64)] rfl rfl (cells_new _ _ _ _ (pre3 _ _ _ _)) (by simp [Value.oneCell']) (by unfold maxLen; omega) (by omega) (by simp; omega) ?_; intro v' w' hown' hgrow _))
  simp only [Exit.jump]
  go_ret2
  exact added_of HR.out (by unfold enc; rw [if_neg (by omega), if_neg (by omega), if_pos h1, show r / 64 / 64 = r / 4096 by omega]; rfl) hown' hgrow
set_option maxRecDepth 100000 in
set_option maxHeartbeats 1000000 in
theorem add_four (r : Int) (w : World) (B : Nat) (hB : B ≤ w.heap.size) (v : Value) (n : Nat) (xs : List Int) (hown : w.ownsRow B 5 1 v n (xs.map (Value.int .u8))) (hn : n ≤ 1000000000000)
   (h0 : 65536 ≤ r) (h1 : r ≤ 1114111) :
    Calls Try.prog 21 #[v, .int .i64 r] w (Added w B v n xs r) := by
  obtain ⟨i0, hi, hz0, hz1, hz2⟩ := info_parts info_u8
  have hr := rsize_eq.2.2.2.2 ⟨h0, h1⟩
  have HZ := Lib.hid (size_any r)
  rw [hr] at HZ
  have HR := Lib.hid hr
  clear hr
  go_enter Try.func21, Try.ntmps21
  go_wp2_with fail
  refine wp_scope_ahead 0 rfl ?_
  go_wp2_with (first | (go_at_call 23; refine (HZ.out _).mono ?_; rintro e w' ⟨rfl, rfl⟩) | (go_at_call 25; refine (mark_any 4 _).mono ?_; rw [show markOf 4 = 240 from rfl]; rintro e w' ⟨rfl, rfl⟩) | (at_builtin; refine wpList_append_own _ rfl _ _ 23 rfl B 5 i0 (.int .u8 0) 1 1 Try.underlying23 hi hz0 hz1 hz2 rfl (by decide) _ _ _ rfl (hown.alloc _) ⟨w.heap.size, 0, none⟩ 4 4 [.int .u8 (240 + r / 64 / 64 / 64), .int .u8 (128 + r / 64 / 64 % 64), .int .u8 (128 + r / 64 % 64), .int .u8 (128 + r % 64)] rfl rfl (cells_new _ _ _ _ (pre4 _ _ _ _)) (by simp [Value.oneCell']) (by unfold maxLen; omega) (by omega) (by simp; omega) ?_; intro v' w' hown' hgrow _))
  simp only [Exit.jump]
  go_ret2
  exact added_of HR.out (by unfold enc; rw [if_neg (by omega), if_neg (by omega), if_neg (by omega), show r / 64 / 64 = r / 4096 by omega, show r / 4096 / 64 = r / 262144 by omega]; rfl) hown' hgrow
set_option maxHeartbeats 400000 in
theorem add_none (r : Int) (w : World) (v : Value) (h : ¬ May r) :
    Calls Try.prog 21 #[v, .int .i64 r] w fun e w' => e = .returned (.tuple #[.slice none 0 0, .int .i64 2]) ∧ w' = w.alloc (.cells #[.int .u8 0, .int .u8 0, .int .u8 0, .int .u8 0] 56) := by
  have hr : rsize r = 0 := Nat.eq_zero_of_not_pos fun hp => h (rsize_pos.1 hp)
  have HZ := Lib.hid (size_any r)
  rw [hr] at HZ
  clear hr
  go_enter Try.func21, Try.ntmps21
  go_wp2_with fail
  refine wp_scope_ahead 0 rfl ?_
  go_wp2_with (go_at_call 23; refine (HZ.out _).mono ?_; rintro e w' ⟨rfl, rfl⟩)
  go_step3
  refine ⟨rfl, ?_⟩
  go_wp2
  try rw [Exit.noGoto_ret]
  go_ret2
  exact ⟨rfl, rfl⟩

theorem add_any (r : Int) (w : World) (B : Nat) (hB : B ≤ w.heap.size) (v : Value) (n : Nat) (xs : List Int) (hown : w.ownsRow B 5 1 v n (xs.map (Value.int .u8))) (hn : n ≤ 1000000000000) (h : May r) :
    Calls Try.prog 21 #[v, .int .i64 r] w (Added w B v n xs r) := by
  unfold May at h
  by_cases h1 : r ≤ 127
  · exact add_one r w B hB v n xs hown hn h.1 h1
  by_cases h2 : r ≤ 2047
  · exact add_two r w B hB v n xs hown hn (by omega) h2
  by_cases h3 : r ≤ 65535
  · exact add_three r w B hB v n xs hown hn (by omega) h3 h.2.2
  · exact add_four r w B hB v n xs hown hn (by omega) (by omega)

/-- What Put hands back: a row of its own with the rune's bytes. -/
def PutDone (w : World) (r : Int) (e : Ending) (w' : World) : Prop :=
  ∃ v', e = .returned (.tuple #[v', .int .i64 0]) ∧ w'.ownsRow w.heap.size 5 1 v' (rsize r) ((enc r).map (Value.int .u8)) ∧ Below w.heap.size w w'

theorem below_of_grown {w w' : World} (h : w.grownBy w' (Value.slice none 0 0).ownBlock) : Below w.heap.size w w' := (Below.refl _ _).grown h (Nat.le_refl _) (fun k e => by cases e)

set_option maxHeartbeats 400000 in
theorem put_any (r : Int) (w : World) (h : May r) : Calls Try.prog 9 #[.int .i64 r] w (PutDone w r) := by
  have HA := Lib.hid (add_any r w w.heap.size (Nat.le_refl _) (.slice none 0 0) 0 [] (World.ownsRow_nil _ _ _ _) (by omega) h)
  clear h
  go_enter Try.func9, Try.ntmps9
  go_wp2_with (go_at_call 21; refine HA.out.mono ?_; rintro e w' ⟨v', rfl, hown, hg⟩)
  go_ret2
  exact ⟨v', rfl, by simpa using hown, below_of_grown hg⟩

set_option maxHeartbeats 400000 in
theorem put_none (r : Int) (w : World) (h : ¬ May r) : Calls Try.prog 9 #[.int .i64 r] w fun e w' => e = .returned (.tuple #[.slice none 0 0, .int .i64 2]) ∧ Below w.heap.size w w' := by
  have HA := Lib.hid (add_none r w (.slice none 0 0) h)
  clear h
  go_enter Try.func9, Try.ntmps9
  go_wp2_with (go_at_call 21; refine HA.out.mono ?_; rintro e w' ⟨rfl, rfl⟩)
  go_ret2
  exact ⟨rfl, (Below.refl _ _).alloc (Nat.le_refl _) _⟩

end Go.Proofs.Ythfflepgiikbjaa
