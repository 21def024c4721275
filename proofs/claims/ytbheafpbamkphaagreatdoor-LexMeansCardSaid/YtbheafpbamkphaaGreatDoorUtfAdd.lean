/-
  THE CONTRACT OF utf.add, AND OF utf.Put.
-/
import Derived.Test.YtbheafpbamkphaaGreatDoorUtfOwn
import Derived.Test.YtbheafpbamkphaaGreatDoorUtfMark
namespace Go.Proofs.YtbheafpbamkphaaGreatDoor
open Go.RowKit
open Utf

/-- What add does: the rune's bytes are appended. -/
def Added (w : World) (B : Nat) (v : Value) (n : Nat) (xs : List Int) (r : Int) (e : Ending) (w' : World) : Prop :=
  ∃ v', e = .returned (.tuple #[v', .int .i64 0]) ∧ w'.ownsRow B 5 1 v' (n + rsize r) ((xs ++ enc r).map (Value.int .u8)) ∧ w.grownBy w' v.ownBlock

theorem added_of {w : World} {B : Nat} {v : Value} {n : Nat} {xs : List Int} {r : Int} {v' : Value} {w' : World} {m : Nat} {news : List Value} {o : Obj} (hm : rsize r = m) (hn : news = (enc r).map (Value.int .u8))
    (h : w'.ownsRow B 5 1 v' (n + m) (xs.map (Value.int .u8) ++ news)) (hg : (w.alloc o).grownBy w' v.ownBlock) : Added w B v n xs r (.returned (.tuple #[v', .int .i64 0])) w' :=
  ⟨v', rfl, by rw [hm, List.map_append, ← hn]; exact h, grown_alloc o hg⟩

set_option maxRecDepth 100000 in
set_option maxHeartbeats 1000000 in
theorem add_one (r : Int) (w : World) (B : Nat) (hB : B ≤ w.heap.size) (v : Value) (n : Nat) (xs : List Int) (hown : w.ownsRow B 5 1 v n (xs.map (Value.int .u8))) (hn : n ≤ 1000000000000)
   (h0 : 0 ≤ r) (h1 : r ≤ 127) :
    Calls Tryz.prog 122 #[v, .int .i64 r] w (Added w B v n xs r) := by
  obtain ⟨i0, hi, hz0, hz1, hz2⟩ := info_parts info_u8
  have hr := rsize_eq.1.2 ⟨h0, h1⟩
  have HZ := Lib.hid (size_any r)
  rw [hr] at HZ
  have HR := Lib.hid hr
  clear hr
  go_enter Tryz.func122, Tryz.ntmps122
  go_wp2_with fail
  refine wp_scope_ahead 0 rfl ?_
  go_wp2_with (first | (go_at_call 66; refine (HZ.out _).mono ?_; rintro e w' ⟨rfl, rfl⟩) | (go_at_call 133; refine (mark_any 1 _).mono ?_; rw [show markOf 1 = 0 from rfl]; rintro e w' ⟨rfl, rfl⟩) | (at_builtin; refine wpList_append_own _ rfl _ _ 51 rfl B 5 i0 (.int .u8 0) 1 1 Tryz.underlying51 hi hz0 hz1 hz2 rfl (by decide) _ _ _ rfl (hown.alloc _) ⟨w.heap.size, 0, none⟩ 1 4 [.int .u8 r] rfl rfl (cells_new _ _ _ _ (pre1 _ _ _ _)) (by simp [Value.oneCell']) (by unfold maxLen; omega) (by omega) (by simp; omega) ?_; intro v' w' hown' hgrow _))
  simp only [Exit.jump]
  go_ret2
  exact added_of HR.out (by unfold enc; rw [if_pos h1]; rfl) hown' hgrow
set_option maxRecDepth 100000 in
set_option maxHeartbeats 1000000 in
theorem add_two (r : Int) (w : World) (B : Nat) (hB : B ≤ w.heap.size) (v : Value) (n : Nat) (xs : List Int) (hown : w.ownsRow B 5 1 v n (xs.map (Value.int .u8))) (hn : n ≤ 1000000000000)
   (h0 : 128 ≤ r) (h1 : r ≤ 2047) :
    Calls Tryz.prog 122 #[v, .int .i64 r] w (Added w B v n xs r) := by
  obtain ⟨i0, hi, hz0, hz1, hz2⟩ := info_parts info_u8
  have hr := rsize_eq.2.1.2 ⟨h0, h1⟩
  have HZ := Lib.hid (size_any r)
  rw [hr] at HZ
  have HR := Lib.hid hr
  clear hr
  go_enter Tryz.func122, Tryz.ntmps122
  go_wp2_with fail
  refine wp_scope_ahead 0 rfl ?_
  go_wp2_with (first | (go_at_call 66; refine (HZ.out _).mono ?_; rintro e w' ⟨rfl, rfl⟩) | (go_at_call 133; refine (mark_any 2 _).mono ?_; rw [show markOf 2 = 192 from rfl]; rintro e w' ⟨rfl, rfl⟩) | (at_builtin; refine wpList_append_own _ rfl _ _ 51 rfl B 5 i0 (.int .u8 0) 1 1 Tryz.underlying51 hi hz0 hz1 hz2 rfl (by decide) _ _ _ rfl (hown.alloc _) ⟨w.heap.size, 0, none⟩ 2 4 [.int .u8 (192 + r / 64), .int .u8 (128 + r % 64)] rfl rfl (cells_new _ _ _ _ (pre2 _ _ _ _)) (by simp [Value.oneCell']) (by unfold maxLen; omega) (by omega) (by simp; omega) ?_; intro v' w' hown' hgrow _))
  simp only [Exit.jump]
  go_ret2
  exact added_of HR.out (by unfold enc; rw [if_neg (by omega), if_pos h1]; rfl) hown' hgrow
set_option maxRecDepth 100000 in
set_option maxHeartbeats 1000000 in
theorem add_three (r : Int) (w : World) (B : Nat) (hB : B ≤ w.heap.size) (v : Value) (n : Nat) (xs : List Int) (hown : w.ownsRow B 5 1 v n (xs.map (Value.int .u8))) (hn : n ≤ 1000000000000)
   (h0 : 2048 ≤ r) (h1 : r ≤ 65535) (h2 : r < 55296 ∨ 57343 < r) :
    Calls Tryz.prog 122 #[v, .int .i64 r] w (Added w B v n xs r) := by
  obtain ⟨i0, hi, hz0, hz1, hz2⟩ := info_parts info_u8
  have hr := rsize_eq.2.2.1.2 ⟨h0, h1, h2⟩
  have HZ := Lib.hid (size_any r)
  rw [hr] at HZ
  have HR := Lib.hid hr
  clear hr h2
  go_enter Tryz.func122, Tryz.ntmps122
  go_wp2_with fail
  refine wp_scope_ahead 0 rfl ?_
  go_wp2_with (first | (go_at_call 66; refine (HZ.out _).mono ?_; rintro e w' ⟨rfl, rfl⟩) | (go_at_call 133; refine (mark_any 3 _).mono ?_; rw [show markOf 3 = 224 from rfl]; rintro e w' ⟨rfl, rfl⟩) | (at_builtin; refine wpList_append_own _ rfl _ _ 51 rfl B 5 i0 (.int .u8 0) 1 1 Tryz.underlying51 hi hz0 hz1 hz2 rfl (by decide) _ _ _ rfl (hown.alloc _) ⟨w.heap.size, 0, none⟩ 3 4 [.int .u8 (224 + r / 64 / 64), .int .u8 (128 + r / 64 % 64), .int .u8 (128 + r % 64)] rfl rfl (cells_new _ _ _ _ (pre3 _ _ _ _)) (by simp [Value.oneCell']) (by unfold maxLen; omega) (by omega) (by simp; omega) ?_; intro v' w' hown' hgrow _))
  simp only [Exit.jump]
  go_ret2
  exact added_of HR.out (by unfold enc; rw [if_neg (by omega), if_neg (by omega), if_pos h1, show r / 64 / 64 = r / 4096 by omega]; rfl) hown' hgrow
set_option maxRecDepth 100000 in
set_option maxHeartbeats 1000000 in
theorem add_four (r : Int) (w : World) (B : Nat) (hB : B ≤ w.heap.size) (v : Value) (n : Nat) (xs : List Int) (hown : w.ownsRow B 5 1 v n (xs.map (Value.int .u8))) (hn : n ≤ 1000000000000)
   (h0 : 65536 ≤ r) (h1 : r ≤ 1114111) :
    Calls Tryz.prog 122 #[v, .int .i64 r] w (Added w B v n xs r) := by
  obtain ⟨i0, hi, hz0, hz1, hz2⟩ := info_parts info_u8
  have hr := rsize_eq.2.2.2.2 ⟨h0, h1⟩
  have HZ := Lib.hid (size_any r)
  rw [hr] at HZ
  have HR := Lib.hid hr
  clear hr
  go_enter Tryz.func122, Tryz.ntmps122
  go_wp2_with fail
  refine wp_scope_ahead 0 rfl ?_
  go_wp2_with (first | (go_at_call 66; refine (HZ.out _).mono ?_; rintro e w' ⟨rfl, rfl⟩) | (go_at_call 133; refine (mark_any 4 _).mono ?_; rw [show markOf 4 = 240 from rfl]; rintro e w' ⟨rfl, rfl⟩) | (at_builtin; refine wpList_append_own _ rfl _ _ 51 rfl B 5 i0 (.int .u8 0) 1 1 Tryz.underlying51 hi hz0 hz1 hz2 rfl (by decide) _ _ _ rfl (hown.alloc _) ⟨w.heap.size, 0, none⟩ 4 4 [.int .u8 (240 + r / 64 / 64 / 64), .int .u8 (128 + r / 64 / 64 % 64), .int .u8 (128 + r / 64 % 64), .int .u8 (128 + r % 64)] rfl rfl (cells_new _ _ _ _ (pre4 _ _ _ _)) (by simp [Value.oneCell']) (by unfold maxLen; omega) (by omega) (by simp; omega) ?_; intro v' w' hown' hgrow _))
  simp only [Exit.jump]
  go_ret2
  exact added_of HR.out (by unfold enc; rw [if_neg (by omega), if_neg (by omega), if_neg (by omega), show r / 64 / 64 = r / 4096 by omega, show r / 4096 / 64 = r / 262144 by omega]; rfl) hown' hgrow
set_option maxHeartbeats 400000 in
theorem add_none (r : Int) (w : World) (v : Value) (h : ¬ May r) :
    Calls Tryz.prog 122 #[v, .int .i64 r] w fun e w' => e = .returned (.tuple #[.slice none 0 0, .int .i64 2]) ∧ w' = w.alloc (.cells #[.int .u8 0, .int .u8 0, .int .u8 0, .int .u8 0] 146) := by
  have hr : rsize r = 0 := Nat.eq_zero_of_not_pos fun hp => h (rsize_pos.1 hp)
  have HZ := Lib.hid (size_any r)
  rw [hr] at HZ
  clear hr
  go_enter Tryz.func122, Tryz.ntmps122
  go_wp2_with fail
  refine wp_scope_ahead 0 rfl ?_
  go_wp2_with (go_at_call 66; refine (HZ.out _).mono ?_; rintro e w' ⟨rfl, rfl⟩)
  go_step3
  refine ⟨rfl, ?_⟩
  go_wp2
  try rw [Exit.noGoto_ret]
  go_ret2
  exact ⟨rfl, rfl⟩

theorem add_any (r : Int) (w : World) (B : Nat) (hB : B ≤ w.heap.size) (v : Value) (n : Nat) (xs : List Int) (hown : w.ownsRow B 5 1 v n (xs.map (Value.int .u8))) (hn : n ≤ 1000000000000) (h : May r) :
    Calls Tryz.prog 122 #[v, .int .i64 r] w (Added w B v n xs r) := by
  unfold May at h
  by_cases h1 : r ≤ 127
  · exact add_one r w B hB v n xs hown hn h.1 h1
  by_cases h2 : r ≤ 2047
  · exact add_two r w B hB v n xs hown hn (by omega) h2
  by_cases h3 : r ≤ 65535
  · exact add_three r w B hB v n xs hown hn (by omega) h3 h.2.2
  · exact add_four r w B hB v n xs hown hn (by omega) (by omega)

/-- What Put hands back: a row of its own with the rune's bytes. -/
def PutDone (w : World) (r : Int) (e : Ending) (w' : World) : Prop :=
  ∃ v', e = .returned (.tuple #[v', .int .i64 0]) ∧ w'.ownsRow w.heap.size 5 1 v' (rsize r) ((enc r).map (Value.int .u8)) ∧ Below w.heap.size w w'


set_option maxHeartbeats 400000 in
theorem put_any (r : Int) (w : World) (h : May r) : Calls Tryz.prog 112 #[.int .i64 r] w (PutDone w r) := by
  have HA := Lib.hid (add_any r w w.heap.size (Nat.le_refl _) (.slice none 0 0) 0 [] (World.ownsRow_nil _ _ _ _) (by omega) h)
  clear h
  go_enter Tryz.func112, Tryz.ntmps112
  go_wp2_with (go_at_call 122; refine HA.out.mono ?_; rintro e w' ⟨v', rfl, hown, hg⟩)
  go_ret2
  exact ⟨v', rfl, by simpa using hown, below_of_grown hg⟩

set_option maxHeartbeats 400000 in
theorem put_none (r : Int) (w : World) (h : ¬ May r) : Calls Tryz.prog 112 #[.int .i64 r] w fun e w' => e = .returned (.tuple #[.slice none 0 0, .int .i64 2]) ∧ Below w.heap.size w w' := by
  have HA := Lib.hid (add_none r w (.slice none 0 0) h)
  clear h
  go_enter Tryz.func112, Tryz.ntmps112
  go_wp2_with (go_at_call 122; refine HA.out.mono ?_; rintro e w' ⟨rfl, rfl⟩)
  go_ret2
  exact ⟨rfl, (Below.refl _ _).alloc (Nat.le_refl _) _⟩

end Go.Proofs.YtbheafpbamkphaaGreatDoor
