/-
  THE WALK OF TablePlays.
-/
import Derived.Test.YtnmimagcmmdolaaTbArg
import Derived.Test.YtnmimagcmmdolaaTbSame
import Derived.Test.YtnmimagcmmdolaaTbKnown
namespace Go.Proofs.Ytnmimagcmmdolaa
open Go.RowKit Go.Shelf
set_option linter.unusedVariables false
set_option linter.unusedSimpArgs false

/-- Behind so many acts. -/
def playR (R : List EntN) (l : List ActN) (k : Nat) : List EntN := (l.take k).foldl actR R
theorem playR_succ {R : List EntN} {l : List ActN} {k : Nat} {a : ActN} (h : l[k]? = some a) : playR R l (k + 1) = actR (playR R l k) a := by
  unfold playR
  rw [List.take_add_one, h, List.foldl_append]
  rfl
theorem addR_len (R : List EntN) (r : RowN) (b : Nat) : (addR R r b).length ≤ R.length + 1 := by
  unfold addR
  split
  · omega
  · split
    · rw [List.length_set]; omega
    · rw [List.length_append]; exact Nat.le_refl _
theorem modR_len (R : List EntN) (n : Int) (f : Nat → Nat) : (modR R n f).length = R.length := by
  unfold modR
  split
  · split
    · rw [List.length_set]
    · rfl
  · rfl
theorem actR_len (R : List EntN) (a : ActN) : (actR R a).length ≤ R.length + 1 := by
  unfold actR
  split
  · exact addR_len _ _ _
  · split
    · rw [modR_len]; omega
    · split
      · rw [modR_len]; omega
      · omega
theorem playR_len (R : List EntN) (l : List ActN) : ∀ k, (playR R l k).length ≤ R.length + k
  | 0 => by simp [playR]
  | k + 1 => by
    cases h : l[k]? with
    | some a =>
      rw [playR_succ h]
      have := actR_len (playR R l k) a
      have := playR_len R l k
      omega
    | none =>
      have h1 := List.getElem?_eq_none_iff.1 h
      have : playR R l (k + 1) = playR R l k := by
        unfold playR
        rw [List.take_of_length_le (by omega), List.take_of_length_le (by omega)]
      rw [this]
      have := playR_len R l k
      omega
theorem refNew (W : World) (S : Nat → Prop) (hS : ∀ j, S j → j < W.heap.size) : RefI (W.alloc (.cells #[.slice none 0 0, .slice none 0 0] 30)) (fun j => j = W.heap.size) W.heap.size [] := by
  refine ⟨none, 0, none, 0, ?_⟩
  exact {
    blk := heap_alloc_new W _
    rows := ⟨rfl, .inl ⟨rfl, rfl, rfl⟩⟩
    bits := ⟨rfl, .inl ⟨rfl, rfl, rfl⟩⟩
    ok := fun x hx => absurd hx (by simp)
    qW := rfl
    qR := fun a ha => by cases ha
    qB := fun a ha => by cases ha
    lt := fun j hj => by rw [hj, World.size_alloc]; omega
    nr := fun _ => ⟨rfl, rfl⟩ }
/-- Two tables, of the law's own: what lay ahead of them lies as it lay. -/
def PlayI (w : World) (B tb wb : Nat) (R : List EntN) (W : World) : Prop := ∃ S Q, Both B W S Q tb wb R ∧ Below w.heap.size w W ∧ w.heap.size ≤ B ∧ B ≤ W.heap.size ∧ (∀ j, S j → w.heap.size ≤ j) ∧ ∀ j, Q j → w.heap.size ≤ j
theorem PlayI.below {w W U : World} {B tb wb : Nat} {R : List EntN} (h : PlayI w B tb wb R W) (k : Below W.heap.size W U) : PlayI w B tb wb R U := by
  obtain ⟨S, Q, h1, h2, h3, h4, h5, h6⟩ := h
  exact ⟨S, Q, h1.below k, h2.trans (k.mono h2.size), h3, Nat.le_trans h4 k.size, h5, h6⟩
theorem PlayI.bel {w W : World} {B tb wb : Nat} {R : List EntN} (h : PlayI w B tb wb R W) : Below w.heap.size w W := by
  obtain ⟨S, Q, h1, h2, _⟩ := h
  exact h2
theorem PlayI.do_ {w W : World} {B tb wb : Nat} {R : List EntN} (h : PlayI w B tb wb R W) (a : ActN) (ha : okA a) (hR : R.length ≤ 1000000) : Calls Try.prog 9 #[tabP tb, refP wb, .agg (actC a)] W fun e w' => e = .returned (.bool true) ∧ PlayI w B tb wb (actR R a) w' := by
  obtain ⟨S, Q, h1, h2, h3, h4, h5, h6⟩ := h
  refine (do_any h1 h4 a ha hR).mono ?_
  rintro e w' ⟨rfl, hT, S', Q', hB, hS', hQ'⟩
  have hs := h2.size
  refine ⟨rfl, S', Q', hB, h2.trans (hT.below hs (fun j hj => ?_)), h3, Nat.le_trans h4 hT.size, fun j hj => ?_, fun j hj => ?_⟩
  · rcases hj with hj | hj
    · exact h5 j hj
    · exact h6 j hj
  · rcases hS' j hj with h | h
    · exact h5 j h
    · omega
  · rcases hQ' j hj with h | h
    · exact h6 j h
    · omega
theorem PlayI.same {w W : World} {B tb wb : Nat} {R : List EntN} (h : PlayI w B tb wb R W) (hR : R.length ≤ 1000000) : Calls Try.prog 10 #[tabP tb, refP wb] W fun e w' => e = .returned (.bool true) ∧ PlayI w B tb wb R w' := by
  have h0 := h
  obtain ⟨S, Q, h1, h2, h3, h4, h5, h6⟩ := h
  refine (same_any h1 hR).mono ?_
  rintro e w' ⟨rfl, hb⟩
  exact ⟨rfl, h0.below hb⟩
/-- A new table and a new reference. -/
theorem playNew (w w1 : World) (h1 : Below w.heap.size w w1) (hs : w1.heap.size = w.heap.size + 1 + 1 + 1) (hT : TabI (w.heap.size + 1 + 1) gz0 w1 (fun j => w.heap.size ≤ j ∧ j < w.heap.size + 1 + 1 + 1) (w.heap.size + 1 + 1) []) :
    PlayI w (w.heap.size + 1 + 1) (w.heap.size + 1 + 1) w1.heap.size [] (w1.alloc (.cells #[.slice none 0 0, .slice none 0 0] 30)) := by
  refine ⟨fun j => w.heap.size ≤ j ∧ j < w.heap.size + 1 + 1 + 1, fun j => j = w1.heap.size, ⟨hT.below ((Below.refl _ _).alloc (Nat.le_refl _) _), refNew w1 _ hT.lt, fun j hj hq => by omega⟩, h1.alloc h1.size _, by omega, by rw [World.size_alloc]; omega, fun j hj => hj.1, fun j hj => by omega⟩
set_option maxRecDepth 100000 in
set_option maxHeartbeats 4000000 in
theorem plays_walk (v : Value) (l : List ActN) (w : World) (hv : SliceK actL w v l) (hok : ∀ a ∈ l, okA a) : Calls Try.prog 3 #[v] w fun e w' => e = .returned (.bool true) ∧ Below w.heap.size w w' := by
  obtain ⟨ao, cap, rfl⟩ : ∃ ao cap, v = .slice ao l.length cap := by
    rcases hv with ⟨rfl, rfl⟩ | ⟨b, off, cap, rfl, _⟩
    · exact ⟨none, 0, rfl⟩
    · exact ⟨_, _, rfl⟩
  have hmax : l.length ≤ maxLen := by
    rcases hv with ⟨_, rfl⟩ | ⟨b, off, cap', e, h1, h2, _⟩
    · exact Nat.zero_le _
    · omega
  by_cases hl : 100 < l.length
  · have e1 : decide ((l.length : Int) > 100) = true := by simp; omega
    have e1' : decide (100 < (l.length : Int)) = true := by simp; omega
    have e1n : decide (100 < l.length) = true := by simpa using hl
    have HK := Lib.hid (known8_any w)
    clear hv hok hl
    go_enter Try.func3, Try.ntmps3
    go_wp2_with (go_at_call 7; refine HK.out.mono ?_; rintro e w' ⟨rfl, hb⟩; replace hb := Lib.hid hb)
    go_ret
    exact ⟨rfl, hb.out⟩
  have e1 : decide ((l.length : Int) > 100) = false := by simp; omega
  have e1' : decide (100 < (l.length : Int)) = false := by simp; omega
  have e1n : decide (100 < l.length) = false := by simpa using hl
  have HCell : Hid (∀ U, Below w.heap.size w U → ∀ (k : Nat) (a : ActN), l[k]? = some a → okA a ∧ ∃ b off, ao = some ⟨b, off, none⟩ ∧ ∀ j u, (actL a)[j]? = some u → U.cell? ⟨b, off + k * 7 + j, none⟩ = some u) := Lib.hid (fun U hU k a hk => by
    refine ⟨hok a (List.mem_of_getElem? hk), ?_⟩
    rcases hv with ⟨_, h0⟩ | ⟨b, off, cap', h1, _, _, h2⟩
    · rw [h0] at hk; simp at hk
    · injection h1 with h1
      refine ⟨b, off, h1, fun j u hu => ?_⟩
      have hj7 : j < 7 := (List.getElem?_eq_some_iff.1 hu).1
      have h3 := h2 (k * 7 + j) u (by rw [flat_get actL 7 (fun _ => rfl) l k j a hk hj7]; exact hu)
      rw [← Nat.add_assoc] at h3
      exact (hU.cell (p := ⟨b, off + k * 7 + j, none⟩) (World.block_lt_of_cell? _ ⟨b, off + k * 7 + j, none⟩ h3)).trans h3)
  have HNew := Lib.hid (tbNew_any w)
  have HKn := Lib.hid known8_any
  have HPn := Lib.hid (playNew w)
  have hl2 : l.length ≤ 100 := by omega
  clear hv hok hl
  go_enter Try.func3, Try.ntmps3
  go_wp2_with (go_at_call 8; refine HNew.out.mono ?_; rintro e w1 ⟨rfl, hb1, hs1, hT1⟩; have hP := Lib.hid (HPn.out w1 hb1 hs1 hT1); clear hb1 hs1 hT1)
  obtain ⟨tb, htb⟩ : ∃ tb, tb = w.heap.size + 1 + 1 := ⟨_, rfl⟩
  obtain ⟨wb, hwb⟩ : ∃ wb, wb = w1.heap.size := ⟨_, rfl⟩
  rw [← htb, ← hwb] at hP
  rw [← htb, ← hwb]
  clear htb hwb
  go_loopg [5] l.length (fun g i wr => ∃ k : Nat, k ≤ l.length ∧ l.length - k ≤ g ∧ i = .int .i64 (k : Int) ∧ PlayI w tb tb wb (playR [] l k) wr)
  case atStart => exact ⟨0, Nat.zero_le _, by omega, rfl, hP.out⟩
  case round =>
    obtain ⟨k, hk, hg, rfl, hI⟩ := hrel
    have HI := Lib.hid hI
    have hln : (playR [] l k).length ≤ 1000000 := by have := playR_len [] l k; simp at this; omega
    by_cases hlt : k < l.length
    · obtain ⟨a, ha⟩ : ∃ a, l[k]? = some a := ⟨_, List.getElem?_eq_getElem hlt⟩
      obtain ⟨hka, b, off, rfl, hc⟩ := HCell.out wr hI.bel k a ha
      have c0 := hc 0 _ rfl
      have c1 := hc 1 _ rfl
      have c2 := hc 2 _ rfl
      have c3 := hc 3 _ rfl
      have c4 := hc 4 _ rfl
      have c5 := hc 5 _ rfl
      have c6 := hc 6 _ rfl
      rw [Nat.add_zero] at c0
      have e2 : decide ((k : Int) < (l.length : Int)) = true := by simp; omega
      have i0 : (0 : Int) ≤ (k : Int) := by omega
      have i1 : (k : Int) < (l.length : Int) := by omega
      have hdo := HI.out.do_ a hka hln
      rw [← playR_succ ha] at hdo
      have hln2 : (playR [] l (k + 1)).length ≤ 1000000 := by have := playR_len [] l (k + 1); simp at this; omega
      have HDo := Lib.hid hdo
      have HSame : Hid (∀ U, PlayI w tb tb wb (playR [] l (k + 1)) U → Calls Try.prog 10 #[tabP tb, refP wb] U fun e w' => e = .returned (.bool true) ∧ PlayI w tb tb wb (playR [] l (k + 1)) w') := Lib.hid (fun U hU => hU.same hln2)
      clear hI ha hka hc hdo hln hln2
      by_cases h10 : (k : Int) % 10 = 9
      · have e3 : ((k : Int) % 10 == 9) = true := by simpa using h10
        have HE3 := Lib.hid e3
        clear h10
        go_wp2_with (first
          | (go_at_call 9; refine HDo.out.mono ?_; rintro e w2 ⟨rfl, hI2⟩; replace hI2 := Lib.hid hI2)
          | (go_at_call 10; refine (HSame.out _ hI2.out).mono ?_; rintro e w3 ⟨rfl, hI3⟩; replace hI3 := Lib.hid hI3))
        go_roundg (l.length - (k + 1))
        case measure => omega
        case rel => exact ⟨k + 1, by omega, Nat.le_refl _, by go_num, hI3.out⟩
      · have e3 : ((k : Int) % 10 == 9) = false := by rw [beq_eq_false_iff_ne]; exact h10
        have HE3 := Lib.hid e3
        clear h10
        go_wp2_with (first
          | (go_at_call 9; refine HDo.out.mono ?_; rintro e w2 ⟨rfl, hI2⟩; replace hI2 := Lib.hid hI2)
          | (go_at_call 10; refine (HSame.out _ hI2.out).mono ?_; rintro e w3 ⟨rfl, hI3⟩; replace hI3 := Lib.hid hI3))
        go_roundg (l.length - (k + 1))
        case measure => omega
        case rel => exact ⟨k + 1, by omega, Nat.le_refl _, by go_num, hI2.out⟩
    · obtain rfl : k = l.length := by omega
      have e2 : decide ((l.length : Int) < (l.length : Int)) = false := by simp
      have HSame := Lib.hid (hI.same hln)
      clear hI hln hlt
      go_wp2_with (first
        | (go_at_call 10; refine HSame.out.mono ?_; rintro e w3 ⟨rfl, hI3⟩; replace hI3 := Lib.hid hI3)
        | (go_at_call 7; refine (HKn.out _).mono ?_; rintro e w4 ⟨rfl, hb4⟩; replace hb4 := Lib.hid hb4))
      go_ret
      exact ⟨rfl, hI3.out.bel.trans (hb4.out.mono hI3.out.bel.size)⟩
end Go.Proofs.Ytnmimagcmmdolaa
