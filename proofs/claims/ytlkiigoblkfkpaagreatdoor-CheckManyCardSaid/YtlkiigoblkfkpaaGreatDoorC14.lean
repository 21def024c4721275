/-
  WHAT THE PROOF STANDS ON, a part of it: UtfIter.
-/
import Derived.Test.YtlkiigoblkfkpaaGreatDoorC7
import Derived.RangeFuncNested
import Derived.RangeFuncBound
import Derived.RangeFuncCalls
import Derived.RangeFuncLeaves
import Derived.Shelf.Abstract
import Derived.Shelf.RegionOpen
import Derived.WalkKit
import Derived.OwnWalkIn
import Derived.TacticsInMore
import Derived.LoopNIn
import Derived.LoopIn
import Derived.Lib.Strings
/-
  utf.Runes: THE ITERATOR's CONTRACT.
-/

namespace Go.Proofs.YtlkiigoblkfkpaaGreatDoor
open Go.RowKit Go.Shelf
open Utf
attribute [local go_sem] Oper.semAt_some

namespace Utf
/-- The runes of bytes, with their places, from place 'at' on; fuel bounds their number. -/
def runesAt : Nat → Nat → List Int → List (Nat × Int)
  | 0, _, _ => []
  | fuel + 1, p, l => if (dec l).2 = 0 then [] else (p, (dec l).1) :: runesAt fuel (p + (dec l).2) (l.drop (dec l).2)

def runes (l : List Int) : List (Nat × Int) := runesAt l.length 0 l

theorem runesAt_more : ∀ (fuel p : Nat) (l : List Int), l.length ≤ fuel → runesAt fuel p l = runesAt l.length p l
  | 0, p, l, h => by
    have : l.length = 0 := by omega
    rw [this]
  | fuel + 1, p, l, h => by
    cases e : l.length with
    | zero =>
      have : l = [] := List.eq_nil_of_length_eq_zero e
      subst this
      simp [runesAt, dec]
    | succ k =>
      unfold runesAt
      split
      · rfl
      · rename_i hn
        have hd : (l.drop (dec l).2).length = l.length - (dec l).2 := List.length_drop
        rw [runesAt_more fuel _ _ (by rw [hd]; omega), runesAt_more k _ _ (by rw [hd]; omega)]

/-- The runes of the rest. -/
def rest (p : Nat) (l : List Int) : List (Nat × Int) := runesAt l.length p l
theorem rest_stop {p : Nat} {l : List Int} (h : (dec l).2 = 0) : rest p l = [] := by
  unfold rest
  cases e : l.length with
  | zero => rfl
  | succ k => unfold runesAt; rw [if_pos h]
theorem rest_step {p : Nat} {l : List Int} (h : (dec l).2 ≠ 0) : rest p l = (p, (dec l).1) :: rest (p + (dec l).2) (l.drop (dec l).2) := by
  unfold rest
  have h1 := (dec_le l).1
  cases e : l.length with
  | zero => omega
  | succ k =>
    rw [runesAt, if_neg h, runesAt_more k _ _ (by rw [List.length_drop]; omega)]
end Utf

set_option maxHeartbeats 1000000 in
theorem runes_in (F : Fence) (n : Nat) (h : F.fn 112) (hro : F.round = none) (s : ByteArray) (w : World) :
    CallsIn F n Tryz.prog 112 #[.string s] w fun e w' => e = .returned (.func (.func 119) #[] #[.pointer (some ⟨w.heap.size, 0, none⟩)]) ∧ w' = w.alloc (.cells #[.string s] 9) := by
  refine callsIn_of_wp Tryz.func112 rfl h ?_ hro
  simp only [Tryz.ntmps112, List.size_toArray, List.length_cons, List.length_nil, Nat.reduceAdd, Nat.reduceSub, Array.replicate_succ, Array.replicate_zero, List.push_toArray, List.append_toArray, List.nil_append, List.cons_append]
  gi_wp2
  go_ret
  exact ⟨rfl, rfl⟩

/-- A place and a rune that may come. -/
abbrev RuneAt := { x : Nat × Int // x.1 ≤ 9223372036854770000 ∧ May x.2 }
abbrev runeVals (x : RuneAt) : Array Value := #[Value.int .i64 (x.1.1 : Int), Value.int .i64 x.1.2]

namespace Utf
/-- The runes of the rest, each bearing its own bounds. -/
def restR : Nat → Nat → List Int → List RuneAt
  | 0, _, _ => []
  | fuel + 1, p, l => if h : (dec l).2 = 0 ∨ 9223372036854770000 < p then [] else
    ⟨(p, (dec l).1), by omega, (dec_some (r := (dec l).1) (n := (dec l).2) rfl (by omega)).1⟩ :: restR fuel (p + (dec l).2) (l.drop (dec l).2)

theorem restR_val : ∀ (fuel p : Nat) (l : List Int), p + l.length ≤ 9223372036854770000 → (restR fuel p l).map (·.1) = runesAt fuel p l
  | 0, _, _, _ => rfl
  | fuel + 1, p, l, h => by
    unfold restR runesAt
    by_cases h0 : (dec l).2 = 0
    · rw [dif_pos (.inl h0), if_pos h0]; rfl
    · have := (dec_le l).1
      rw [dif_neg (by omega), if_neg h0, List.map_cons, restR_val fuel _ _ (by rw [List.length_drop]; omega)]

/-- All runes of a text, with their places. -/
def allR (l : List Int) : List RuneAt := restR l.length 0 l
def tailR (p : Nat) (l : List Int) : List RuneAt := restR l.length p l

theorem tailR_val {p : Nat} {l : List Int} (h : p + l.length ≤ 9223372036854770000) : (tailR p l).map (·.1) = rest p l := restR_val _ _ _ h

theorem map_val_inj {a b : List RuneAt} (h : a.map (·.1) = b.map (·.1)) : a = b :=
  (List.map_inj_right fun _ _ e => Subtype.ext e).1 h

theorem tailR_stop {p : Nat} {l : List Int} (hb : p + l.length ≤ 9223372036854770000) (h : (dec l).2 = 0) : tailR p l = [] := by
  have := tailR_val hb
  rw [rest_stop h] at this
  exact List.map_eq_nil_iff.1 this
theorem tailR_step {p : Nat} {l : List Int} (hb : p + l.length ≤ 9223372036854770000) (h : (dec l).2 ≠ 0) :
    ∃ x : RuneAt, x.1 = (p, (dec l).1) ∧ tailR p l = x :: tailR (p + (dec l).2) (l.drop (dec l).2) := by
  have h1 := (dec_le l).1
  refine ⟨⟨(p, (dec l).1), by omega, (dec_some (r := (dec l).1) (n := (dec l).2) rfl h).1⟩, rfl, map_val_inj ?_⟩
  rw [tailR_val hb, List.map_cons, tailR_val (by rw [List.length_drop]; omega), rest_step h]

theorem restR_length : ∀ (fuel p : Nat) (l : List Int), (restR fuel p l).length ≤ fuel
  | 0, _, _ => Nat.le_refl _
  | fuel + 1, p, l => by
    unfold restR
    split
    · simp
    · simp [restR_length fuel _ _]
end Utf

theorem get_ok (s : ByteArray) (w : World) (hs : s.size ≤ 9223372036854775807) {r : Int} {n : Nat} (h : dec (bs s) = (r, n)) (hn : n ≠ 0) :
    Calls Tryz.prog 120 #[.string s] w fun e w' => e = .returned (.tuple #[.int .i64 r, .int .i64 (n : Nat), .int .i64 0]) ∧ w = w' :=
  (get_any s w hs).mono fun e w' ⟨he, hw⟩ => ⟨by rw [he]; unfold gotten; rw [h]; simp [getErr, hn], hw⟩
theorem get_no (s : ByteArray) (w : World) (hs : s.size ≤ 9223372036854775807) (h : (dec (bs s)).2 = 0) :
    Calls Tryz.prog 120 #[.string s] w fun e w' => e = .returned (.tuple #[.int .i64 0, .int .i64 0, .int .i64 4]) ∧ w = w' :=
  (get_any s w hs).mono fun e w' ⟨he, hw⟩ => ⟨by rw [he, gotten_zero (dec_zero h)], hw⟩

/-- What a round keeps: the block that holds the text. -/
def KeepsBlock (B : Nat) (W W' : World) : Prop := W'.heap[B]? = W.heap[B]?

theorem bs_rest (s : ByteArray) (p : Nat) : bs (s.extract p s.size) = (bs s).drop p := by
  unfold bs
  rw [Lib.extract_data, List.map_take, List.map_drop]
  apply List.take_of_length_le
  simp

set_option maxRecDepth 100000 in
set_option maxHeartbeats 2000000 in
/-- The closure: for every body that keeps the text's block. -/
theorem iter_in (n : Nat) (hn : 1 ≤ n) (l Bs : Nat) (s : ByteArray) (hs : s.size ≤ 1000000000000) (J Jx : List RuneAt → World → Prop)
    (hY : ∀ pre x W, J pre W → pre ++ [x] <+: allR (bs s) → YieldAt Fence.wide (n - 1) Tryz.prog l (runeVals x) W fun e W' =>
      (e = .returned (.bool true) ∧ J (pre ++ [x]) W' ∧ KeepsBlock Bs W W') ∨ (e = .returned (.bool false) ∧ Jx (pre ++ [x]) W'))
    (W : World) (hBs : W.heap[Bs]? = some (.cells #[.string s] 9 (0, 0))) (h0 : J [] W) :
    CallsIn Fence.wide n Tryz.prog 119 #[.func (.yield l) #[] #[], .pointer (some ⟨Bs, 0, none⟩)] W fun e W' => (∃ v, e = .returned v) ∧
      ((∃ ys, ys = allR (bs s) ∧ J ys W') ∨ (∃ pre, pre <+: allR (bs s) ∧ Jx pre W')) := by
  refine callsIn_of_wp Tryz.func119 rfl trivial ?_ rfl
  simp only [Tryz.ntmps119, List.size_toArray, List.length_cons, List.length_nil, Nat.reduceAdd, Nat.reduceSub, Array.replicate_succ, Array.replicate_zero, List.push_toArray, List.append_toArray, List.nil_append, List.cons_append]
  gi_wp2
  gi_loopw [3] (fun i wr => ∃ (p : Nat) (pre : List RuneAt), p ≤ s.size ∧ i = .int .i64 p ∧ allR (bs s) = pre ++ tailR p ((bs s).drop p) ∧ J pre wr ∧ wr.heap[Bs]? = some (.cells #[.string s] 9 (0, 0)) ∧ pre.length ≤ p)
    (fun i _ => s.size - (intOf i).toNat)
  case atStart => exact ⟨0, [], by omega, rfl, rfl, h0, hBs, by simp⟩
  case round =>
    obtain ⟨p, pre, hp, rfl, hall, hJs, hb, hpl⟩ := hrel
    have hc := cell_of_one hb
    have HB := Lib.hid hb
    have HA := Lib.hid hall
    clear hb hall
    by_cases hlt : p < s.size
    · by_cases hd : (dec (bs (s.extract p s.size))).2 = 0
      · have HG := Lib.hid (get_no (s.extract p s.size) wr (by simp; omega) hd)
        have HD := Lib.hid hd
        clear hd
        gi_wp2_with (refine ⟨trivial, ?_⟩; gi_at_call 120; refine (callsIn_wide.2 HG.out).mono ?_; rintro e w' ⟨rfl, rfl⟩)
        refine ⟨fun _ h => (by cases h), ?_⟩
        gi_wp2
        refine bodyPost_ret (results_none rfl _ _ _) rfl ?_
        refine ⟨⟨_, rfl⟩, .inl ⟨_, ?_, hJs⟩⟩
        rw [HA.out, tailR_stop, List.append_nil]
        · rw [List.length_drop, bs_length]; omega
        · rw [← bs_rest]; exact HD.out
      · obtain ⟨r, m, hrm⟩ : ∃ r m, dec (bs (s.extract p s.size)) = (r, m) := ⟨_, _, rfl⟩
        rw [hrm] at hd
        have hm0 : m ≠ 0 := hd
        have HG := Lib.hid (get_ok (s.extract p s.size) wr (by simp; omega) hrm hm0)
        rw [bs_rest] at hrm
        obtain ⟨x, hx1, hx2⟩ := tailR_step (p := p) (l := (bs s).drop p) (by rw [List.length_drop, bs_length]; omega) (by rw [hrm]; exact hm0)
        rw [hrm] at hx1 hx2
        have hmle : p + m ≤ s.size := by
          have := (dec_le ((bs s).drop p)).1
          rw [hrm, List.length_drop, bs_length] at this
          omega
        simp only [List.drop_drop] at hx2
        rw [hx2] at HA
        clear hx2 hrm hd
        obtain ⟨fn, tmps, assign, body, hy, hR⟩ := hY pre x wr hJs (by rw [HA.out]; exact ⟨tailR (p + m) ((bs s).drop (p + m)), by simp⟩)
        have HR := Lib.hid hR
        clear hR
        dsimp only [runeVals] at hy
        rw [hx1] at hy
        dsimp only at hy
        clear hx1
        have hm1 : 1 ≤ m := by omega
        clear hm0
        gi_wp2_with (refine ⟨trivial, ?_⟩; gi_at_call 120; refine (callsIn_wide.2 HG.out).mono ?_; rintro e w' ⟨rfl, rfl⟩)
        refine HR.out.mono ?_
        rintro e W3 (⟨rfl, hJ3, hk3⟩ | ⟨rfl, hJx3⟩)
        · have hb3 : W3.heap[Bs]? = some (.cells #[.string s] 9 (0, 0)) := Eq.trans hk3 HB.out
          have HB3 := Lib.hid hb3
          clear hb3 hk3
          gi_wp2
          go_roundw
          case rel => exact ⟨p + m, pre ++ [x], hmle, by simp, by rw [HA.out]; simp, hJ3, HB3.out, by simp; omega⟩
          case measure => simp [intOf]; omega
        · gi_wp2
          refine bodyPost_ret (results_none rfl _ _ _) rfl ?_
          exact ⟨⟨_, rfl⟩, .inr ⟨pre ++ [x], by rw [HA.out]; exact ⟨tailR (p + m) ((bs s).drop (p + m)), by simp⟩, hJx3⟩⟩
    · obtain rfl : p = s.size := by omega
      gi_wp2
      go_end0
      refine ⟨⟨_, rfl⟩, .inl ⟨_, ?_, hJs⟩⟩
      rw [HA.out, tailR_stop, List.append_nil]
      · rw [List.length_drop, bs_length]; omega
      · rw [List.drop_of_length_le (by rw [bs_length]; omega)]; rfl
end Go.Proofs.YtlkiigoblkfkpaaGreatDoor

