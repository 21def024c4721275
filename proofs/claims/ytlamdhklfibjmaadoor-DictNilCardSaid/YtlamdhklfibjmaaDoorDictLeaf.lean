/-
  CONTRACTS OF dict's LEAVES: isLimit, hash, (list).len, (list).end.
-/
import Derived.Test.YtlamdhklfibjmaaDoorSortRow
import Derived.Test.YtlamdhklfibjmaaDoorDictMath
import Derived.Sort.Grow
namespace Go.Proofs.YtlamdhklfibjmaaDoor
open Go.RowKit
open Utf Term
set_option linter.unusedVariables false
set_option linter.unusedSimpArgs false

set_option maxRecDepth 100000 in
theorem isLimit_any (q : Int) (w : World) : Calls Tryd.prog 19 #[.int .i64 q] w fun e w' => e = .returned (.bool (decide (0 ≤ q ∧ q ≤ 2147483647))) ∧ w = w' := by
  by_cases h0 : 0 ≤ q
  · have d0 : decide (0 ≤ q) = true := by simpa using h0
    by_cases h1 : q ≤ 2147483647
    · have d1 : decide (q ≤ 2147483647) = true := by simpa using h1
      have HR : Hid (decide (0 ≤ q ∧ q ≤ 2147483647) = true) := Lib.hid (by simp [h0, h1])
      go_enter Tryd.func19, Tryd.ntmps19
      go_wp2
      go_ret
      first | exact ⟨rfl, rfl⟩ | exact ⟨by rw [HR.out]; rfl, rfl⟩
    · have d1 : decide (q ≤ 2147483647) = false := by simpa using h1
      have HR : Hid (decide (0 ≤ q ∧ q ≤ 2147483647) = false) := Lib.hid (by simp [h1])
      go_enter Tryd.func19, Tryd.ntmps19
      go_wp2
      go_ret
      first | exact ⟨rfl, rfl⟩ | exact ⟨by rw [HR.out]; rfl, rfl⟩
  · have d0 : decide (0 ≤ q) = false := by simpa using h0
    have HR : Hid (decide (0 ≤ q ∧ q ≤ 2147483647) = false) := Lib.hid (by simp [h0])
    go_enter Tryd.func19, Tryd.ntmps19
    go_wp2
    go_ret
    first | exact ⟨rfl, rfl⟩ | exact ⟨by rw [HR.out]; rfl, rfl⟩

/-- One byte more in the hash. -/
def hstep (h c : Int) : Int := IntKind.u64.wrap (bits BinOp.xor IntKind.u64 h (IntKind.u64.wrap c) * 1099511628211)
def hashI (xs : List Int) : Int := xs.foldl hstep 14695981039346656037
theorem u64_bound (x : Int) : 0 ≤ IntKind.u64.wrap x ∧ IntKind.u64.wrap x ≤ 18446744073709551615 := by
  simp only [IntKind.wrap, IntKind.bits, IntKind.signed]
  constructor
  · simp; omega
  · simp; omega
theorem foldl_bound : ∀ (xs : List Int) (h : Int), (0 ≤ h ∧ h ≤ 18446744073709551615) → 0 ≤ xs.foldl hstep h ∧ xs.foldl hstep h ≤ 18446744073709551615
  | [], _, hb => hb
  | c :: xs, h, _ => foldl_bound xs _ (u64_bound _)
theorem hashI_bound (xs : List Int) : 0 ≤ hashI xs ∧ hashI xs ≤ 18446744073709551615 := foldl_bound xs _ ⟨by omega, by omega⟩

set_option maxRecDepth 100000 in
theorem hash_any (b off cap : Nat) (xs : List Int) (hs : xs.length ≤ 1000000000000) (w : World) (hr : RowC w b off (xs.map (Value.int .u8))) :
    Calls Tryd.prog 34 #[.slice (some ⟨b, off, none⟩) xs.length cap] w fun e w' => e = .returned (.int .u64 (hashI xs)) ∧ w = w' := by
  obtain ⟨n, hn⟩ : ∃ n, n = xs.length := ⟨_, rfl⟩
  have HN := Lib.hid hn
  rw [← hn] at hs ⊢
  clear hn
  have HR := Lib.hid hr
  clear hr
  obtain ⟨R, hRe⟩ : ∃ R, R = hashI xs := ⟨_, rfl⟩
  rw [← hRe]
  have HE := Lib.hid hRe
  clear hRe
  go_enter Tryd.func34, Tryd.ntmps34
  go_wp2
  go_loopg [3, 8] n (fun g s3 s8 wr => ∃ (k : Nat) (h : Int), k ≤ n ∧ n - k ≤ g ∧ s8 = .int .i64 k ∧ s3 = .int .u64 h ∧ Hid (h = hashI (xs.take k)) ∧ w = wr)
  case atStart => exact ⟨0, _, Nat.zero_le _, by omega, rfl, rfl, Lib.hid rfl, rfl⟩
  case round =>
    obtain ⟨k, h, hk, hg, rfl, rfl, HH, rfl⟩ := hrel
    by_cases hlt : k < n
    · have d1 : decide ((k : Int) < (n : Int)) = true := by simpa using hlt
      have i0 : (0 : Int) ≤ (k : Int) := by omega
      have i1 : (k : Int) < (n : Int) := by omega
      obtain ⟨c, hc⟩ : ∃ c, xs[k]? = some c := ⟨_, List.getElem?_eq_getElem (by have := HN.out; omega)⟩
      have c0 : w.cell? ⟨b, off + k, none⟩ = some (.int .u8 c) := HR.out k _ (by rw [List.getElem?_map, hc]; rfl)
      have HC := Lib.hid hc
      clear hc
      go_wp2
      go_roundg (n - (k + 1))
      case measure => omega
      case rel =>
        refine ⟨k + 1, hstep h c, by omega, Nat.le_refl _, by go_num, rfl, Lib.hid ?_, rfl⟩
        rw [List.take_add_one, HC.out, HH.out]
        show _ = List.foldl hstep _ (xs.take k ++ [c])
        rw [List.foldl_append]
        rfl
    · have d1 : decide ((k : Int) < (n : Int)) = false := by simpa using hlt
      have HF : Hid (h = R) := Lib.hid (by rw [HH.out, HE.out, List.take_of_length_le (by have := HN.out; omega)])
      go_wp2
      go_ret
      exact ⟨by rw [HF.out]; rfl, rfl⟩
end Go.Proofs.YtlamdhklfibjmaaDoor
