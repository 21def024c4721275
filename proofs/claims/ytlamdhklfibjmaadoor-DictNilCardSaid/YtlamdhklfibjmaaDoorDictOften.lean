/-
  TEXTS OF NUMBERS, each another one's. CONTRACT OF the law's often.
-/
import Derived.Test.YtlamdhklfibjmaaDoorDictNone
namespace Go.Proofs.YtlamdhklfibjmaaDoor
open Go.RowKit
open Utf Term
set_option linter.unusedVariables false
set_option linter.unusedSimpArgs false

/-- The letters of a number, the last one first; fuel bounds their number. -/
def oftenL : Nat → Nat → List Int
  | 0, _ => []
  | f + 1, n => if n = 0 then [] else (97 + (n % 26 : Nat) : Int) :: oftenL f (n / 26)
theorem oftenL_byte : ∀ (f n : Nat), ∀ c ∈ oftenL f n, IsByte c
  | 0, _ => by simp [oftenL]
  | f + 1, n => by
    unfold oftenL
    split
    · simp
    · intro c hc
      rcases List.mem_cons.1 hc with rfl | hc
      · unfold IsByte; omega
      · exact oftenL_byte f _ c hc
theorem oftenL_inj : ∀ (f n m : Nat), n < 26 ^ f → m < 26 ^ f → oftenL f n = oftenL f m → n = m
  | 0, n, m, hn, hm, _ => by simp at hn hm; omega
  | f + 1, n, m, hn, hm, h => by
    unfold oftenL at h
    by_cases h0 : n = 0
    · rw [if_pos h0] at h
      by_cases h1 : m = 0
      · omega
      · rw [if_neg h1] at h
        cases h
    · rw [if_neg h0] at h
      by_cases h1 : m = 0
      · rw [if_pos h1] at h
        cases h
      · rw [if_neg h1] at h
        rw [List.cons.injEq] at h
        have hp : (26 : Nat) ^ (f + 1) = 26 ^ f * 26 := Nat.pow_succ _ _
        have := oftenL_inj f (n / 26) (m / 26) (by omega) (by omega) h.2
        have := h.1
        omega
/-- The text of a number below 17576. -/
def oftenS (n : Nat) : ByteArray := strOfNums (oftenL 3 n)
/-- .. as a term. -/
def oftenT (n : Nat) : TermD := (3, oftenS n, ⟨#[]⟩)
theorem oftenS_inj {n m : Nat} (hn : n < 17576) (hm : m < 17576) (h : oftenS n = oftenS m) : n = m := by
  have h1 : bs (oftenS n) = bs (oftenS m) := by rw [h]
  unfold oftenS at h1
  rw [bs_strOfNums (oftenL_byte 3 n), bs_strOfNums (oftenL_byte 3 m)] at h1
  exact oftenL_inj 3 n m (by have : (26 : Nat) ^ 3 = 17576 := by decide
                             omega) (by have : (26 : Nat) ^ 3 = 17576 := by decide
                                        omega) h1
theorem bs_appD (a b : ByteArray) : bs (a ++ b) = bs a ++ bs b := by
  unfold bs
  simp
theorem strOf_eqD {S : ByteArray} {l : List Int} (h : bs S = l) : S = strOfNums l := by
  apply bs_inj
  rw [bs_strOfNums (by rw [← h]; exact bs_byte S), h]

set_option maxRecDepth 100000 in
set_option maxHeartbeats 2000000 in
theorem often_any (i : Nat) (hi : i < 17576) (w : World) : Calls Tryd.prog 18 #[.int .i64 i] w fun e w' => e = .returned (.string (oftenS i)) ∧ Below w.heap.size w w' := by
  obtain ⟨target, ht⟩ : ∃ t, t = oftenL 3 i := ⟨_, rfl⟩
  have HT := Lib.hid ht
  clear ht
  go_enter Tryd.func18, Tryd.ntmps18
  go_wp2_with fail
  go_loopg [0, 3] 3 (fun g s0 s3 wr => ∃ (n f : Nat) (t : ByteArray), f ≤ g ∧ f ≤ 3 ∧ n < 26 ^ f ∧ n ≤ 17576 ∧ s0 = .int .i64 (n : Int) ∧ s3 = .string t ∧ t.size + f ≤ 3 ∧ Hid (bs t ++ oftenL f n = target) ∧ Hid (Below w.heap.size w wr))
  case atStart => exact ⟨i, 3, ⟨#[]⟩, Nat.le_refl _, Nat.le_refl _, hi, by omega, rfl, rfl, by decide, Lib.hid (by rw [HT.out]; rfl), Lib.hid (Below.refl _ _)⟩
  case round =>
    obtain ⟨n, f, t, hf, hf3, hn, hnb, rfl, rfl, hts, HEQ, HB⟩ := hrel
    by_cases h0 : n = 0
    · have d0 : decide ((0 : Int) < (n : Int)) = false := decide_eq_false (by omega)
      have d0' : decide (0 < n) = false := decide_eq_false (by omega)
      have HF : Hid (t = oftenS i) := Lib.hid (by
        have h := HEQ.out
        rw [h0] at h
        have e : oftenL f 0 = [] := by cases f <;> simp [oftenL]
        rw [e, List.append_nil] at h
        unfold oftenS
        rw [← HT.out]
        exact strOf_eqD h)
      clear h0 hn
      go_wp2_with fail
      go_ret
      exact ⟨by rw [HF.out]; rfl, HB.out⟩
    · obtain ⟨f, rfl⟩ : ∃ f', f = f' + 1 := ⟨f - 1, by
        have : f ≠ 0 := by rintro rfl; simp at hn; omega
        omega⟩
      have d1 : decide ((0 : Int) < (n : Int)) = true := decide_eq_true (by omega)
      have d1' : 0 < n := by omega
      have hm : 0 ≤ (n : Int) := by omega
      obtain ⟨q, hq⟩ : ∃ q : Nat, q = n % 26 := ⟨_, rfl⟩
      obtain ⟨r, hr⟩ : ∃ r : Nat, r = n / 26 := ⟨_, rfl⟩
      have e1 : (n : Int) % 26 = (q : Int) := by omega
      have e2 : (n : Int) / 26 = (r : Int) := by omega
      have hqb : q < 26 := by omega
      have hrb : r ≤ 17576 := by omega
      have hrf : r < 26 ^ f := by have : (26 : Nat) ^ (f + 1) = 26 ^ f * 26 := Nat.pow_succ _ _; omega
      have HNX : Hid (oftenL (f + 1) n = (97 + (q : Int)) :: oftenL f r) := Lib.hid (by
        show (if n = 0 then [] else (97 + (n % 26 : Nat) : Int) :: oftenL f (n / 26)) = _
        rw [if_neg h0, hq, hr])
      have hcb : Hid (IsByte (97 + (q : Int))) := Lib.hid (by unfold IsByte; omega)
      clear hq hr hn h0
      have v1 : IntKind.i64.wrap (97 + (q : Int)) = 97 + (q : Int) := IntWalk.i64_in _ (by omega)
      have v2 : IntKind.u8.wrap (97 + (q : Int)) = 97 + (q : Int) := by rw [IntKind.wrap_u8]; omega
      have hbs : bs (strOfNums [97 + (q : Int)]) = [97 + (q : Int)] := bs_strOfNums (fun c hc => by
        obtain rfl : c = 97 + (q : Int) := by simpa using hc
        exact hcb.out)
      have hsz : (strOfNums [97 + (q : Int)]).size = 1 := by rw [← bs_length, hbs]; rfl
      have g1 : (convert 44 9 (.slice (some ⟨wr.heap.size, 0, none⟩) 1 1)).run Tryd.prog (wr.alloc (.cells #[.int .u8 (97 + (q : Int))] 5)) = .ok (.string (strOfNums [97 + (q : Int)])) (wr.alloc (.cells #[.int .u8 (97 + (q : Int))] 5)) := by
        have h := conv_row (W := wr.alloc (.cells #[.int .u8 (97 + (q : Int))] 5)) (b := wr.heap.size) (p := 0) (c := 1) (s := strOfNums [97 + (q : Int)]) (fun j u hu => by
          rw [hbs] at hu
          rw [Nat.zero_add, World.cell?_alloc_at _ _ _ _ rfl]
          simpa using hu)
        rw [hsz] at h
        exact h
      have HBS := Lib.hid hbs
      have HSZ := Lib.hid hsz
      have HB2 := Lib.hid (below_step HB.out (below_new wr (.cells #[.int .u8 (97 + (q : Int))] 5)))
      clear hbs hsz
      generalize strOfNums [97 + (q : Int)] = one at *
      have f1 : ¬ 9223372036854775807 < t.size + one.size := by have := HSZ.out; omega
      go_wp2_with fail
      go_roundg f
      case measure => omega
      case rel => exact ⟨r, f, t ++ one, Nat.le_refl _, by omega, hrf, hrb, rfl, rfl, by have := HSZ.out; simp; omega, Lib.hid (by rw [bs_appD, HBS.out, ← HEQ.out, HNX.out]; simp), HB2⟩
end Go.Proofs.YtlamdhklfibjmaaDoor
