/-
  PLAIN MATHEMATICS: texts stand as their runes do.
-/
import Derived.Test.YthfflepgiikbjaaUtfText
namespace Go.Proofs.Ythfflepgiikbjaa.Utf

/-- The order of lists, from the head on. -/
def lexLt : List Int → List Int → Bool
  | _, [] => false
  | [], _ :: _ => true
  | a :: l, b :: m => decide (a < b) || (decide (a = b) && lexLt l m)

theorem lex_prefix : ∀ (p l m : List Int), lexLt (p ++ l) (p ++ m) = lexLt l m
  | [], _, _ => rfl
  | a :: p, l, m => by
    have ih := lex_prefix p l m
    rw [List.cons_append, List.cons_append, lexLt, ih]
    simp
theorem lex_lt {a b : Int} {l m : List Int} (h : a < b) : lexLt (a :: l) (b :: m) = true := by simp [lexLt, h]
theorem lex_gt {a b : Int} {l m : List Int} (h : b < a) : lexLt (a :: l) (b :: m) = false := by
  have h1 : ¬ a < b := by omega
  have h2 : ¬ a = b := by omega
  simp [lexLt, h1, h2]

/-- A lesser rune's bytes part from a greater one's where they are less. -/
theorem enc_lt {r q : Int} (h : May r) (k : May q) (hlt : r < q) : ∃ p a b t u, enc r = p ++ a :: t ∧ enc q = p ++ b :: u ∧ a < b := by
  unfold May at h k
  by_cases r1 : r ≤ 127
  · have er : enc r = [r] := by unfold enc; rw [if_pos r1]
    by_cases q1 : q ≤ 127
    · exact ⟨[], r, q, [], [], er, by unfold enc; rw [if_pos q1]; rfl, hlt⟩
    by_cases q2 : q ≤ 2047
    · exact ⟨[], r, _, [], _, er, by unfold enc; rw [if_neg q1, if_pos q2]; rfl, by omega⟩
    by_cases q3 : q ≤ 65535
    · exact ⟨[], r, _, [], _, er, by unfold enc; rw [if_neg q1, if_neg q2, if_pos q3]; rfl, by omega⟩
    · exact ⟨[], r, _, [], _, er, by unfold enc; rw [if_neg q1, if_neg q2, if_neg q3]; rfl, by omega⟩
  have q1 : ¬ q ≤ 127 := by omega
  by_cases r2 : r ≤ 2047
  · have er : enc r = [192 + r / 64, 128 + r % 64] := by unfold enc; rw [if_neg r1, if_pos r2]
    by_cases q2 : q ≤ 2047
    · have eq : enc q = [192 + q / 64, 128 + q % 64] := by unfold enc; rw [if_neg q1, if_pos q2]
      by_cases e : r / 64 = q / 64
      · exact ⟨[192 + r / 64], 128 + r % 64, 128 + q % 64, [], [], er, by rw [eq, e]; rfl, by omega⟩
      · exact ⟨[], _, _, _, _, er, eq, by omega⟩
    by_cases q3 : q ≤ 65535
    · exact ⟨[], _, _, _, _, er, by unfold enc; rw [if_neg q1, if_neg q2, if_pos q3]; rfl, by omega⟩
    · exact ⟨[], _, _, _, _, er, by unfold enc; rw [if_neg q1, if_neg q2, if_neg q3]; rfl, by omega⟩
  have q2 : ¬ q ≤ 2047 := by omega
  by_cases r3 : r ≤ 65535
  · have er : enc r = [224 + r / 4096, 128 + r / 64 % 64, 128 + r % 64] := by unfold enc; rw [if_neg r1, if_neg r2, if_pos r3]
    by_cases q3 : q ≤ 65535
    · have eq : enc q = [224 + q / 4096, 128 + q / 64 % 64, 128 + q % 64] := by unfold enc; rw [if_neg q1, if_neg q2, if_pos q3]
      by_cases e : r / 4096 = q / 4096
      · by_cases e2 : r / 64 % 64 = q / 64 % 64
        · exact ⟨[224 + r / 4096, 128 + r / 64 % 64], 128 + r % 64, 128 + q % 64, [], [], er, by rw [eq, e, e2]; rfl, by omega⟩
        · exact ⟨[224 + r / 4096], 128 + r / 64 % 64, 128 + q / 64 % 64, _, _, er, by rw [eq, e]; rfl, by omega⟩
      · exact ⟨[], _, _, _, _, er, eq, by omega⟩
    · exact ⟨[], _, _, _, _, er, by unfold enc; rw [if_neg q1, if_neg q2, if_neg q3]; rfl, by omega⟩
  have q3 : ¬ q ≤ 65535 := by omega
  have er : enc r = [240 + r / 262144, 128 + r / 4096 % 64, 128 + r / 64 % 64, 128 + r % 64] := by unfold enc; rw [if_neg r1, if_neg r2, if_neg r3]
  have eq : enc q = [240 + q / 262144, 128 + q / 4096 % 64, 128 + q / 64 % 64, 128 + q % 64] := by unfold enc; rw [if_neg q1, if_neg q2, if_neg q3]
  by_cases e : r / 262144 = q / 262144
  · by_cases e2 : r / 4096 % 64 = q / 4096 % 64
    · by_cases e3 : r / 64 % 64 = q / 64 % 64
      · exact ⟨[240 + r / 262144, 128 + r / 4096 % 64, 128 + r / 64 % 64], 128 + r % 64, 128 + q % 64, [], [], er, by rw [eq, e, e2, e3]; rfl, by omega⟩
      · exact ⟨[240 + r / 262144, 128 + r / 4096 % 64], 128 + r / 64 % 64, 128 + q / 64 % 64, _, _, er, by rw [eq, e, e2]; rfl, by omega⟩
    · exact ⟨[240 + r / 262144], 128 + r / 4096 % 64, 128 + q / 4096 % 64, _, _, er, by rw [eq, e]; rfl, by omega⟩
  · exact ⟨[], _, _, _, _, er, eq, by omega⟩

theorem enc_ne {r : Int} (h : May r) : ∃ c t, enc r = c :: t := by
  obtain ⟨c, t, e, _⟩ := enc_form h
  exact ⟨c, t, e⟩

theorem lex_encs : ∀ (ra rb : List Int), AllMay ra → AllMay rb → lexLt (encs ra) (encs rb) = lexLt ra rb
  | ra, [], _, _ => by cases ra <;> simp [encs, lexLt]
  | [], q :: rb, _, k => by
    obtain ⟨c, t, e⟩ := enc_ne k.head
    rw [encs_cons, e]; rfl
  | r :: ra, q :: rb, h, k => by
    have ih := lex_encs ra rb h.tail k.tail
    rw [encs_cons, encs_cons]
    rcases Int.lt_trichotomy r q with hl | rfl | hl
    · obtain ⟨p, a, b, t, u, e1, e2, e3⟩ := enc_lt h.head k.head hl
      rw [e1, e2, List.append_assoc, List.append_assoc, lex_prefix, List.cons_append, List.cons_append, lex_lt e3, lex_lt hl]
    · rw [lex_prefix, ih, lexLt]; simp
    · obtain ⟨p, a, b, t, u, e1, e2, e3⟩ := enc_lt k.head h.head hl
      rw [e1, e2, List.append_assoc, List.append_assoc, lex_prefix, List.cons_append, List.cons_append, lex_gt e3, lex_gt hl]

/-- What a well-made text's runes are. -/
theorem vals_of {l : List Int} (hl : l.length ≤ 100000) (h : valid l = true) : AllMay ((allR l).map fun x => x.1.2) ∧ encs ((allR l).map fun x => x.1.2) = l := by
  obtain ⟨rs, h1, rfl⟩ := (valid_iff (by omega)).1 h
  have e := allR_encs h1 (by omega)
  have e2 : (allR (encs rs)).map (fun x => x.1.2) = rs := by
    have := congrArg (List.map Prod.snd) e
    rw [List.map_map, posR_snd] at this
    exact this
  rw [e2]
  exact ⟨h1, rfl⟩

/-- From place k on. -/
theorem lex_step (a b : List Int) (k : Nat) (h : k < b.length) : lexLt (a.drop k) (b.drop k) =
    if h2 : k < a.length then (decide (a[k] < b[k]) || (decide (a[k] = b[k]) && lexLt (a.drop (k + 1)) (b.drop (k + 1)))) else true := by
  rw [List.drop_eq_getElem_cons h]
  split
  · rename_i h2
    rw [List.drop_eq_getElem_cons h2, lexLt]
  · rw [List.drop_of_length_le (by omega)]; rfl
theorem lex_end (a b : List Int) (k : Nat) (h : b.length ≤ k) : lexLt (a.drop k) (b.drop k) = false := by
  rw [List.drop_of_length_le h]
  cases a.drop k <;> rfl
end Go.Proofs.Ythfflepgiikbjaa.Utf
