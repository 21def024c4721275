/-
  THE LOOP OF pdqsortOrdered: what is sorted and what is left (plain mathematics).
-/
import Derived.Test.YtloonndeojfepaaUnSort11
import Derived.Sort.LotA
import Derived.Sort.LotB
import Derived.Sort.LotC
import Derived.Sort.LotD3
namespace Go.Proofs.Ytloonndeojfepaa
open Go.RowKit Go.Sort
set_option linter.unusedVariables false
set_option linter.unusedSimpArgs false

structure PdqI (a0 b0 : Nat) (d0 : Array Nat) (n a b : Nat) (d : Array Nat) : Prop where
  size : n = d.size
  le : a ≤ b
  hb : b ≤ n
  below : Below ltU a b d
  fin : ∀ R, PermIn a b d R → SortedIn ltU a b R → PermIn a0 b0 d0 R ∧ SortedIn ltU a0 b0 R
section
variable {a0 b0 n a b : Nat} {d0 d : Array Nat}
theorem PdqI.start (hab : a ≤ b) (hb : b ≤ d.size) (hB : Below ltU a b d) : PdqI a b d d.size a b d := ⟨rfl, hab, hb, hB, fun R h1 h2 => ⟨h1, h2⟩⟩
theorem PdqI.perm (h : PdqI a0 b0 d0 n a b d) {d' : Array Nat} (hp : PermIn a b d d') : PdqI a0 b0 d0 n a b d' :=
  ⟨h.size.trans hp.1.symm, h.le, h.hb, h.below.perm (by rw [← h.size]; exact h.hb) hp, fun R h1 h2 => h.fin R (permIn_trans _ _ _ a b hp h1) h2⟩
theorem PdqI.ins (h : PdqI a0 b0 d0 n a b d) : PermIn a0 b0 d0 (insertionSort ltU d a b) ∧ SortedIn ltU a0 b0 (insertionSort ltU d a b) := by
  obtain ⟨h1, h2⟩ := insertionSort_holds (lt := ltU) swoU d a b h.le (by rw [← h.size]; exact h.hb)
  exact h.fin _ h1 h2
theorem PdqI.heap (h : PdqI a0 b0 d0 n a b d) : PermIn a0 b0 d0 (heapSort ltU d a b) ∧ SortedIn ltU a0 b0 (heapSort ltU d a b) := by
  obtain ⟨h1, h2⟩ := heapSort_holds (lt := ltU) swoU d a b h.le (by rw [← h.size]; exact h.hb)
  exact h.fin _ h1 h2
theorem PdqI.rev (h : PdqI a0 b0 d0 n a b d) : PdqI a0 b0 d0 n a b (reverseRange d a b) := h.perm (reverseRange_holds d a b h.le (by rw [← h.size]; exact h.hb))
theorem PdqI.pis (h : PdqI a0 b0 d0 n a b d) (hab : a < b) : PdqI a0 b0 d0 n a b (partialInsertionSort ltU d a b).1 ∧ ((partialInsertionSort ltU d a b).2 = true → PermIn a0 b0 d0 (partialInsertionSort ltU d a b).1 ∧ SortedIn ltU a0 b0 (partialInsertionSort ltU d a b).1) := by
  obtain ⟨h1, h2⟩ := partialInsertionSort_holds (lt := ltU) swoU d a b hab (by rw [← h.size]; exact h.hb) h.below
  exact ⟨h.perm h1, fun e => h.fin _ h1 (h2 e)⟩
theorem PdqI.eq (h : PdqI a0 b0 d0 n a b d) {p : Nat} (ha : 0 < a) (hp1 : a ≤ p) (hp2 : p < b) (hnl : ltU d[a - 1]! d[p]! = false) :
    a < (partitionEqual ltU d a b p).1 ∧ PdqI a0 b0 d0 n (partitionEqual ltU d a b p).1 b (partitionEqual ltU d a b p).2 := by
  obtain ⟨h1, h2, h3, h4, h5⟩ := round_eq (lt := ltU) swoU (partitionEqual_holds ltU) ha hp1 hp2 (by rw [← h.size]; exact h.hb) h.below hnl (show partitionEqual ltU d a b p = ((partitionEqual ltU d a b p).1, (partitionEqual ltU d a b p).2) from rfl)
  exact ⟨h1, h.size.trans h3.symm, h2, h.hb, h4, fun R r1 r2 => by obtain ⟨q1, q2⟩ := h5 R r1 r2; exact h.fin R q1 q2⟩
theorem PdqI.part (h : PdqI a0 b0 d0 n a b d) {p : Nat} (hp1 : a ≤ p) (hp2 : p < b) :
    a ≤ (partition ltU d a b p).1 ∧ (partition ltU d a b p).1 < b ∧ n = (partition ltU d a b p).2.2.size ∧ Below ltU a (partition ltU d a b p).1 (partition ltU d a b p).2.2 ∧ Below ltU ((partition ltU d a b p).1 + 1) b (partition ltU d a b p).2.2 ∧
    (∀ L, PermIn a (partition ltU d a b p).1 (partition ltU d a b p).2.2 L → SortedIn ltU a (partition ltU d a b p).1 L → PdqI a0 b0 d0 n ((partition ltU d a b p).1 + 1) b L) ∧
    (∀ L, PermIn ((partition ltU d a b p).1 + 1) b (partition ltU d a b p).2.2 L → SortedIn ltU ((partition ltU d a b p).1 + 1) b L → PdqI a0 b0 d0 n a (partition ltU d a b p).1 L) := by
  obtain ⟨h1, h2, h3, h4, h5, h6, h7⟩ := round_part (lt := ltU) swoU (partition_holds ltU) hp1 hp2 (by rw [← h.size]; exact h.hb) h.below (show partition ltU d a b p = ((partition ltU d a b p).1, (partition ltU d a b p).2.1, (partition ltU d a b p).2.2) from rfl)
  have hn := h.hb
  refine ⟨h1, h2, h.size.trans h3.symm, h4, h5, fun L l1 l2 => ?_, fun L l1 l2 => ?_⟩
  · obtain ⟨k1, k2⟩ := h6 L l1 l2
    exact ⟨(h.size.trans h3.symm).trans l1.1.symm, by omega, h.hb, k1, fun R r1 r2 => by obtain ⟨q1, q2⟩ := k2 R r1 r2; exact h.fin R q1 q2⟩
  · obtain ⟨k1, k2⟩ := h7 L l1 l2
    exact ⟨(h.size.trans h3.symm).trans l1.1.symm, by omega, by omega, k1, fun R r1 r2 => by obtain ⟨q1, q2⟩ := k2 R r1 r2; exact h.fin R q1 q2⟩
end
end Go.Proofs.Ytloonndeojfepaa
