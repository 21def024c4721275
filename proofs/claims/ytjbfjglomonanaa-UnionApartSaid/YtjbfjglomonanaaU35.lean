/-
  WHAT THE PROOF STANDS ON, a part of it: UnArg, UnPlays, UnPlay2.
-/
import Derived.Test.YtjbfjglomonanaaU24
import Derived.Test.YtjbfjglomonanaaU3
import Derived.Test.YtjbfjglomonanaaU34
import Derived.Test.YtjbfjglomonanaaU30
/-
  ARGUMENTS: a slice of pairs, opened.
-/

namespace Go.Proofs.Ytjbfjglomonanaa
open Go.ChangeShapes Go.WideShapes Go.ChangeAt Go.RowKit Go.Deep
set_option linter.unusedVariables false
set_option maxRecDepth 100000

theorem cells_un32 : Try.prog.cellsOf 23 = 1 := by kernel_rfl
theorem cells_pair : Try.prog.cellsOf 30 = 2 := by kernel_rfl
theorem un32_wf {n : Int} (h : (Lit.int .u32 n).wf = true) : ∃ m : Nat, n = (m : Int) ∧ m < 4294967296 := by
  have a : IntKind.u32.bits = 32 := rfl
  have b : IntKind.u32.signed = false := rfl
  simp [Lit.wf, IntKind.min, IntKind.max, a, b] at h
  exact ⟨n.toNat, by omega, by omega⟩
section
variable {H : Type} {enc : TypeId × Value → H} {w : World} {base : Nat} {spare : Nat → Bool} {held : Bool} {fuel : Nat}
theorem trod_pair {cs : List Value} {x : DataW H × List MemPlace} (h : DataW.trod enc Try.prog w base spare held fuel 30 cs = some x) : ∃ r : Nat × Nat, cs = [.int .u32 (r.1 : Int), .int .u32 (r.2 : Int)] ∧ (r.1 < 4294967296 ∧ r.2 < 4294967296) := by
  obtain ⟨xs, m, _, hx, hl, hlen, hf⟩ := DataW.trod_array Try.underlying30 h
  rw [cells_pair] at hl
  rw [cells_un32] at hf
  match cs, hl with
  | [v0, v1], _ =>
    match xs, hlen with
    | [y0, y1], _ =>
      obtain ⟨a, e0, f0, wa⟩ := DataW.trod_int Try.underlying23 (hf 0 (by decide))
      obtain ⟨b, e1, f1, wb⟩ := DataW.trod_int Try.underlying23 (hf 1 (by decide))
      simp at e0 e1
      subst e0 e1
      obtain ⟨a, rfl, ha⟩ := un32_wf wa
      obtain ⟨b, rfl, hb⟩ := un32_wf wb
      exact ⟨(a, b), rfl, ha, hb⟩
theorem open_pairs {b0 : Nat} {r : Reach} {v : Value} {d : DataW H} {ps : List MemPlace}
    (hval : Value.okWide Try.prog w r b0 22 v) (hd : DataW.Trod enc Try.prog w base spare held 22 v d ps) : ∃ (ao : Option Addr) (cap : Nat) (l : List (Nat × Nat)), v = .slice ao l.length cap ∧ PairR w ao l := by
  obtain ⟨xs, hs, _⟩ := open_sliceK Try.underlying22 (by omega) cells_pair (fun r : Nat × Nat => [.int .u32 (r.1 : Int), .int .u32 (r.2 : Int)]) (fun _ => rfl) (fun r => r.1 < 4294967296 ∧ r.2 < 4294967296) (fun fuel cs x h => trod_pair h) hval hd
  rcases hs with ⟨rfl, rfl⟩ | ⟨b, off, cap, rfl, _, _, hc⟩
  · exact ⟨none, 0, [], rfl, fun h => by simp at h⟩
  · refine ⟨_, cap, xs, rfl, fun _ => ⟨b, off, rfl, fun j x hx => ⟨hc (j * 2) _ ?_, ?_⟩⟩⟩
    · have := flat_get (fun r : Nat × Nat => [Value.int .u32 (r.1 : Int), .int .u32 (r.2 : Int)]) 2 (fun _ => rfl) xs j 0 x hx (by omega)
      rw [Nat.add_zero] at this
      rw [this]
      rfl
    · have := flat_get (fun r : Nat × Nat => [Value.int .u32 (r.1 : Int), .int .u32 (r.2 : Int)]) 2 (fun _ => rfl) xs j 1 x hx (by omega)
      have h2 := hc (j * 2 + 1) (.int .u32 (x.2 : Int)) (by rw [this]; rfl)
      rw [← Nat.add_assoc] at h2
      exact h2
end
theorem laidOut11 : laidOutB Try.prog = true := by kernel_rfl
end Go.Proofs.Ytjbfjglomonanaa

/-
  UNION'S JOINS, PLAYED. (Written by tools/genunplays.py.)
-/

namespace Go.Proofs.Ytjbfjglomonanaa
open Go.RowKit
set_option linter.unusedVariables false
set_option linter.unusedSimpArgs false

theorem take_snoc {l : List (Nat × Nat)} {k : Nat} {x : Nat × Nat} (h : l[k]? = some x) : l.take (k + 1) = l.take k ++ [(x.1, x.2)] := by
  rw [List.take_add_one, h]
  rfl
/-- The joins' list lies apart from the partition. -/
def Apart (S : Nat → Prop) (ao : Option Addr) (K : List (Nat × Nat)) : Prop := 0 < K.length → ∀ x, ao = some x → ¬ S x.block
theorem PairR.turned {S : Nat → Prop} {W U : World} {ao : Option Addr} {K : List (Nat × Nat)} (h : PairR W ao K) (ht : Turned S W U) (ha : Apart S ao K) : PairR U ao K := fun h0 => by
  obtain ⟨g, o, e, hc⟩ := h h0
  have hn : ¬ S g := ha h0 _ e
  exact ⟨g, o, e, fun j x hx => ⟨ht.cell (a := ⟨g, o + j * 2, none⟩) hn (hc j x hx).1, ht.cell (a := ⟨g, o + j * 2 + 1, none⟩) hn (hc j x hx).2⟩⟩
theorem Apart.grow {S : Nat → Prop} {W U : World} {ao : Option Addr} {K : List (Nat × Nat)} (ha : Apart S ao K) (h : PairR W ao K) : Apart (growS S W U) ao K := fun h0 x hx hs => by
  obtain ⟨g, o, e, hc⟩ := h h0
  rcases hs with hs | hs
  · exact ha h0 x hx hs
  · rw [e] at hx
    cases hx
    obtain ⟨y, hy⟩ : ∃ y, K[0]? = some y := ⟨_, List.getElem?_eq_getElem h0⟩
    have h1 : g < W.heap.size := World.block_lt_of_cell? W ⟨g, o + 0 * 2, none⟩ (hc 0 y hy).1
    have h2 : W.heap.size ≤ g := hs.1
    omega
end Go.Proofs.Ytjbfjglomonanaa

/-
  JOINS OF A PARTITION AND OF THE REFERENCE, side by side, beside what they leave as it was (P).
-/

namespace Go.Proofs.Ytjbfjglomonanaa
open Go.RowKit
set_option linter.unusedVariables false
set_option linter.unusedSimpArgs false

theorem rise_of (l : List Nat) : ∃ A : List Nat, A.Pairwise (· < ·) ∧ ∀ x, x ∈ A ↔ x ∈ l := by
  induction l with
  | nil => exact ⟨[], List.Pairwise.nil, fun x => Iff.rfl⟩
  | cons v l ih =>
    obtain ⟨A, h1, h2⟩ := ih
    by_cases hv : v ∈ A
    · exact ⟨A, h1, fun x => by
        rw [List.mem_cons, h2]
        constructor
        · exact .inr
        · rintro (rfl | h)
          · exact (h2 _).1 hv
          · exact h⟩
    · obtain ⟨h3, h4, _⟩ := putL_is h1 hv
      exact ⟨putL A v, h3, fun x => by rw [h4, h2, List.mem_cons]; exact Or.comm⟩
/-- All goes over as many as there are. -/
theorem count_all {J K : List (Nat × Nat)} (h : Eff J K) {L : List (Nat × List Nat)} (ha : AllP J L) : CountOf (runA J) L.length := by
  obtain ⟨A, h1, h2⟩ := rise_of (numsK K)
  have h3 := count_firsts h h1 h2
  rw [all_firsts h ha h1 h2, List.length_map]
  exact h3
theorem all_few {J K : List (Nat × Nat)} (h : Eff J K) {L : List (Nat × List Nat)} (ha : AllP J L) : L.length ≤ 2 * J.length := by
  obtain ⟨A, h1, h2⟩ := rise_of (numsK K)
  rw [all_firsts h ha h1 h2, List.length_map]
  have h3 := List.length_filter_le (fun x => leastJ J x == x) A
  have h4 := nodup_le (l := A) (h1.imp fun h => Nat.ne_of_lt h) (k := numsK K) (fun x hx => (h2 x).1 hx)
  rw [numsK_len] at h4
  have := h.few
  omega
/-- The joins of both on the way: all that is written lies in T. -/
structure PlayI (T V : Nat → Prop) (P : Addr → Value → Prop) (W : World) (pb : Nat) (J K : List (Nat × Nat)) (ao : Option Addr) (L : List (Nat × Nat)) : Prop where
  new : ∀ j, W.heap.size ≤ j → T j
  eff : Eff J L
  row : PairR W ao L
  vlt : ∀ j, V j → j < W.heap.size
  vap : Apart V ao L
  un : ∃ S, UnIS P W S pb K ∧ (∀ j, S j → T j) ∧ Apart S ao L
section
variable {T V : Nat → Prop} {P : Addr → Value → Prop} {W U : World} {pb : Nat} {J K : List (Nat × Nat)} {ao : Option Addr} {L : List (Nat × Nat)}
theorem PlayI.join (h : PlayI T V P W pb J K ao L) (hK : K.length ≤ 1000) (a b : Nat) : Calls Try.prog 8 #[unP pb, .int .u32 (a : Int), .int .u32 (b : Int)] W fun e w' =>
    (∃ (r : Nat) (two : Bool), e = .returned (.tuple #[.int .u32 (r : Int), .bool two])) ∧ PlayI T V P w' pb J (K ++ [(a, b)]) ao L ∧ Turned T W w' := by
  obtain ⟨S, h1, h2, h3⟩ := h.un
  refine (h1.join hK a b).mono ?_
  rintro e w' ⟨rfl, ht, hu⟩
  refine ⟨⟨_, _, rfl⟩, ⟨fun j hj => h.new j (Nat.le_trans ht.size hj), h.eff, h.row.turned ht h3, fun j hj => Nat.lt_of_lt_of_le (h.vlt j hj) ht.size, h.vap, growS S W w', hu, ?_, h3.grow h.row⟩, ht.mono h2⟩
  intro j hj
  rcases hj with hj | hj
  · exact h2 j hj
  · exact h.new j hj.1
theorem PlayI.below (h : PlayI T V P W pb J K ao L) (k : Below W.heap.size W U) : PlayI T V P U pb J K ao L := by
  obtain ⟨S, h1, h2, h3⟩ := h.un
  exact ⟨fun j hj => h.new j (Nat.le_trans k.size hj), h.eff, h.row.below k, fun j hj => Nat.lt_of_lt_of_le (h.vlt j hj) k.size, h.vap, S, h1.below k, h2, h3⟩
theorem PlayI.ref (h : PlayI T V P W pb J K ao L) (hJ : J.length ≤ 1000) (cap a b : Nat) : Calls Try.prog 9 #[.slice ao L.length cap, .int .u32 (a : Int), .int .u32 (b : Int)] W fun e w' =>
    ∃ (aoN : Option Addr) (capN : Nat) (two : Bool) (M : List (Nat × Nat)), e = .returned (.tuple #[.slice aoN M.length capN, .bool two]) ∧ PlayI T V P w' pb (J ++ [(a, b)]) K aoN M ∧ Below W.heap.size W w' := by
  refine (refJoin_any (cap := cap) a b h.row (by have := h.eff.few; omega) h.eff.nz).mono ?_
  rintro e w' ⟨aoN, capN, rfl, h1, h2, h3⟩
  obtain ⟨S, h4, h5, h6⟩ := h.un
  refine ⟨aoN, capN, _, _, rfl, ⟨fun j hj => h.new j (Nat.le_trans h2.size hj), (h.eff.join a b).1, h1, fun j hj => Nat.lt_of_lt_of_le (h.vlt j hj) h2.size, fun h0 x hx hs => ?_, S, h4.below h2, h5, fun h0 x hx hs => ?_⟩, h2⟩
  · rcases h3 with ⟨e1, e2⟩ | h3
    · rw [e2] at h0
      rw [e1] at hx
      exact h.vap h0 x hx hs
    · have := h3 x hx
      have := h.vlt _ hs
      omega
  · rcases h3 with ⟨e1, e2⟩ | h3
    · rw [e2] at h0
      rw [e1] at hx
      exact h6 h0 x hx hs
    · have := h3 x hx
      have := h4.un.lt _ hs
      omega
/-- A box beside the reference's list. -/
theorem PairR.box {n0 : Nat} {v0 : Value} {t : TypeId} {fr : Nat × Nat} (h : PairR W ao L) (hb : W.heap[n0]? = some (.cells #[v0] t fr)) (hv0 : ∀ m : Int, v0 ≠ .int .u32 m) : Apart (fun j => j = n0) ao L := fun h0 x hx hn => by
  obtain ⟨g, o, e, hc⟩ := h h0
  obtain ⟨y, hy⟩ : ∃ y, L[0]? = some y := ⟨_, List.getElem?_eq_getElem h0⟩
  have h1 := (hc 0 y hy).1
  rw [e] at hx
  cases hx
  have hn : g = n0 := hn
  subst hn
  unfold World.cell? at h1
  dsimp only at h1
  rw [hb] at h1
  cases ho : o + 0 * 2 with
  | zero =>
    rw [ho] at h1
    simp at h1
    exact hv0 _ h1
  | succ k =>
    rw [ho] at h1
    simp at h1
theorem PlayI.box {n0 : Nat} {v0 : Value} {t : TypeId} {fr : Nat × Nat} (h : PlayI T V (fun _ _ => False) W pb J K ao L) (hb : W.heap[n0]? = some (.cells #[v0] t fr)) (hv0 : ∀ m : Int, v0 ≠ .int .u32 m) (hn : ¬ T n0) (v : Value) : PlayI T V (fun _ _ => False) (W.setCell ⟨n0, 0, none⟩ v) pb J K ao L := by
  obtain ⟨S, h1, h2, h3⟩ := h.un
  have ht := Turned.set (S := fun j => j = n0) (w := W) (a := ⟨n0, 0, none⟩) rfl v
  exact ⟨fun j hj => h.new j (Nat.le_trans ht.size hj), h.eff, h.row.turned ht (h.row.box hb hv0), fun j hj => Nat.lt_of_lt_of_le (h.vlt j hj) ht.size, h.vap, S, h1.beside ht (fun j hj e => hn (e ▸ h2 j hj)) (fun _ _ h => h.elim), h2, h3⟩
end
end Go.Proofs.Ytjbfjglomonanaa

