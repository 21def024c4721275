/-
  SLICES THAT A CALL MAKES, one element more; CONTRACT OF numbers.
-/
import Derived.Test.YtfnjemhmipngdaaCoRef
import Derived.Test.YtfnjemhmipngdaaRowK
namespace Go.Proofs.Ytfnjemhmipngdaa
open Go.RowKit
set_option linter.unusedVariables false
set_option linter.unusedSimpArgs false

section
variable {α : Type} {enc : α → Value} {e : TypeId} {B : Nat} {W U : World} {ao : Option Addr} {cap : Nat} {l : List α}
/-- A slice of one's own: its block lies from B on. -/
def OwnR (enc : α → Value) (e : TypeId) (B : Nat) (W : World) (ao : Option Addr) (cap : Nat) (l : List α) : Prop := RowK W e 1 ao l.length cap (l.map enc) ∧ ∀ a, ao = some a → B ≤ a.block
theorem OwnR.below (h : OwnR enc e B W ao cap l) (k : Below W.heap.size W U) : OwnR enc e B U ao cap l := ⟨h.1.below k, h.2⟩
theorem OwnR.nil : OwnR enc e B W none 0 [] := ⟨⟨rfl, .inl ⟨rfl, rfl, rfl⟩⟩, fun a ha => by cases ha⟩
theorem OwnR.elR (h : OwnR enc e B W ao cap l) : ElR enc W ao l := fun hl => by
  obtain ⟨g, o, e1, hc, _⟩ := h.1.at_ hl
  exact ⟨g, o, e1, fun j x hx => hc j _ (by rw [List.getElem?_map, hx]; rfl)⟩
theorem OwnR.more (h : OwnR enc e B W ao cap l) (hB : B ≤ W.heap.size) (x : α) (v : Value) (hv : v = enc x) (g o' cap' : Nat) (w9 : World)
    (h1 : RowK w9 e 1 (some ⟨g, o', none⟩) (l.length + 1) cap' (l.map enc ++ [v])) (h2 : (W.alloc (.cells #[v] e)).grownBy w9 (some g)) (h3 : (ao = some ⟨g, o', none⟩ ∧ l.length < cap) ∨ (W.alloc (.cells #[v] e)).heap.size ≤ g) :
    Below B W w9 ∧ OwnR enc e B w9 (some ⟨g, o', none⟩) cap' (l ++ [x]) := by
  have hs : (W.alloc (.cells #[v] e)).heap.size = W.heap.size + 1 := World.size_alloc _ _
  have hgB : B ≤ g := by
    rcases h3 with ⟨h4, _⟩ | h4
    · exact h.2 _ h4
    · omega
  have hba := (Below.refl W.heap.size W).alloc (Nat.le_refl _) (.cells #[v] e)
  refine ⟨(hba.mono hB).trans ⟨h2.os, h2.tape, h2.output, h2.size, fun k hk => h2.block k (by omega) (fun e => by injection e with e; omega)⟩, ?_, fun a ha => by injection ha with ha; subst ha; exact hgB⟩
  rw [List.length_append, List.map_append]
  subst hv
  exact h1
theorem news_one (W : World) (v : Value) (e : TypeId) : ∀ j u, ([v] : List Value)[j]? = some u → (W.alloc (.cells #[v] e)).cell? ((⟨W.heap.size, 0, none⟩ : Addr).add j) = some u := fun j u hu => by
  rw [Addr.add_mid, Nat.zero_add]
  exact cell_in (heap_alloc_new W _) (by simpa using hu)
end
theorem info_int : ∃ (i : TypeInfo) (z : Value), Try.prog.info? 3 = some i ∧ i.zero = some z ∧ i.size = 1 ∧ i.bytes = 8 ∧ z.cells.size = 1 := by
  obtain ⟨i, hi⟩ : ∃ i, Try.prog.info? 3 = some i := Option.isSome_iff_exists.1 (by kernel_rfl)
  refine ⟨i, .int .i64 0, hi, ?_⟩
  have h : (Try.prog.info? 3).map (fun i => (i.zero, i.size, i.bytes)) = some (some (.int .i64 0), 1, 8) := by kernel_rfl
  rw [hi] at h
  simp only [Option.map_some, Option.some.injEq, Prod.mk.injEq] at h
  exact ⟨h.1, h.2.1, h.2.2, rfl⟩
/-- The numbers that a list says to be known. -/
def numsL (kb : List Bool) (k : Nat) : List Nat := (List.range k).filter fun j => kb.getD j false
theorem numsL_succ (kb : List Bool) (k : Nat) : numsL kb (k + 1) = if kb.getD k false = true then numsL kb k ++ [k] else numsL kb k := by
  unfold numsL
  rw [List.range_succ, List.filter_append]
  by_cases h : kb.getD k false = true
  · rw [if_pos h, List.filter_cons, if_pos h]
    rfl
  · rw [if_neg h, List.filter_cons, if_neg h]
    simp
theorem numsL_len (kb : List Bool) (k : Nat) : (numsL kb k).length ≤ k := by
  unfold numsL
  have := List.length_filter_le (fun j => kb.getD j false) (List.range k)
  rw [List.length_range] at this
  exact this
set_option maxRecDepth 100000 in
set_option maxHeartbeats 16000000 in
theorem numbers_any (ao : Option Addr) (cap : Nat) (kb : List Bool) (w : World) (hkb : ElR Value.bool w ao kb) (hle : kb.length ≤ 1000000) : Calls Try.prog 10 #[.slice ao kb.length cap] w fun e w' =>
    (∃ ao' cap', e = .returned (.slice ao' (numsL kb kb.length).length cap') ∧ ElR intN w' ao' (numsL kb kb.length)) ∧ Below w.heap.size w w' := by
  have HK := Lib.hid hkb
  clear hkb
  obtain ⟨iN, zN, hiN, hzN, hsN, hbN, hcN⟩ := info_int
  have HIN := Lib.hid hiN
  have HZN := Lib.hid hzN
  have HSN := Lib.hid hsN
  have HBN := Lib.hid hbN
  have HCN := Lib.hid hcN
  clear hiN hzN hsN hbN hcN
  go_enter Try.func10, Try.ntmps10
  go_wp2
  go_loopg [3, 4] kb.length (fun gg s i wr => ∃ k ao' cap', k ≤ kb.length ∧ kb.length - k ≤ gg ∧ i = .int .i64 (k : Int) ∧ s = .slice ao' (numsL kb k).length cap' ∧ OwnR intN 3 w.heap.size wr ao' cap' (numsL kb k) ∧ Below w.heap.size w wr)
  case atStart => exact ⟨0, none, 0, by omega, by omega, rfl, rfl, OwnR.nil, Below.refl _ _⟩
  case round =>
    obtain ⟨k, ao', cap', hk, hg, rfl, rfl, how, hbe⟩ := hrel
    have HO := Lib.hid how
    have HB := Lib.hid hbe
    clear how hbe
    obtain rfl | hkl : k = kb.length ∨ k < kb.length := by omega
    · go_wp2
      go_ret
      exact ⟨⟨_, _, rfl, HO.out.elR⟩, HB.out⟩
    · obtain ⟨g, o, rfl, hcell⟩ := HK.out (by omega)
      have e4 : decide ((k : Int) < (kb.length : Int)) = true := decide_eq_true (by omega)
      have cm := HB.out.cell (p := ⟨g, o + k, none⟩) (World.block_lt_of_cell? w _ (hcell k _ (List.getElem?_eq_getElem hkl)))
      rw [hcell k _ (List.getElem?_eq_getElem hkl)] at cm
      have hgd : kb.getD k false = kb[k] := by rw [List.getD_eq_getElem?_getD, List.getElem?_eq_getElem hkl]; rfl
      have HSu := Lib.hid (numsL_succ kb k)
      have HLe := Lib.hid (numsL_len kb k)
      rw [hgd] at HSu
      clear hgd hcell
      cases hb : kb[k] with
      | false =>
        rw [hb] at cm HSu
        have HS2 : Hid (numsL kb (k + 1) = numsL kb k) := Lib.hid (by rw [HSu.out]; rfl)
        clear hb HSu
        go_wp2
        go_roundg (kb.length - (k + 1))
        case measure => omega
        case rel => exact ⟨k + 1, _, _, by omega, by omega, by go_num, by rw [HS2.out], by rw [HS2.out]; exact HO.out, HB.out⟩
      | true =>
        rw [hb] at cm HSu
        have HS2 : Hid (numsL kb (k + 1) = numsL kb k ++ [k]) := Lib.hid (by rw [HSu.out]; rfl)
        clear hb HSu
        have HVl := Lib.hid (HO.out.1.below ((Below.refl wr.heap.size wr).alloc (Nat.le_refl _) (.cells #[.int .i64 (k : Int)] 3)))
        have HNw := Lib.hid (news_one wr (.int .i64 (k : Int)) 3)
        have HEnd := Lib.hid (HO.out.more HB.out.size k (.int .i64 (k : Int)) rfl)
        have hle2 := HLe.out
        have hl2 : (numsL kb (k + 1)).length = (numsL kb k).length + 1 := by rw [HS2.out, List.length_append]; rfl
        have HL2 := Lib.hid hl2
        have HE8 : Hid (∀ (g o cp : Nat) W9, Below w.heap.size wr W9 ∧ OwnR intN 3 w.heap.size W9 (some ⟨g, o, none⟩) cp (numsL kb k ++ [k]) → Below w.heap.size w W9 ∧ OwnR intN 3 w.heap.size W9 (some ⟨g, o, none⟩) cp (numsL kb (k + 1))) := Lib.hid (fun g o cp W9 h => ⟨HB.out.trans h.1, by rw [HS2.out]; exact h.2⟩)
        clear hl2 HS2 HLe
        generalize numsL kb k = l0 at *
        go_wp2_with (refine wpList_append_rowk (by rfl) (.tmp 15) (.tmp 17) 32 rfl 3 iN zN 1 8 Try.underlying32 HIN.out HZN.out HSN.out HBN.out HCN.out (by decide) ao' l0.length cap' (l0.map intN) rfl HVl.out ⟨wr.heap.size, 0, none⟩ 1 [.int .i64 (k : Int)] rfl rfl HNw.out (by simp [Value.oneCell']) (by unfold maxLen; omega) (by omega) ?_; intro g9 o9 cap9 w9 hR9 hG9 hor9; have HE9 := Lib.hid (HEnd.out _ _ _ _ hR9 hG9 hor9); clear hR9 hG9 hor9)
        go_roundg (kb.length - (k + 1))
        case measure => omega
        case rel => exact ⟨k + 1, _, _, by omega, by omega, by go_num, by rw [HL2.out], (HE8.out _ _ _ _ HE9.out).2, (HE8.out _ _ _ _ HE9.out).1⟩
end Go.Proofs.Ytfnjemhmipngdaa
