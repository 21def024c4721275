/-
  THE LAW UtfMakes: THE WALK.
-/
import Derived.Test.YthfflepgiikbjaaUtfTexts
namespace Go.Proofs.Ythfflepgiikbjaa
open Go.RowKit
open Utf

/-- A slice of integers that came in: nil, or a row of 'cap' cells. -/
def IsRow (k : IntKind) (w : World) (a : Option Addr) (len cap : Nat) (zs : List Int) : Prop :=
  (a = none ∧ len = 0 ∧ cap = 0 ∧ zs = []) ∨
  ∃ x, a = some x ∧ len ≤ cap ∧ cap ≤ maxLen ∧ zs.length = cap ∧ (∀ i, i < zs.length → w.cell? (x.add i) = some (.int k (zs.getD i 0))) ∧ ∀ n ∈ zs, (Lit.int k n).wf = true

theorem isRow_ints {w : World} {a : Option Addr} {len cap : Nat} {zs : List Int} (h : IsRow .i64 w a len cap zs) : IntsAt w.heap.size w a len (zs.take len) := by
  rcases h with ⟨rfl, rfl, rfl, rfl⟩ | ⟨x, rfl, hl, hm, hz, hc, _⟩
  · exact ⟨rfl, .inl rfl⟩
  · refine ⟨by rw [List.length_take]; omega, ?_⟩
    by_cases h0 : len = 0
    · exact .inl h0
    · right
      obtain ⟨b, off, spot⟩ := x
      have h1 := hc 0 (by omega)
      have hspot : spot = none := by simpa [Addr.add] using World.cell?_spot h1
      subst hspot
      refine ⟨b, off, rfl, World.block_lt_of_cell? w _ (by simpa [Addr.add] using h1), ?_⟩
      intro i hi
      have := hc i (by omega)
      have e : (⟨b, off, none⟩ : Addr).add i = ⟨b, off + i, none⟩ := by unfold Addr.add; split <;> simp_all
      rw [e] at this
      rw [this, List.getElem?_take_of_lt hi]
      simp

/-- What holds of 'good' and of what has been put together when k numbers have been gone over. -/
def Good (w : World) (zs : List Int) (k : Nat) (v g : Value) (wr : World) : Prop :=
  (g = .bool true ∧ AllMay (zs.take k) ∧ wr.ownsRow w.heap.size 5 1 v (encs (zs.take k)).length ((encs (zs.take k)).map (Value.int .u8))) ∨ (g = .bool false ∧ ¬ AllMay zs)

set_option maxRecDepth 100000 in
set_option maxHeartbeats 2000000 in
theorem utfMakes_any (a : Option Addr) (len cap : Nat) (zs : List Int) (w : World) (h : IntsAt w.heap.size w a len zs) (hm : len ≤ 9223372036854775807) :
    Calls Try.prog 5 #[.slice a len cap] w fun e w' => e = .returned (.bool true) ∧ Below w.heap.size w w' := by
  by_cases hs : 3000 < len
  · clear h
    go_enter Try.func5, Try.ntmps5
    go_wp2_with (go_at_call 8; refine (known_any _).mono ?_; rintro e w' ⟨rfl, hB⟩)
    go_ret
    exact ⟨rfl, hB⟩
  · have hs3 : len ≤ 3000 := by omega
    clear hs hm
    have HI := Lib.hid h
    obtain ⟨hzl, hcs⟩ := h
    have HL := Lib.hid hzl
    have HC := Lib.hid hcs
    clear hcs hzl
    obtain ⟨i0, hi, hz0, hz1, hz2⟩ := info_parts info_u8
    go_enter Try.func5, Try.ntmps5
    go_wp2_with fail
    go_loopw [3, 4, 5] (fun v g i wr => ∃ k : Nat, k ≤ len ∧ i = .int .i64 k ∧ Below w.heap.size w wr ∧ Good w zs k v g wr) (fun _ _ i _ => len - (intOf i).toNat)
    case atStart => exact ⟨0, by omega, rfl, Below.refl _ _, .inl ⟨rfl, by simp [AllMay], by simpa [encs] using World.ownsRow_nil _ _ _ _⟩⟩
    case round =>
      obtain ⟨k, hk, rfl, hB, HG⟩ := hrel
      by_cases hlt : k < len
      · obtain ⟨b, off, rfl, hb, hc⟩ : ∃ b off, a = some ⟨b, off, none⟩ ∧ b < w.heap.size ∧ ∀ i, i < len → w.cell? ⟨b, off + i, none⟩ = some (.int .i64 (zs[i]?.getD 0)) := by
          rcases HC.out with h0 | h0
          · omega
          · exact h0
        have hcx := (hB.cell (p := ⟨b, off + k, none⟩) hb).trans (hc k hlt)
        clear hc
        rcases HG with ⟨rfl, HA, hown⟩ | ⟨rfl, HA⟩
        · have hel := encs_len (zs.take k)
          have htl : (zs.take k).length ≤ k := List.length_take_le _ _
          by_cases hmay : May (zs[k]?.getD 0)
          · have HM := Lib.hid hmay
            have hr4 := rsize_le (zs[k]?.getD 0)
            clear hmay
            go_wp2_with (first | (go_at_call 13; refine (may_yes _ _ HM.out).mono ?_; rintro e w' ⟨rfl, rfl⟩) | (go_at_call 14; refine (refput_any _ _ HM.out).mono ?_; rintro e w' ⟨rfl, rfl⟩) | (at_builtin; refine wpList_append_own _ rfl _ _ 23 rfl w.heap.size 5 i0 (.int .u8 0) 1 1 Try.underlying23 hi hz0 hz1 hz2 rfl (by decide) _ _ _ rfl (hown.alloc _) ⟨wr.heap.size, 0, none⟩ (rsize (zs[k]?.getD 0)) (rsize (zs[k]?.getD 0)) ((enc (zs[k]?.getD 0)).map (Value.int .u8)) rfl (by rw [List.length_map, rsize_enc HM.out, Nat.mul_one]) (cells_new _ _ _ _ (fun j u h => by simpa using h)) (by simp [Value.oneCell']) (by unfold maxLen; omega) (by omega) (by have := hB.size; simp; omega) ?_; intro v' w3 hown' hgrow' _))
            have hB3 : Below w.heap.size w w3 := (hB.alloc hB.size _).grown hgrow' (by have := hB.size; simp; omega) (fun k e => (hown.lt k e).1)
            go_roundw
            case rel =>
              refine ⟨k + 1, by omega, by simp, hB3, .inl ⟨rfl, HA.snoc (by have := HL.out; omega) HM.out, ?_⟩⟩
              rw [encs_snoc _ _ (by have := HL.out; omega), List.length_append, ← rsize_enc HM.out, List.map_append]
              exact hown'
            case measure => simp [intOf]; omega
          · have HM := Lib.hid hmay
            clear hmay hown
            go_wp2_with (go_at_call 13; refine (may_no _ _ HM.out).mono ?_; rintro e w' ⟨rfl, rfl⟩)
            go_roundw
            case rel => exact ⟨k + 1, by omega, by simp, hB, .inr ⟨rfl, fun h => HM.out (h.at (by have := HL.out; omega))⟩⟩
            case measure => simp [intOf]; omega
        · have HA2 := Lib.hid HA
          clear HA
          go_wp2_with fail
          go_roundw
          case rel => exact ⟨k + 1, by omega, by simp, hB, .inr ⟨rfl, HA2.out⟩⟩
          case measure => simp [intOf]; omega
      · obtain rfl : k = len := by omega
        have HO := Lib.hid (of_any a k cap zs wr ((HI.out.below hB).mono hB.size) (by omega))
        rcases HG with ⟨rfl, HA, hown⟩ | ⟨rfl, HA⟩
        · have hall : zs.take k = zs := List.take_of_length_le (by have := HL.out; omega)
          rw [hall] at HA hown
          clear hall
          have HF : Hid (∀ W, Below wr.heap.size wr W → (convert 23 9 u3).run Try.prog W = .ok (.string (strOfNums (encs zs))) W) := by
            intro W hW
            rcases owns_forms hown with ⟨rfl, hx⟩ | ⟨g, cp, rfl, hg, hx, hcell⟩
            · rw [hx]; exact nil_string W
            · exact owns_string hx hcell hg hW
          have HV := Lib.hid (owns_forms hown)
          clear hown
          go_wp2_with fail
          refine HO.out.mono ?_
          rintro e w1 ⟨⟨_, rfl⟩ | ⟨h, _⟩, hB1⟩
          · have hcv := HF.out w1 hB1
            rcases HV.out with ⟨rfl, _⟩ | ⟨g, cp, rfl, _⟩
            all_goals
              go_wp2_with (first | (go_at_call 12; refine (num_any _ _).mono ?_; rintro e w' ⟨rfl, rfl⟩) | (go_at_call 8; refine (known_any _).mono ?_; rintro e w2 ⟨rfl, hB2⟩))
              go_ret
              exact ⟨rfl, hB.trans ((below_chain hB1 hB2).mono hB.size)⟩
          · exact (h HA).elim
        · have HA2 := Lib.hid HA
          clear HA
          go_wp2_with fail
          refine HO.out.mono ?_
          rintro e w1 ⟨⟨h, _⟩ | ⟨_, rfl⟩, hB1⟩
          · exact (HA2.out h).elim
          · go_wp2_with (first | (go_at_call 12; refine (num_any _ _).mono ?_; rintro e w' ⟨rfl, rfl⟩) | (go_at_call 8; refine (known_any _).mono ?_; rintro e w2 ⟨rfl, hB2⟩))
            go_ret
            exact ⟨rfl, hB.trans ((below_chain hB1 hB2).mono hB.size)⟩

theorem utfMakes_walk (a : Option Addr) (len cap : Nat) (zs : List Int) (w : World) (h : IsRow .i64 w a len cap zs) :
    Calls Try.prog 5 #[.slice a len cap] w fun e w' => e = .returned (.bool true) ∧ Below w.heap.size w w' :=
  utfMakes_any a len cap _ w (isRow_ints h) (by
    rcases h with ⟨_, rfl, _⟩ | ⟨_, _, h1, h2, _⟩
    · omega
    · unfold maxLen at h2; omega)
end Go.Proofs.Ythfflepgiikbjaa
