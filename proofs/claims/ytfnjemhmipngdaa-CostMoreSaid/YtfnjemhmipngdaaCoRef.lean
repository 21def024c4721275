/-
  CONTRACT OF THE REFERENCE'S Size.
-/
import Derived.Test.YtfnjemhmipngdaaCoSize
namespace Go.Proofs.Ytfnjemhmipngdaa
open Go.RowKit
set_option linter.unusedVariables false
set_option linter.unusedSimpArgs false

abbrev intN (n : Nat) : Value := .int .i64 (n : Int)
/-- The numbers of a list, by their places. -/
def nthI (kn : List Nat) (j : Nat) : Int := (kn.getD j 0 : Int)
def knN (kn : List Nat) (v : Int) : Bool := amongB (nthI kn) kn.length v
theorem dvB_ref (kn : List Nat) (l : LookD) (k : Nat) : dvB (knN kn) l k = (decide (0 ≤ l.v k) && (amongB (nthI kn) kn.length (l.v k) || amongB l.v k (l.v k))) := rfl
set_option maxRecDepth 100000 in
set_option maxHeartbeats 16000000 in
theorem rsize_any (l : LookD) (ao : Option Addr) (cap : Nat) (kn : List Nat) (w : World) (hkn : ElR intN w ao kn) (hle : kn.length ≤ 1000000) : Calls Try.prog 9 #[lookV l, .slice ao kn.length cap] w fun e w' => (∃ r, e = .returned (fV r) ∧ SizeR (knN kn) l r) ∧ Below w.heap.size w w' := by
  have HB1 := Lib.hid ((Below.refl w.heap.size w).alloc (Nat.le_refl _) (lookO l))
  have hkn1 := hkn.below HB1.out
  have hc0 := heap_alloc_new w (lookO l)
  obtain ⟨W, hW⟩ : ∃ W, W = w.alloc (lookO l) := ⟨_, rfl⟩
  rw [← hW] at HB1 hc0 hkn1
  obtain ⟨n0, hn0⟩ : ∃ n0, n0 = w.heap.size := ⟨_, rfl⟩
  rw [← hn0] at hc0
  have HW := Lib.hid hW
  have HN0 := Lib.hid hn0
  have c0 : W.cell? ⟨n0, 0, none⟩ = some (fV l.c) := cell_in hc0 rfl
  have CV : Hid (∀ U, Even W U → ∀ j, j < 3 → U.cell? ⟨n0, 1 + j, none⟩ = some (.int .i64 (l.v j))) := Lib.hid fun U h j hj => h.cell (by
    rcases (by omega : j = 0 ∨ j = 1 ∨ j = 2) with e | e | e <;> subst e <;> exact cell_in hc0 rfl)
  have CD : Hid (∀ U, Even W U → ∀ j, j < 3 → U.cell? ⟨n0, 4 + j, none⟩ = some (fV (l.d j))) := Lib.hid fun U h j hj => h.cell (by
    rcases (by omega : j = 0 ∨ j = 1 ∨ j = 2) with e | e | e <;> subst e <;> exact cell_in hc0 rfl)
  have HK := Lib.hid hkn1
  have HNum := Lib.hid plain_any
  clear hW hn0 hkn hkn1 hc0
  go_enter Try.func9, Try.ntmps9
  go_upto_region 1 with fail
  rw [← HW.out, ← HN0.out]
  go_wp2
  clear c0
  go_loopg [5, 6] 3 (fun gg x i wr => ∃ k r : Nat, k ≤ 3 ∧ 3 - k ≤ gg ∧ i = .int .i64 (k : Int) ∧ x = fV r ∧ ChR (knN kn) l k r ∧ Even W wr)
  case atStart => exact ⟨0, _, by omega, by omega, rfl, rfl, rfl, Even.refl _⟩
  case round =>
    obtain ⟨k, r, hk, hg, rfl, rfl, hch, hev⟩ := hrel
    have HEv := Lib.hid hev
    have HCh := Lib.hid hch
    clear hev hch
    obtain rfl | hk3 : k = 3 ∨ k < 3 := by omega
    · go_wp2_with (go_at_call 11; refine (HNum.out _ _).mono ?_; rintro e w' ⟨rfl, rfl⟩)
      go_ret
      exact ⟨⟨_, rfl, _, HCh.out, rfl⟩, HB1.out.trans (HEv.out.below _)⟩
    · have cv := CV.out wr HEv.out k hk3
      have cd := CD.out wr HEv.out k hk3
      have HDv := Lib.hid (dvB_ref kn l k)
      have HCh2 : Hid (∀ x, ((dvB (knN kn) l k = true ∧ DivR r (l.d k) x) ∨ (dvB (knN kn) l k = false ∧ x = r)) → ChR (knN kn) l (k + 1) x) := Lib.hid fun x h => ⟨r, HCh.out, h⟩
      obtain ⟨v, hv⟩ : ∃ v, v = l.v k := ⟨_, rfl⟩
      rw [← hv] at cv HDv
      have HV := Lib.hid hv
      clear hv
      obtain ⟨d, hd⟩ : ∃ d, d = l.d k := ⟨_, rfl⟩
      rw [← hd] at cd HCh2
      clear hd
      have e3 : decide ((k : Int) < 3) = true := decide_eq_true (by omega)
      obtain ⟨wo, hwo⟩ : ∃ wo, wo = wr := ⟨_, rfl⟩
      subst hwo
      go_wp2
      go_loopg [8, 9] kn.length (fun gg b j wx => ∃ m : Nat, m ≤ kn.length ∧ kn.length - m ≤ gg ∧ j = .int .i64 (m : Int) ∧ b = .bool (amongB (nthI kn) m v) ∧ wo = wx)
      case atStart => exact ⟨0, by omega, by omega, rfl, rfl, rfl⟩
      case round =>
        obtain ⟨m, hm, hgm, rfl, rfl, rfl⟩ := hrel
        obtain rfl | hml : m = kn.length ∨ m < kn.length := by omega
        · obtain ⟨b1, hb1⟩ : ∃ b1, b1 = amongB (nthI kn) kn.length v := ⟨_, rfl⟩
          rw [← hb1] at HDv ⊢
          clear hb1
          go_wp2
          go_loopg [8, 10] k (fun gg b j wx => ∃ m : Nat, m ≤ k ∧ k - m ≤ gg ∧ j = .int .i64 (m : Int) ∧ b = .bool (b1 || amongB l.v m v) ∧ wo = wx)
          case atStart => exact ⟨0, by omega, by omega, rfl, by rw [show amongB l.v 0 v = false from rfl, Bool.or_false], rfl⟩
          case round =>
            obtain ⟨m, hm, hgm, rfl, rfl, rfl⟩ := hrel
            obtain rfl | hml : m = k ∨ m < k := by omega
            · have HDv2 : Hid (dvB (knN kn) l m = (decide (0 ≤ v) && (b1 || amongB l.v m v))) := Lib.hid (HDv.out)
              clear HDv
              obtain ⟨b2, hb2⟩ : ∃ b2, b2 = (b1 || amongB l.v m v) := ⟨_, rfl⟩
              rw [← hb2] at HDv2 ⊢
              clear hb2
              by_cases hv0 : 0 ≤ v
              · have e0 : decide (0 ≤ v) = true := decide_eq_true hv0
                rw [e0] at HDv2
                cases b2 with
                | true =>
                  obtain ⟨r2, w1, hq, hdr, he⟩ := div_run 22 r d Try.prog wo
                  have HE2 := Lib.hid (HEv.out.trans he)
                  have HC3 := Lib.hid (HCh2.out r2 (.inl ⟨HDv2.out, hdr⟩))
                  clear hdr he hv0
                  go_wp2
                  go_roundg (3 - (m + 1))
                  case measure => omega
                  case rel => exact ⟨m + 1, _, by omega, by omega, by go_num, rfl, HC3.out, HE2.out⟩
                | false =>
                  have HC3 := Lib.hid (HCh2.out r (.inr ⟨HDv2.out, rfl⟩))
                  clear hv0
                  go_wp2
                  go_roundg (3 - (m + 1))
                  case measure => omega
                  case rel => exact ⟨m + 1, _, by omega, by omega, by go_num, rfl, HC3.out, HEv.out⟩
              · have e0 : decide (0 ≤ v) = false := decide_eq_false hv0
                rw [e0] at HDv2
                have HC3 := Lib.hid (HCh2.out r (.inr ⟨HDv2.out, rfl⟩))
                clear hv0
                go_wp2
                go_roundg (3 - (m + 1))
                case measure => omega
                case rel => exact ⟨m + 1, _, by omega, by omega, by go_num, rfl, HC3.out, HEv.out⟩
            · have HS := Lib.hid (amongB_succ l.v m v)
              have cm := CV.out wo HEv.out m (by omega)
              obtain ⟨vm, hvm⟩ : ∃ vm, vm = l.v m := ⟨_, rfl⟩
              rw [← hvm] at cm HS
              clear hvm
              have e4 : decide ((m : Int) < (k : Int)) = true := decide_eq_true (by omega)
              have e5 : decide ((m : Int) < 3) = true := decide_eq_true (by omega)
              cases hb : (b1 || amongB l.v m v) with
              | true =>
                have HS2 : Hid ((b1 || amongB l.v (m + 1) v) = true) := Lib.hid (by rw [HS.out, ← Bool.or_assoc, hb]; rfl)
                clear hb
                go_wp2
                go_roundg (k - (m + 1))
                case measure => omega
                case rel => exact ⟨m + 1, by omega, by omega, by go_num, by rw [HS2.out], rfl⟩
              | false =>
                have HS2 : Hid ((b1 || amongB l.v (m + 1) v) = (vm == v)) := Lib.hid (by rw [HS.out, ← Bool.or_assoc, hb]; rfl)
                clear hb
                go_wp2
                go_roundg (k - (m + 1))
                case measure => omega
                case rel => exact ⟨m + 1, by omega, by omega, by go_num, by rw [HS2.out], rfl⟩
        · have HS := Lib.hid (amongB_succ (nthI kn) m v)
          obtain ⟨g, o, rfl, hcell⟩ := HK.out (by omega)
          have cm := HEv.out.cell (hcell m _ (List.getElem?_eq_getElem hml))
          obtain ⟨vm, hvm⟩ : ∃ vm : Int, vm = (kn[m] : Int) := ⟨_, rfl⟩
          have hnm : nthI kn m = vm := by rw [hvm]; unfold nthI; rw [List.getD_eq_getElem?_getD, List.getElem?_eq_getElem hml]; rfl
          rw [hnm] at HS
          simp only [intN] at cm
          rw [← hvm] at cm
          clear hvm hnm hcell
          have e4 : decide ((m : Int) < (kn.length : Int)) = true := decide_eq_true (by omega)
          cases hb : amongB (nthI kn) m v with
          | true =>
            have HS2 : Hid (amongB (nthI kn) (m + 1) v = true) := Lib.hid (by rw [HS.out, hb]; rfl)
            clear hb
            go_wp2
            go_roundg (kn.length - (m + 1))
            case measure => omega
            case rel => exact ⟨m + 1, by omega, by omega, by go_num, by rw [HS2.out], rfl⟩
          | false =>
            have HS2 : Hid (amongB (nthI kn) (m + 1) v = (vm == v)) := Lib.hid (by rw [HS.out, hb]; rfl)
            clear hb
            go_wp2
            go_roundg (kn.length - (m + 1))
            case measure => omega
            case rel => exact ⟨m + 1, by omega, by omega, by go_num, by rw [HS2.out], rfl⟩
end Go.Proofs.Ytfnjemhmipngdaa
