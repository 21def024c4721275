/-
  A DICTIONARY IN MEMORY. CONTRACTS OF bytes.Equal, (Dict).slot.
-/
import Derived.Test.YtlamdhklfibjmaaDoorDictList
import Derived.Laws.BitsLemmas
import Derived.Laws.BytesArg
import Derived.WalkMore
namespace Go.Proofs.YtlamdhklfibjmaaDoor
open Go.RowKit
open Utf Term
set_option linter.unusedVariables false
set_option linter.unusedSimpArgs false

set_option maxRecDepth 100000 in
theorem bytesEqual_any (b1 o1 c1 b2 o2 c2 : Nat) (xs ys : List Int) (hx : ∀ c ∈ xs, IsByte c) (hy : ∀ c ∈ ys, IsByte c) (w : World) (h1 : RowC w b1 o1 (xs.map (Value.int .u8))) (h2 : RowC w b2 o2 (ys.map (Value.int .u8))) :
    Calls Tryd.prog 35 #[.slice (some ⟨b1, o1, none⟩) xs.length c1, .slice (some ⟨b2, o2, none⟩) ys.length c2] w fun e w' => e = .returned (.bool (decide (xs = ys))) ∧ w = w' := by
  have g1 := run_convert_bytes_arg (P := Tryd.prog) w 44 5 Tryd.underlying44 Tryd.underlying5 b1 o1 xs.length c1 xs rfl (fun i hi => h1 i _ (by rw [List.getElem?_map, List.getElem?_eq_getElem hi, List.getD_eq_getElem?_getD, List.getElem?_eq_getElem hi]; rfl)) 9 Tryd.underlying9
  have g2 := run_convert_bytes_arg (P := Tryd.prog) w 44 5 Tryd.underlying44 Tryd.underlying5 b2 o2 ys.length c2 ys rfl (fun i hi => h2 i _ (by rw [List.getElem?_map, List.getElem?_eq_getElem hi, List.getD_eq_getElem?_getD, List.getElem?_eq_getElem hi]; rfl)) 9 Tryd.underlying9
  have HE : Hid (((strOfNums xs).toList == (strOfNums ys).toList) = decide (xs = ys)) := Lib.hid (by
    rw [str_beq, bs_strOfNums hx, bs_strOfNums hy])
  clear h1 h2 hx hy
  generalize strOfNums xs = s at *
  generalize strOfNums ys = t at *
  generalize decide (xs = ys) = r at *
  generalize xs.length = n at *
  generalize ys.length = m at *
  go_enter Tryd.func35, Tryd.ntmps35
  go_wp2
  go_ret
  exact ⟨ret_bool HE.out, rfl⟩

theorem wraps64 (n : Int) (h₀ : 0 ≤ n) (h₁ : n < 2 ^ 64) : IntKind.u64.wrap n = n := by rw [IntKind.wrap_u64]; omega
theorem wraps63 (n : Int) (h₀ : 0 ≤ n) (h₁ : n < 2 ^ 63) : IntKind.i64.wrap n = n := by rw [IntKind.wrap_i64]; omega

/-- The hash as a number. -/
def hashN (xs : List Int) : Nat := (hashI xs).toNat
theorem hashN_cast (xs : List Int) : (hashN xs : Int) = hashI xs := by have := (hashI_bound xs).1; unfold hashN; omega

/-- A dictionary's cells. -/
structure DictAt (W : World) (dp : Nat) (lim : Int) (ps : List (List Int)) (tb : List Nat) (ta ba : Option Addr) (tc bc tg : Nat) : Prop where
  c0 : W.cell? ⟨dp, 0, none⟩ = some (.int .i64 lim)
  c1 : W.cell? ⟨dp, 1, none⟩ = some (.slice ta ps.flatten.length tc)
  c2 : W.cell? ⟨dp, 2, none⟩ = some (.slice ba ps.length bc)
  c3 : W.cell? ⟨dp, 3, none⟩ = some (.slice (some ⟨tg, 0, none⟩) tb.length tb.length)
  list : ListP W ta tc ba bc ps
  table : RowC W tg 0 (tb.map fun v : Nat => Value.int .u32 v)
  bytes : ∀ p ∈ ps, ∀ c ∈ p, IsByte c
theorem DictAt.below {W W' : World} {dp : Nat} {lim : Int} {ps : List (List Int)} {tb : List Nat} {ta ba : Option Addr} {tc bc tg : Nat} (h : DictAt W dp lim ps tb ta ba tc bc tg) (k : Below W.heap.size W W') : DictAt W' dp lim ps tb ta ba tc bc tg :=
  ⟨cell_below k h.c0, cell_below k h.c1, cell_below k h.c2, cell_below k h.c3, h.list.below k, h.table.below k, h.bytes⟩
theorem DictAt.slot_at {W : World} {dp : Nat} {lim : Int} {ps : List (List Int)} {tb : List Nat} {ta ba : Option Addr} {tc bc tg : Nat} (h : DictAt W dp lim ps tb ta ba tc bc tg) {j v : Nat} (hv : tb[j]? = some v) : W.cell? ⟨tg, j, none⟩ = some (.int .u32 v) := by
  have := h.table j _ (by rw [List.getElem?_map, hv]; rfl)
  rwa [Nat.zero_add] at this

set_option maxRecDepth 100000 in
set_option maxHeartbeats 4000000 in
theorem slot_any (dp : Nat) (lim : Int) (ps : List (List Int)) (tb : List Nat) (ta ba : Option Addr) (tc bc tg : Nat) (q : Nat) (hq : q ≤ ps.length) (m : Nat) (hm : m ≤ 40) (hsz : tb.length = 2 ^ m) (I : Dict.Inv hashN tb (ps.take q))
    (key : List Int) (hkey : ∀ c ∈ key, IsByte c) (hkl : key.length ≤ 1000000000000) (kb ko kc : Nat) (w : World) (D : DictAt w dp lim ps tb ta ba tc bc tg) (hk : RowC w kb ko (key.map (Value.int .u8))) :
    Calls Tryd.prog 24 #[.pointer (some ⟨dp, 0, none⟩), .slice (some ⟨kb, ko, none⟩) key.length kc] w fun e w' => ∃ d v, e = .returned (.int .i64 (Dict.place hashN tb.length key d : Nat)) ∧ Dict.Ends hashN tb (ps.take q) key d v ∧ Below w.heap.size w w' := by
  have MH := Lib.hid (hash_any kb ko kc key hkl w hk)
  have c3 := D.c3
  have hpow : (2 : Nat) ^ m ≤ 2 ^ 40 := Nat.pow_le_pow_right (by omega) hm
  have h40 : (2 : Nat) ^ 40 = 1099511627776 := by decide
  have hs1 : 1 ≤ tb.length := I.pos
  have hcast : ((2 : Int) ^ m) = ((2 ^ m : Nat) : Int) := by push_cast; rfl
  have hb := hashI_bound key
  have MASK : Hid (bits BinOp.and IntKind.u64 (hashI key) ((tb.length : Int) - 1) = ((Dict.place hashN tb.length key 0 : Nat) : Int)) := Lib.hid (by
    have h := bits_mask .u64 64 (by decide) wraps64 m (by omega) (hashI key) hb.1 (by have : (2 : Int) ^ 64 = 18446744073709551616 := by decide
                                                                                      omega)
    rw [hcast, ← hsz] at h
    rw [h, ← hashN_cast]
    unfold Dict.place
    rw [Nat.add_zero]
    push_cast
    rfl)
  have NEXT : Hid (∀ e : Nat, bits BinOp.and IntKind.i64 ((Dict.place hashN tb.length key e : Nat) + 1 : Int) ((tb.length : Int) - 1) = ((Dict.place hashN tb.length key (e + 1) : Nat) : Int)) := Lib.hid (fun e => by
    have hp := Dict.place_lt hashN (sz := tb.length) I.pos key e
    have h := bits_mask .i64 63 (by decide) wraps63 m (by omega) ((Dict.place hashN tb.length key e : Nat) + 1 : Int) (by omega) (by have : (2 : Int) ^ 63 = 9223372036854775808 := by decide
                                                                                                                                     omega)
    rw [hcast, ← hsz] at h
    rw [h, ← Dict.place_next]
    push_cast
    rfl)
  have hw1 : IntKind.i64.wrap ((tb.length : Int) - 1) = (tb.length : Int) - 1 := IntWalk.i64_in _ (by omega)
  have hw2 : IntKind.u64.wrap ((tb.length : Int) - 1) = (tb.length : Int) - 1 := wraps64 _ (by omega) (by have : (2 : Int) ^ 64 = 18446744073709551616 := by decide
                                                                                                          omega)
  have hp0 := Dict.place_lt hashN (sz := tb.length) I.pos key 0
  have hw3 : IntKind.i64.wrap ((Dict.place hashN tb.length key 0 : Nat) : Int) = ((Dict.place hashN tb.length key 0 : Nat) : Int) := IntWalk.i64_in _ (by omega)
  have HD := Lib.hid D
  have HK := Lib.hid hk
  have HI := Lib.hid I
  clear D hk I hb hcast
  have hszb : tb.length ≤ 1099511627776 := by omega
  clear hpow h40 hsz
  obtain ⟨sz, hz⟩ : ∃ sz, sz = tb.length := ⟨_, rfl⟩
  have HZ := Lib.hid hz
  rw [← hz] at c3 hs1 MASK NEXT hw1 hw2 hp0 hw3 hszb ⊢
  clear hz
  obtain ⟨kl, hkl'⟩ : ∃ kl, kl = key.length := ⟨_, rfl⟩
  have HKL := Lib.hid hkl'
  rw [← hkl'] at MH ⊢
  clear hkl'
  have MASK' := MASK.out
  go_enter Tryd.func24, Tryd.ntmps24
  go_wp2_with fail
  go_step3
  go_wp2_with (go_at_call 34; refine MH.out.mono ?_; rintro e w1 ⟨rfl, rfl⟩)
  go_step3
  go_wp2_with fail
  obtain ⟨E, hE, hE0⟩ := HI.out.comes key
  have HE0 := Lib.hid hE0
  clear hE hE0 MASK' MASK MH c3
  go_loopg [6] E (fun g s6 wr => ∃ e : Nat, e ≤ E ∧ E - e ≤ g ∧ s6 = .int .i64 (Dict.place hashN sz key e : Nat) ∧ Hid (∀ e', e' < e → ∃ u, tb[Dict.place hashN tb.length key e']? = some u ∧ u ≠ 0 ∧ (ps.take q)[u - 1]? ≠ some key) ∧ Hid (Below w.heap.size w wr))
  case atStart => exact ⟨0, Nat.zero_le _, by omega, rfl, Lib.hid (fun e' h => absurd h (by omega)), Lib.hid (Below.refl _ _)⟩
  case round =>
    obtain ⟨e, he, hg, rfl, HBF, HBL⟩ := hrel
    have NE := Lib.hid (NEXT.out e)
    obtain ⟨P, hP⟩ : ∃ P, P = Dict.place hashN sz key e := ⟨_, rfl⟩
    have hPl : P < sz := by rw [hP]; exact Dict.place_lt hashN (by omega) key e
    have HP := Lib.hid hP
    rw [← hP] at NE ⊢
    clear hP
    obtain ⟨v, hv⟩ : ∃ v, tb[P]? = some v := ⟨_, List.getElem?_eq_getElem (by have := HZ.out; omega)⟩
    have HV := Lib.hid hv
    have D1 := HD.out.below HBL.out
    have c3 := D1.c3
    rw [← HZ.out] at c3
    have cv := D1.slot_at hv
    have p0 : (0 : Int) ≤ (P : Int) := by omega
    have p1 : (P : Int) < (sz : Int) := by omega
    clear hv D1
    by_cases hv0 : v = 0
    · subst hv0
      have FIN : Hid (Dict.Ends hashN tb (ps.take q) key e 0) := Lib.hid ⟨by rw [← HZ.out, ← HP.out]; exact HV.out, .inl rfl, HBF.out⟩
      go_wp2_with fail
      rw [Exit.noGoto_ret]
      go_ret
      exact ⟨e, 0, by rw [← HP.out]; rfl, FIN.out, HBL.out⟩
    · have hvq : v ≤ (ps.take q).length := HI.out.le P v HV.out
      have hlq : (ps.take q).length = q := by rw [List.length_take]; omega
      obtain ⟨i, rfl⟩ : ∃ i, v = i + 1 := ⟨v - 1, by omega⟩
      have hiq : i < q := by omega
      obtain ⟨p, hp⟩ : ∃ p, ps[i]? = some p := ⟨_, List.getElem?_eq_getElem (by omega)⟩
      have D1 := HD.out.below HBL.out
      have MAT : Hid (Calls Tryd.prog 28 #[.agg #[.slice ta ps.flatten.length tc, .slice ba ps.length bc], .int .i64 ((i : Int) + 1)] wr fun e w' => ∃ b o, e = .returned (.slice (some ⟨b, o, none⟩) p.length p.length) ∧ RowC w' b o (p.map (Value.int .u8)) ∧ Below wr.heap.size wr w') := Lib.hid (listAt_any ta ba tc bc ps i p hp wr D1.list)
      have HQ : Hid ((ps.take q)[i]? = some p) := Lib.hid (by rw [List.getElem?_take_of_lt hiq]; exact hp)
      have hpb : Hid (∀ c ∈ p, IsByte c) := Lib.hid (D1.bytes p (List.mem_of_getElem? hp))
      have c1 := D1.c1
      have c2 := D1.c2
      have hbnd : ps.length ≤ 1000000000000 := by have := D1.list.bcap; have := D1.list.bmax; omega
      have hib : i < 1000000000000 := by omega
      have hcz : ((i + 1 : Nat) : Int) = (i : Int) + 1 := by omega
      rw [hcz] at cv
      have HIQ := Lib.hid hiq
      clear D1 hp hvq hlq hcz hv0 hiq hbnd
      have w1 : IntKind.i64.wrap ((i : Int) + 1) = (i : Int) + 1 := IntWalk.i64_in _ (by omega)
      have z1 : ¬ ((i : Int) + 1 = 0) := by omega
      have z2 : decide ((i : Int) + 1 = 0) = false := by simp; omega
      have w2 : IntKind.i64.wrap ((P : Int) + 1) = (P : Int) + 1 := IntWalk.i64_in _ (by omega)
      have NE' := NE.out
      generalize ps.flatten.length = NN at MAT c1
      generalize ps.length = nn at MAT c2
      go_wp2_with (go_at_call 28; refine MAT.out.mono ?_; rintro e2 w2' ⟨b, o, rfl, hrow, hB2⟩)
      have HB2 := Lib.hid (below_step HBL.out hB2)
      have MEQ := bytesEqual_any b o p.length kb ko kc p key hpb.out hkey w2' hrow (HK.out.below HB2.out)
      rw [← HKL.out] at MEQ
      refine MEQ.mono ?_
      clear MEQ
      rintro e3 w3 ⟨rfl, rfl⟩
      clear hrow hB2
      by_cases hpk : p = key
      · have FIN : Hid (Dict.Ends hashN tb (ps.take q) key e (i + 1)) := Lib.hid ⟨by rw [← HZ.out, ← HP.out]; exact HV.out, .inr (by rw [Nat.add_sub_cancel, HQ.out, hpk]), HBF.out⟩
        rw [decide_eq_true hpk]
        clear hpk
        go_wp2_with fail
        rw [Exit.noGoto_ret]
        go_ret
        exact ⟨e, i + 1, by rw [← HP.out]; rfl, FIN.out, HB2.out⟩
      · have HPK := Lib.hid hpk
        rw [decide_eq_false hpk]
        clear hpk
        go_wp2_with fail
        have heE : Hid (e < E) := Lib.hid (by
          rcases Nat.lt_or_ge e E with h | h
          · exact h
          · obtain rfl : e = E := by omega
            have h0 := HE0.out
            have h1 := HV.out
            rw [HP.out, HZ.out, h0] at h1
            cases h1)
        have heE' := heE.out
        go_roundg (E - (e + 1))
        case measure => omega
        case rel =>
          refine ⟨e + 1, by omega, Nat.le_refl _, rfl, Lib.hid (fun e' he' => ?_), HB2⟩
          by_cases h : e' = e
          · subst h
            exact ⟨i + 1, by rw [← HZ.out, ← HP.out]; exact HV.out, by omega, by rw [Nat.add_sub_cancel, HQ.out]; exact fun h2 => HPK.out (Option.some.inj h2)⟩
          · exact HBF.out e' (by omega)
end Go.Proofs.YtlamdhklfibjmaaDoor
