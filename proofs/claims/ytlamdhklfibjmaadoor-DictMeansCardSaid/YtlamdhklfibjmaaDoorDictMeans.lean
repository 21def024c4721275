/-
  THE LAW DictMeans.
-/
import Derived.Test.YtlamdhklfibjmaaDoorDictKnown
import Derived.Test.YtlamdhklfibjmaaDoorEq
namespace Go.Proofs.YtlamdhklfibjmaaDoor
open Go.RowKit
open Utf Term
set_option linter.unusedVariables false
set_option linter.unusedSimpArgs false

theorem term_neq_same (a : TermD) (w : World) : (binOp .neq 34 (.agg #[.int .i64 a.1, .string a.2.1, .string a.2.2]) (.agg #[.int .i64 a.1, .string a.2.1, .string a.2.2])).run Tryd.prog w = .ok (.bool false) w := by
  obtain ⟨k, t, x⟩ := a
  go_simp

/-- Two dictionaries of the call's own, apart. -/
structure Pair (w0 w : World) (S T : Nat → Prop) (dp op : Nat) (ps qs : List (List Int)) : Prop where
  d : Mine w0 w S dp 200 ps
  o : Mine w0 w T op 200 qs
  apart : ∀ j, S j → ¬ T j
  gd : Good ps
  go : Good qs
section
variable {w0 w w' : World} {S T : Nat → Prop} {dp op : Nat} {ps qs ps' qs' : List (List Int)}
theorem Pair.left (h : Pair w0 w S T dp op ps qs) (d : DictI w' (growS S w w') dp 200 ps') (t : Turned S w w') (g : Good ps') : Pair w0 w' (growS S w w') T dp op ps' qs where
  d := h.d.next d t
  o := ⟨h.o.d.apart t (fun j ht hs => h.apart j hs ht), h.o.bel.trans (t.below h.o.bel.size h.d.new), h.o.new⟩
  apart := fun j hj ht => by
    rcases hj with hj | hj
    · exact h.apart j hj ht
    · have := h.o.d.lt j ht
      omega
  gd := g
  go := h.go
theorem Pair.right (h : Pair w0 w S T dp op ps qs) (d : DictI w' (growS T w w') op 200 qs') (t : Turned T w w') (g : Good qs') : Pair w0 w' S (growS T w w') dp op ps qs' where
  d := ⟨h.d.d.apart t h.apart, h.d.bel.trans (t.below h.d.bel.size h.o.new), h.d.new⟩
  o := h.o.next d t
  apart := fun j hj ht => by
    rcases ht with ht | ht
    · exact h.apart j hj ht
    · have := h.d.d.lt j hj
      omega
  gd := h.gd
  go := g
theorem Pair.keep (h : Pair w0 w S T dp op ps qs) (k : Below w.heap.size w w') : Pair w0 w' S T dp op ps qs := ⟨h.d.keep k, h.o.keep k, h.apart, h.gd, h.go⟩
end
/-- The terms that come of interning one by one. -/
def runL (ps : List (List Int)) (l : List TermD) : List (List Int) := l.foldl (fun ps a => (internP 200 ps a).2.2) ps
theorem runL_next {ps : List (List Int)} {l : List TermD} {k : Nat} {a : TermD} (h : l[k]? = some a) : runL ps (l.take (k + 1)) = (internP 200 (runL ps (l.take k)) a).2.2 := by
  unfold runL
  rw [List.take_add_one, h, List.foldl_append]
  rfl
theorem runL_ext : ∀ (l : List TermD) (ps : List (List Int)), ∃ r, runL ps l = ps ++ r
  | [], ps => ⟨[], by simp [runL]⟩
  | a :: l, ps => by
    obtain ⟨r1, h1⟩ := internP_ext 200 ps a
    obtain ⟨r2, h2⟩ := runL_ext l (internP 200 ps a).2.2
    refine ⟨r1 ++ r2, ?_⟩
    show runL (internP 200 ps a).2.2 l = _
    rw [h2, h1, List.append_assoc]
theorem runL_take (l : List TermD) (c : Nat) : (runL [] l).take (runL [] (l.take c)).length = runL [] (l.take c) := by
  have e : runL [] l = runL (runL [] (l.take c)) (l.drop c) := by
    unfold runL
    rw [← List.foldl_append, List.take_append_drop]
  obtain ⟨r, hr⟩ := runL_ext (l.drop c) (runL [] (l.take c))
  rw [e, hr, List.take_left]
theorem pack_room {ps : List (List Int)} {a : TermD} (h : Good ps) (hl : ps.length ≤ 200) (ha : SmallS a) : ps.flatten.length + (packL a).length ≤ 1000000000000 := by
  have := h.flat
  have := ha.pack
  omega

set_option maxRecDepth 100000 in
set_option maxHeartbeats 8000000 in
theorem dictMeans_walk (bo bo2 : Option Addr) (n bc n2 bc2 : Nat) (ts us : List TermD) (cut : Int) (m : Int) (w : World) (hm : w.cell? ⟨0, 0, none⟩ = some (.int .i64 m)) (h1 : SliceS w bo n bc ts) (h2 : SliceS w bo2 n2 bc2 us) :
    Calls Tryd.prog 3 #[.slice bo n bc, .slice bo2 n2 bc2, .int .i64 cut] w fun e w' => e = .returned (.bool true) ∧ Below w.heap.size w w' := by
  have HM := Lib.hid hm
  have H1 := Lib.hid h1
  have H2 := Lib.hid h2
  have hn1 := h1.2.2.1
  have hn2 := h2.2.2.1
  have KN := Lib.hid (knownS_any m w hm)
  clear hm h1 h2
  go_enter Tryd.func3, Tryd.ntmps3
  go_wp2_with fail
  refine KN.out.mono ?_
  rintro e w1 ⟨rfl, hB1⟩
  have B1 := Lib.hid hB1
  clear hB1 KN
  have MU1 := Lib.hid (muchS_any bo n bc 60 ts (by omega) w1 (H1.out.below B1.out))
  go_wp2_with fail
  refine MU1.out.mono ?_
  rintro e w2 ⟨r1, rfl, hB2, hr1⟩
  have HR1 := Lib.hid hr1
  have B2 := Lib.hid (below_step B1.out hB2)
  clear hB2 MU1 hr1
  cases r1 with
  | true =>
    go_wp2_with fail
    go_ret
    exact ⟨rfl, B2.out⟩
  | false =>
  have MU2 := Lib.hid (muchS_any bo2 n2 bc2 60 us (by omega) w2 (H2.out.below B2.out))
  go_wp2_with fail
  refine MU2.out.mono ?_
  rintro e w3 ⟨r2, rfl, hB3, hr2⟩
  have HR2 := Lib.hid hr2
  have B3 := Lib.hid (below_step B2.out hB3)
  clear hB3 MU2 hr2
  cases r2 with
  | true =>
    go_wp2_with fail
    go_ret
    exact ⟨rfl, B3.out⟩
  | false =>
  have hn60 : n ≤ 60 := by have := (HR1.out (by first | rfl | trivial)).1; have := H1.out.1; omega
  have hn260 : n2 ≤ 60 := by have := (HR2.out (by first | rfl | trivial)).1; have := H2.out.1; omega
  have SM1 := Lib.hid (HR1.out (by first | rfl | trivial)).2
  have SM2 := Lib.hid (HR2.out (by first | rfl | trivial)).2
  clear HR1 HR2 B1 B2 hn1 hn2
  by_cases hc0 : cut < 0
  · have t1 : decide (cut < 0) = true := decide_eq_true hc0
    go_wp2_with fail
    go_ret
    exact ⟨rfl, B3.out⟩
  by_cases hcn : (n : Int) < cut
  · have t0 : decide (cut < 0) = false := decide_eq_false hc0
    have t1 : decide ((n : Int) < cut) = true := decide_eq_true hcn
    go_wp2_with fail
    go_ret
    exact ⟨rfl, B3.out⟩
  obtain ⟨c, rfl⟩ : ∃ c : Nat, cut = (c : Int) := ⟨cut.toNat, by omega⟩
  have t0 : decide ((c : Int) < 0) = false := decide_eq_false hc0
  have t1 : decide ((n : Int) < (c : Int)) = false := decide_eq_false hcn
  have hcn' : c ≤ n := by omega
  clear hc0
  have MN1 := Lib.hid (newI 200 (by omega) w3)
  go_wp2_with fail
  refine MN1.out.mono ?_
  rintro e w4 ⟨dp, rfl, D4, hB4⟩
  have P4 := Lib.hid (Mine.start B3.out D4 hB4)
  clear D4 hB4 MN1 hcn t0 t1
  have MN2 := Lib.hid (newI 200 (by omega) w4)
  go_wp2_with fail
  refine MN2.out.mono ?_
  rintro e w5 ⟨op, rfl, D5, hB5⟩
  have HP : Hid (Pair w w5 (newS w3 w4) (newS w4 w5) dp op [] []) := Lib.hid ⟨P4.out.keep hB5, Mine.start P4.out.bel D5 hB5, fun j h h' => by have := h.2; have := h'.1; omega, (fun p hp => by cases hp), (fun p hp => by cases hp)⟩
  clear D5 hB5 MN2 P4 B3
  go_wp2_with fail
  go_loopg [9, 10] n (fun g s9 s10 wr => ∃ (k nn : Nat) (S T : Nat → Prop), k ≤ n ∧ n - k ≤ g ∧ s10 = .int .i64 (k : Int) ∧ s9 = .int .i64 (nn : Int) ∧ Hid (nn = if c < k then (runL [] (ts.take c)).length else 0) ∧ Hid (Pair w wr S T dp op (runL [] (ts.take k)) (runL [] (ts.take (min k c)))))
  case atStart => exact ⟨0, 0, _, _, Nat.zero_le _, by omega, rfl, rfl, Lib.hid (by rw [if_neg (by omega)]), HP⟩
  case round =>
    obtain ⟨k, nn, S, T, hk, hg, rfl, rfl, HNN, HR⟩ := hrel
    by_cases hlt : k < n
    · have d1 : decide ((k : Int) < (n : Int)) = true := decide_eq_true (by omega)
      have d1' : decide (k < n) = true := decide_eq_true hlt
      obtain ⟨x, hx⟩ : ∃ x, ts[k]? = some x := ⟨_, List.getElem?_eq_getElem (by have := H1.out.1; omega)⟩
      have SX := Lib.hid (SM1.out x (List.mem_of_getElem? hx))
      have HX := Lib.hid hx
      obtain ⟨b, off, rfl, hrow⟩ := H1.out.2.2.2 (by omega)
      have HROW := Lib.hid hrow
      have i0 : (0 : Int) ≤ (k : Int) := by omega
      have i1 : (k : Int) < (n : Int) := by omega
      clear hx hrow
      have e3 : IntKind.i64.wrap ((k : Int) + 1) = (k : Int) + 1 := IntWalk.i64_in _ (by omega)
      rcases Nat.lt_trichotomy k c with hkc | hkc | hkc
      · have t1 : decide ((k : Int) = (c : Int)) = false := decide_eq_false (by omega)
        have t1' : ¬ k = c := by omega
        have t2 : decide ((k : Int) < (c : Int)) = true := decide_eq_true (by omega)
        have t2' : decide (k < c) = true := decide_eq_true hkc
        have HMIN : Hid (min k c = k ∧ min (k + 1) c = k + 1) := Lib.hid ⟨Nat.min_eq_left (by omega), Nat.min_eq_left (by omega)⟩
        have HNX : Hid ((if c < k + 1 then (runL [] (ts.take c)).length else 0) = (if c < k then (runL [] (ts.take c)).length else 0)) := Lib.hid (by rw [if_neg (by omega), if_neg (by omega)])
        rw [HMIN.out.1] at HR
        have I1 := Lib.hid (internI S dp 200 _ x SX.out.fair (pack_room HR.out.gd HR.out.d.d.many SX.out) m _ (cell_below HR.out.d.bel HM.out) HR.out.d.d)
        have G1 := Lib.hid (HR.out.gd.intern (lim := 200) SX.out)
        rw [← runL_next HX.out] at I1 G1
        obtain ⟨q0, q1, q2⟩ := HROW.out.below HR.out.d.bel k x HX.out
        clear hkc
        go_wp2_with fail
        refine I1.out.mono ?_
        rintro e w6 ⟨rfl, D6, T6⟩
        have HR6 := Lib.hid (HR.out.left D6 T6 G1.out)
        clear D6 T6 I1 q0 q1 q2
        have I2 := Lib.hid (internI T op 200 _ x SX.out.fair (pack_room HR6.out.go HR6.out.o.d.many SX.out) m _ (cell_below HR6.out.d.bel HM.out) HR6.out.o.d)
        have G2 := Lib.hid (HR6.out.go.intern (lim := 200) SX.out)
        rw [← runL_next HX.out] at I2 G2
        obtain ⟨q0, q1, q2⟩ := HROW.out.below HR6.out.d.bel k x HX.out
        go_wp2_with fail
        refine I2.out.mono ?_
        rintro e w7 ⟨rfl, D7, T7⟩
        have HR7 := Lib.hid (HR6.out.right D7 T7 G2.out)
        clear D7 T7 I2 q0 q1 q2 HR6
        go_wp2_with fail
        go_roundg (n - (k + 1))
        case measure => omega
        case rel => exact ⟨k + 1, nn, _, _, by omega, Nat.le_refl _, by go_num, rfl, Lib.hid (by rw [HNX.out]; exact HNN.out), Lib.hid (by rw [HMIN.out.2]; exact HR7.out)⟩
      · subst hkc
        have HMIN : Hid (min k k = k ∧ min (k + 1) k = k) := Lib.hid ⟨Nat.min_eq_right (by omega), Nat.min_eq_right (by omega)⟩
        rw [HMIN.out.1] at HR
        have ML := Lib.hid (dictLenI HR.out.d.d)
        go_wp2_with fail
        refine ML.out.mono ?_
        rintro e w6 ⟨rfl, hB6⟩
        have HR6 := Lib.hid (HR.out.keep hB6)
        clear hB6 ML
        have I1 := Lib.hid (internI S dp 200 _ x SX.out.fair (pack_room HR6.out.gd HR6.out.d.d.many SX.out) m _ (cell_below HR6.out.d.bel HM.out) HR6.out.d.d)
        have G1 := Lib.hid (HR6.out.gd.intern (lim := 200) SX.out)
        rw [← runL_next HX.out] at I1 G1
        obtain ⟨q0, q1, q2⟩ := HROW.out.below HR6.out.d.bel k x HX.out
        go_wp2_with fail
        refine I1.out.mono ?_
        rintro e w7 ⟨rfl, D7, T7⟩
        have HR7 := Lib.hid (HR6.out.left D7 T7 G1.out)
        clear D7 T7 I1 q0 q1 q2 HR6
        go_wp2_with fail
        go_roundg (n - (k + 1))
        case measure => omega
        case rel => exact ⟨k + 1, _, _, _, by omega, Nat.le_refl _, by go_num, rfl, Lib.hid (by rw [if_pos (by omega)]), Lib.hid (by rw [HMIN.out.2]; exact HR7.out)⟩
      · have t1 : decide ((k : Int) = (c : Int)) = false := decide_eq_false (by omega)
        have t1' : ¬ k = c := by omega
        have t2 : decide ((k : Int) < (c : Int)) = false := decide_eq_false (by omega)
        have t2' : decide (k < c) = false := decide_eq_false (by omega)
        have HMIN : Hid (min k c = c ∧ min (k + 1) c = c) := Lib.hid ⟨Nat.min_eq_right (by omega), Nat.min_eq_right (by omega)⟩
        have HNX : Hid ((if c < k + 1 then (runL [] (ts.take c)).length else 0) = (if c < k then (runL [] (ts.take c)).length else 0)) := Lib.hid (by rw [if_pos (by omega), if_pos (by omega)])
        rw [HMIN.out.1] at HR
        have I1 := Lib.hid (internI S dp 200 _ x SX.out.fair (pack_room HR.out.gd HR.out.d.d.many SX.out) m _ (cell_below HR.out.d.bel HM.out) HR.out.d.d)
        have G1 := Lib.hid (HR.out.gd.intern (lim := 200) SX.out)
        rw [← runL_next HX.out] at I1 G1
        obtain ⟨q0, q1, q2⟩ := HROW.out.below HR.out.d.bel k x HX.out
        clear hkc
        go_wp2_with fail
        refine I1.out.mono ?_
        rintro e w6 ⟨rfl, D6, T6⟩
        have HR6 := Lib.hid (HR.out.left D6 T6 G1.out)
        clear D6 T6 I1 q0 q1 q2
        go_wp2_with fail
        go_roundg (n - (k + 1))
        case measure => omega
        case rel => exact ⟨k + 1, nn, _, _, by omega, Nat.le_refl _, by go_num, rfl, Lib.hid (by rw [HNX.out]; exact HNN.out), Lib.hid (by rw [HMIN.out.2]; exact HR6.out)⟩
    · have d1 : decide ((k : Int) < (n : Int)) = false := decide_eq_false (by omega)
      have d1' : decide (k < n) = false := decide_eq_false hlt
      obtain rfl : k = n := by omega
      have HR' : Hid (Pair w wr S T dp op (runL [] ts) (runL [] (ts.take c))) := Lib.hid (by
        have h := HR.out
        rwa [Nat.min_eq_right hcn', List.take_of_length_le (by have := H1.out.1; omega)] at h)
      have HN : Hid (∀ N, N = (runL [] (ts.take c)).length → (c < k → nn = N) ∧ (c = k → (runL [] ts).length = N)) := Lib.hid fun N hN => ⟨fun h => by rw [hN]; have := HNN.out; rwa [if_pos h] at this, fun h => by rw [hN, List.take_of_length_le (by have := H1.out.1; omega)]⟩
      clear HR HNN hlt d1 hk
      obtain ⟨N, hN⟩ : ∃ N, N = (runL [] (ts.take c)).length := ⟨_, rfl⟩
      have HN2 := Lib.hid (HN.out N hN)
      have HNE := Lib.hid hN
      clear hN HN
      rcases Nat.lt_or_ge c k with hck | hck
      case' inl =>
        have t1 : decide ((c : Int) = (k : Int)) = false := decide_eq_false (by omega)
        have t1' : ((c : Int) == (k : Int)) = false := by simp; omega
        obtain rfl : N = nn := (HN2.out.1 hck).symm
        obtain ⟨wz, hwz⟩ : ∃ wz, wz = wr := ⟨_, rfl⟩
        have HZ : Hid (Pair w wz S T dp op (runL [] ts) (runL [] (ts.take c))) := Lib.hid (by rw [hwz]; exact HR'.out)
        clear HN2 HR' d1'
        go_wp2_with fail
        rw [← hwz]
        clear hwz t1 t1' hck
      case' inr =>
        obtain rfl : c = k := by omega
        have ML := Lib.hid (dictLenI HR'.out.d.d)
        rw [HN2.out.2 rfl] at ML
        clear HN2 d1'
        go_wp2_with fail
        refine ML.out.mono ?_
        rintro e wz ⟨rfl, hB6⟩
        have HZ := Lib.hid (HR'.out.keep hB6)
        clear hB6 ML HR' hck
        go_wp2_with fail
      all_goals
        have HTK := Lib.hid (runL_take ts c)
        rw [← HNE.out] at HTK
        generalize runL [] ts = ps at *
        generalize runL [] (ts.take c) = qs at *
        have hps := HZ.out.d.d.many
        obtain ⟨L, hL⟩ : ∃ L, L = ps.length := ⟨_, rfl⟩
        rw [← hL] at hps
        have HL := Lib.hid hL
        clear hL
        go_loopg [11] L (fun g s11 wr => ∃ k : Nat, k ≤ L ∧ L - k ≤ g ∧ s11 = .int .u32 ((k : Int) + 1) ∧ Hid (Pair w wr S T dp op ps qs))
        case atStart => exact ⟨0, Nat.zero_le _, by omega, rfl, HZ⟩
        case round =>
          obtain ⟨k, hk, hg, rfl, HR⟩ := hrel
          have ML := Lib.hid (dictLenI HR.out.d.d)
          rw [← HL.out] at ML
          have v1 : IntKind.i64.wrap ((k : Int) + 1) = (k : Int) + 1 := IntWalk.i64_in _ (by omega)
          by_cases hlt : k < L
          · have d1 : decide ((k : Int) + 1 ≤ (L : Int)) = true := decide_eq_true (by omega)
            have d1' : (k : Int) + 1 ≤ (L : Int) := by omega
            obtain ⟨p, hp⟩ : ∃ p, ps[k]? = some p := ⟨_, List.getElem?_eq_getElem (by have := HL.out; omega)⟩
            obtain ⟨a, rfl, hmay, hsm⟩ := HR.out.gd p (List.mem_of_getElem? hp)
            have MT : Hid (∀ W, Below wr.heap.size wr W → Calls Tryd.prog 10 #[.pointer (some ⟨dp, 0, none⟩), .int .u32 ((k : Int) + 1)] W fun e w' => e = .returned (.tuple #[termD a, .bool true]) ∧ Below W.heap.size W w') := Lib.hid fun W h => termI S dp 200 ps k a hsm.fair hmay hp m W (cell_below (below_step HR.out.d.bel h) HM.out) (HR.out.d.d.below h)
            have MF : Hid (∀ W, Below wr.heap.size wr W → Calls Tryd.prog 11 #[.pointer (some ⟨dp, 0, none⟩), termD a] W fun e w' => e = .returned (.tuple #[.int .u32 ((k : Int) + 1), .bool true]) ∧ Below W.heap.size W w') := Lib.hid fun W h => by
              have hh := findI S dp 200 ps a hsm.fair hmay m W (cell_below (below_step HR.out.d.bel h) HM.out) (HR.out.d.d.below h)
              rw [number_at HR.out.d.d.nodup hp, decide_eq_true (by omega), show ((k + 1 : Nat) : Int) = (k : Int) + 1 by omega] at hh
              exact hh
            have v2 : IntKind.u32.wrap ((k : Int) + 1 + 1) = (k : Int) + 1 + 1 := by rw [IntKind.wrap_u32]; omega
            clear hp hmay hsm
            go_wp2_with fail
            refine ML.out.mono ?_
            rintro e w6 ⟨rfl, hB6⟩
            have B6 := Lib.hid hB6
            clear hB6 ML
            go_wp2_with fail
            refine (MT.out _ B6.out).mono ?_
            rintro e w7 ⟨rfl, hB7⟩
            have B7 := Lib.hid (below_step B6.out hB7)
            clear hB7 MT B6
            go_wp2_with fail
            refine (MF.out _ (below_step B7.out (below_new _ _))).mono ?_
            rintro e w8 ⟨rfl, hB8⟩
            have HR8 := Lib.hid (HR.out.keep (below_step (below_step B7.out (below_new _ _)) hB8))
            clear hB8 MF B7
            go_wp2_with fail
            go_roundg (L - (k + 1))
            case measure => omega
            case rel => exact ⟨k + 1, by omega, Nat.le_refl _, by go_num, HR8⟩
          · have d1 : decide ((k : Int) + 1 ≤ (L : Int)) = false := decide_eq_false (by omega)
            clear hlt hk
            go_wp2_with fail
            refine ML.out.mono ?_
            rintro e w6 ⟨rfl, hB6⟩
            have HR6 := Lib.hid (HR.out.keep hB6)
            clear hB6 ML HR HZ v1 hg
            have hNL : N ≤ ps.length := by
              have h1 := HTK.out
              have h2 := HNE.out
              rw [← h1, List.length_take] at h2
              omega
            have MC := Lib.hid (cutI S dp 200 ps N hNL w6 HR6.out.d.d)
            rw [HTK.out] at MC
            clear hNL
            go_wp2_with fail
            refine MC.out.mono ?_
            rintro e w7 ⟨rfl, D7, T7⟩
            have HR7 := Lib.hid (HR6.out.left D7 T7 HR6.out.go)
            clear D7 T7 MC HR6 HTK
            have ML := Lib.hid (dictLenI HR7.out.d.d)
            rw [← HNE.out] at ML
            go_wp2_with (go_at_call 12; refine (numS_any _ _).mono ?_; rintro e w' ⟨rfl, rfl⟩)
            refine ML.out.mono ?_
            rintro e w8 ⟨rfl, hB8⟩
            have HR8 := Lib.hid (HR7.out.keep hB8)
            clear hB8 ML HR7
            have ML := Lib.hid (dictLenI HR8.out.o.d)
            rw [← HNE.out] at ML
            go_wp2_with fail
            refine ML.out.mono ?_
            rintro e w9 ⟨rfl, hB9⟩
            have HR9 := Lib.hid (HR8.out.keep hB9)
            clear hB9 ML HR8
            go_wp2_with fail
            go_loopg [16] n2 (fun g s16 wr => ∃ (j : Nat) (S T : Nat → Prop), j ≤ n2 ∧ n2 - j ≤ g ∧ s16 = .int .i64 (j : Int) ∧ Hid (Pair w wr S T dp op (runL qs (us.take j)) (runL qs (us.take j))))
            case atStart => exact ⟨0, _, _, Nat.zero_le _, by omega, rfl, HR9⟩
            case round =>
              obtain ⟨j, S, T, hj, hg, rfl, HR⟩ := hrel
              by_cases hlt : j < n2
              · have d1 : decide ((j : Int) < (n2 : Int)) = true := decide_eq_true (by omega)
                have d1' : decide (j < n2) = true := decide_eq_true hlt
                obtain ⟨x, hx⟩ : ∃ x, us[j]? = some x := ⟨_, List.getElem?_eq_getElem (by have := H2.out.1; omega)⟩
                have SX := Lib.hid (SM2.out x (List.mem_of_getElem? hx))
                have HX := Lib.hid hx
                obtain ⟨b, off, rfl, hrow⟩ := H2.out.2.2.2 (by omega)
                have HROW := Lib.hid hrow
                have i0 : (0 : Int) ≤ (j : Int) := by omega
                have i1 : (j : Int) < (n2 : Int) := by omega
                clear hx hrow
                have e3 : IntKind.i64.wrap ((j : Int) + 1) = (j : Int) + 1 := IntWalk.i64_in _ (by omega)
                obtain ⟨R, hR⟩ : ∃ R, R = (internP 200 (runL qs (us.take j)) x).1 := ⟨_, rfl⟩
                obtain ⟨E, hE⟩ : ∃ E, E = (internP 200 (runL qs (us.take j)) x).2.1 := ⟨_, rfl⟩
                have HRN := Lib.hid hR
                have HEN := Lib.hid hE
                clear hR hE
                have I1 := Lib.hid (internI S dp 200 _ x SX.out.fair (pack_room HR.out.gd HR.out.d.d.many SX.out) m _ (cell_below HR.out.d.bel HM.out) HR.out.d.d)
                have G1 := Lib.hid (HR.out.gd.intern (lim := 200) SX.out)
                rw [← runL_next HX.out] at I1 G1
                rw [← HRN.out, ← HEN.out] at I1
                obtain ⟨q0, q1, q2⟩ := HROW.out.below HR.out.d.bel j x HX.out
                go_wp2_with fail
                refine I1.out.mono ?_
                rintro e w11 ⟨rfl, D6, T6⟩
                have HR6 := Lib.hid (HR.out.left D6 T6 G1.out)
                clear D6 T6 I1 q0 q1 q2 HR
                have I2 := Lib.hid (internI T op 200 _ x SX.out.fair (pack_room HR6.out.go HR6.out.o.d.many SX.out) m _ (cell_below HR6.out.d.bel HM.out) HR6.out.o.d)
                rw [← runL_next HX.out] at I2
                rw [← HRN.out, ← HEN.out] at I2
                obtain ⟨q0, q1, q2⟩ := HROW.out.below HR6.out.d.bel j x HX.out
                go_wp2_with fail
                refine I2.out.mono ?_
                rintro e w12 ⟨rfl, D7, T7⟩
                have HR7 := Lib.hid (HR6.out.right D7 T7 G1.out)
                clear D7 T7 I2 q0 q1 q2 HR6
                obtain ⟨M, hM⟩ : ∃ M, M = (runL qs (us.take (j + 1))).length := ⟨_, rfl⟩
                have HMN := Lib.hid hM
                clear hM
                have ML := Lib.hid (dictLenI HR7.out.d.d)
                rw [← HMN.out] at ML
                go_wp2_with fail
                refine ML.out.mono ?_
                rintro e w13 ⟨rfl, hB8⟩
                have HR8 := Lib.hid (HR7.out.keep hB8)
                clear hB8 ML HR7
                have ML := Lib.hid (dictLenI HR8.out.o.d)
                rw [← HMN.out] at ML
                go_wp2_with fail
                refine ML.out.mono ?_
                rintro e w14 ⟨rfl, hB9⟩
                have HRF := Lib.hid (HR8.out.keep hB9)
                clear hB9 ML HR8
                go_wp2_with fail
                go_roundg (n2 - (j + 1))
                case measure => omega
                case rel => exact ⟨j + 1, _, _, by omega, Nat.le_refl _, by go_num, HRF⟩
              · have d1 : decide ((j : Int) < (n2 : Int)) = false := decide_eq_false (by omega)
                have d1' : decide (j < n2) = false := decide_eq_false hlt
                have HZ : Hid (Pair w wr S T dp op (runL qs us) (runL qs us)) := Lib.hid (by
                  have h := HR.out
                  rwa [List.take_of_length_le (by have := H2.out.1; omega)] at h)
                generalize runL qs us = vs at *
                have hvs := HZ.out.d.d.many
                obtain ⟨K, hK⟩ : ∃ K, K = vs.length := ⟨_, rfl⟩
                rw [← hK] at hvs
                have HK := Lib.hid hK
                clear hK HR hlt hj hg HR9
                go_wp2_with fail
                clear d1 d1'
                go_loopg [21] K (fun g s21 wr => ∃ k : Nat, k ≤ K ∧ K - k ≤ g ∧ s21 = .int .u32 ((k : Int) + 1) ∧ Hid (Pair w wr S T dp op vs vs))
                case atStart => exact ⟨0, Nat.zero_le _, by omega, rfl, HZ⟩
                case round =>
                  obtain ⟨k, hk, hg, rfl, HR⟩ := hrel
                  have ML := Lib.hid (dictLenI HR.out.d.d)
                  rw [← HK.out] at ML
                  have v1 : IntKind.i64.wrap ((k : Int) + 1) = (k : Int) + 1 := IntWalk.i64_in _ (by omega)
                  by_cases hlt : k < K
                  · have d1 : decide ((k : Int) + 1 ≤ (K : Int)) = true := decide_eq_true (by omega)
                    have d1' : (k : Int) + 1 ≤ (K : Int) := by omega
                    obtain ⟨p, hp⟩ : ∃ p, vs[k]? = some p := ⟨_, List.getElem?_eq_getElem (by have := HK.out; omega)⟩
                    obtain ⟨a, rfl, hmay, hsm⟩ := HR.out.gd p (List.mem_of_getElem? hp)
                    have MT : Hid (∀ W, Below wr.heap.size wr W → Calls Tryd.prog 10 #[.pointer (some ⟨dp, 0, none⟩), .int .u32 ((k : Int) + 1)] W fun e w' => e = .returned (.tuple #[termD a, .bool true]) ∧ Below W.heap.size W w') := Lib.hid fun W h => termI S dp 200 vs k a hsm.fair hmay hp m W (cell_below (below_step HR.out.d.bel h) HM.out) (HR.out.d.d.below h)
                    have MU : Hid (∀ W, Below wr.heap.size wr W → Calls Tryd.prog 10 #[.pointer (some ⟨op, 0, none⟩), .int .u32 ((k : Int) + 1)] W fun e w' => e = .returned (.tuple #[termD a, .bool true]) ∧ Below W.heap.size W w') := Lib.hid fun W h => termI T op 200 vs k a hsm.fair hmay hp m W (cell_below (below_step HR.out.d.bel h) HM.out) (HR.out.o.d.below h)
                    have v2 : IntKind.u32.wrap ((k : Int) + 1 + 1) = (k : Int) + 1 + 1 := by rw [IntKind.wrap_u32]; omega
                    clear hp hmay hsm
                    go_wp2_with fail
                    refine ML.out.mono ?_
                    rintro e w6 ⟨rfl, hB6⟩
                    have B6 := Lib.hid hB6
                    clear hB6 ML
                    go_wp2_with fail
                    refine (MT.out _ B6.out).mono ?_
                    rintro e w7 ⟨rfl, hB7⟩
                    have B7 := Lib.hid (below_step B6.out hB7)
                    clear hB7 MT B6
                    have z0 : (w7.alloc (.cells #[.int .i64 a.1, .string a.2.1, .string a.2.2] 34)).heap[w7.heap.size]? = some _ := heap_alloc_new w7 _
                    have HZ0 := Lib.hid z0
                    clear z0
                    go_wp2_with fail
                    refine (MU.out _ (below_step B7.out (below_new _ _))).mono ?_
                    rintro e w8 ⟨rfl, hB8⟩
                    have HR8 := Lib.hid (HR.out.keep (below_step (below_step (below_step B7.out (below_new _ _)) hB8) (below_new w8 (.cells #[.int .i64 a.1, .string a.2.1, .string a.2.2] 34))))
                    have hlt8 : w7.heap.size < w8.heap.size := by have := hB8.size; simp at this; omega
                    have hne8 : ¬ w7.heap.size = w8.heap.size := by omega
                    have HZ8 : Hid (w8.heap[w7.heap.size]? = some (.cells #[.int .i64 a.1, .string a.2.1, .string a.2.2] 34 (0, 0))) := Lib.hid ((hB8.block _ (by simp)).trans HZ0.out)
                    have y0 := cell_in HZ8.out (j := 0) rfl
                    have y1 := cell_in HZ8.out (j := 1) rfl
                    have y2 := cell_in HZ8.out (j := 2) rfl
                    have nn2 := term_neq_same a
                    clear hB8 MU B7 HZ0 hlt
                    go_wp2_with fail
                    clear nn2 y0 y1 y2 hlt8 hne8
                    go_roundg (K - (k + 1))
                    case measure => omega
                    case rel => exact ⟨k + 1, by omega, Nat.le_refl _, by go_num, HR8⟩
                  · have d1 : decide ((k : Int) + 1 ≤ (K : Int)) = false := decide_eq_false (by omega)
                    clear hlt hk
                    go_wp2_with fail
                    refine ML.out.mono ?_
                    rintro e w6 ⟨rfl, hB6⟩
                    have HR6 := Lib.hid (HR.out.keep hB6)
                    clear hB6 ML HR HZ v1 hg
                    go_wp2_with fail
                    go_ret
                    exact ⟨rfl, HR6.out.d.bel⟩
end Go.Proofs.YtlamdhklfibjmaaDoor
