/-
  THE LAW DictNil.
-/
import Derived.Test.YtlamdhklfibjmaaDoorDictOften
import Derived.Test.YtlamdhklfibjmaaDoorUtfIter
import Derived.Shelf.Abstract
namespace Go.Proofs.YtlamdhklfibjmaaDoor
open Go.RowKit Go.Shelf
open Utf Term
set_option linter.unusedVariables false
set_option linter.unusedSimpArgs false

theorem run_seq2_nil (fn : Fn) (first cap : Array Value) (w : World) : (binOp .eql 52 (.func fn first cap) .nilFunc).run Tryd.prog w = .ok (.bool false) w := by kernel_rfl

/-- The packed texts of the first k numbers. -/
def packs (k : Nat) : List (List Int) := (List.range k).map fun i => packL (oftenT i)
theorem packs_length (k : Nat) : (packs k).length = k := by unfold packs; simp
theorem packs_next (k : Nat) : packs (k + 1) = packs k ++ [packL (oftenT k)] := by
  unfold packs
  rw [List.range_succ, List.map_append]
  rfl
theorem packs_at {k i : Nat} (h : i < k) : (packs k)[i]? = some (packL (oftenT i)) := by
  unfold packs
  rw [List.getElem?_map, List.getElem?_range h]
  rfl
theorem often_may_all : (List.range 700).all (fun i => mayD (oftenT i)) = true := by decide +kernel
theorem often_may {i : Nat} (h : i < 700) : mayD (oftenT i) = true := List.all_eq_true.1 often_may_all i (List.mem_range.2 h)
theorem often_size (i : Nat) : (oftenS i).size ≤ 3 := by
  unfold oftenS
  rw [← bs_length, bs_strOfNums (oftenL_byte 3 i)]
  have : ∀ f n, (oftenL f n).length ≤ f := by
    intro f
    induction f with
    | zero => intro n; simp [oftenL]
    | succ f ih =>
      intro n
      unfold oftenL
      split
      · simp
      · have := ih (n / 26); simp; omega
  exact this 3 i
theorem often_fair (i : Nat) : Fair (oftenT i) := ⟨by have := often_size i; show (oftenS i).size ≤ _; omega, by show (⟨#[]⟩ : ByteArray).size ≤ _; decide⟩
theorem often_new {k : Nat} (h : k < 700) : packL (oftenT k) ∉ packs k := by
  intro hm
  obtain ⟨i, hi, he⟩ := List.mem_map.1 hm
  have hik := List.mem_range.1 hi
  have h1 := (mayD_facts (often_may (i := i) (by omega)) (by have := (often_fair i).1; omega)).2
  have h2 := (mayD_facts (often_may h) (by have := (often_fair k).1; omega)).2
  have h3 := packL_inj h1 h2 he
  have h4 : oftenS i = oftenS k := congrArg (fun a : TermD => a.2.1) h3
  have := oftenS_inj (by omega) (by omega) h4
  omega
theorem often_intern {k : Nat} (h : k < 700) : internP 700 (packs k) (oftenT k) = (k + 1, 0, packs (k + 1)) := by
  unfold internP
  rw [if_pos (often_may h), if_neg (often_new h), packs_length, if_neg (by omega), packs_next]
theorem often_full : internP 700 (packs 700) termA = (0, 9, packs 700) := by
  unfold internP
  rw [if_pos (by decide +kernel), if_neg ?_, packs_length, if_pos (by omega)]
  intro hm
  obtain ⟨i, hi, he⟩ := List.mem_map.1 hm
  have : (packL (oftenT i)).head? = (packL termA).head? := by rw [he]
  unfold packL oftenT at this
  simp at this
theorem empty_full : internP 0 [] termA = (0, 9, []) := by decide +kernel
theorem packs_flat : ∀ k, (packs k).flatten.length ≤ k * 5
  | 0 => by simp [packs]
  | k + 1 => by
    have := packs_flat k
    have h1 := often_size k
    rw [packs_next, List.flatten_append, List.length_append]
    have h2 : (packL (oftenT k)).length = (oftenS k).size + 0 + 2 := packL_length _
    rw [List.flatten_cons, List.flatten_nil, List.append_nil]
    omega
theorem packs_room {k : Nat} (h : k ≤ 700) (a : TermD) (ha : (packL a).length ≤ 100) : (packs k).flatten.length + (packL a).length ≤ 1000000000000 := by
  have := packs_flat k
  omega
theorem often_pack (i : Nat) : (packL (oftenT i)).length ≤ 100 := by
  have h1 := often_size i
  have h2 : (packL (oftenT i)).length = (oftenS i).size + 0 + 2 := packL_length _
  omega

set_option maxRecDepth 100000 in
theorem setLimit_low (S : Nat → Prop) (dp lim : Nat) (ps : List (List Int)) (q : Nat) (hq : q < ps.length) (hq2 : q ≤ 2147483647) (w : World) (D : DictI w S dp lim ps) :
    Calls Tryd.prog 16 #[.pointer (some ⟨dp, 0, none⟩), .int .i64 q] w fun e w' => e = .returned (.int .i64 2) ∧ Below w.heap.size w w' := by
  have ML := Lib.hid (dictLenI D)
  obtain ⟨tb, ta, ba, tc, bc, tg, sm, D⟩ := D
  have M0 := Lib.hid (isNone_some dp tg tb.length tb.length w D.on.at_.c3)
  have M1 := Lib.hid (isLimit_any (q : Int) w)
  rw [decide_eq_true (by omega)] at M1
  clear D
  have t1 : decide ((q : Int) < (ps.length : Int)) = true := decide_eq_true (by omega)
  have t2 : q < ps.length := hq
  go_enter Tryd.func16, Tryd.ntmps16
  go_wp2_with (first | (go_at_call 20; refine M0.out.mono ?_; rintro e w' ⟨rfl, rfl⟩) | (go_at_call 19; refine M1.out.mono ?_; rintro e w' ⟨rfl, rfl⟩) | (go_at_call 8; refine ML.out.mono ?_; rintro e w1 ⟨rfl, hB⟩))
  go_ret
  exact ⟨rfl, hB⟩

/-- The iteration over no terms, for the range. -/
theorem none_seq (B : Nat) (n : Nat) (w0 : World) (h : w0.heap[B]? = some (.cells #[.slice none 0 0, .slice none 0 0] 47 (0, 0))) :
    SeqStopsK Fence.wide n Tryd.prog 30 #[.pointer (some ⟨B, 0, none⟩)] (fun x : Empty => (nomatch x : Array Value)) (fun _ _ => True) (fun xs => xs = []) (fun _ => False) 0 w0 := by
  intro l J Jx W hB hJ _ _ h0
  have hb : W.heap[B]? = some (.cells #[.slice none 0 0, .slice none 0 0] 47 (0, 0)) := (hB.block B (Array.getElem?_eq_some_iff.1 h).1).trans h
  refine callsIn_wide.2 ((termsStep (.func (.yield l) #[] #[]) B W hb).mono ?_)
  rintro e w' ⟨⟨u, rfl⟩, hk⟩
  exact ⟨⟨u, rfl⟩, .inl ⟨[], rfl, hJ [] W w' none h0 ⟨hk.os, hk.tape, hk.output, hk.size, fun k hk' _ => hk.block k hk'⟩ (fun r e => by cases e)⟩⟩

set_option maxRecDepth 100000 in
set_option maxHeartbeats 8000000 in
theorem dictNil_walk (m : Int) (w : World) (hm : w.cell? ⟨0, 0, none⟩ = some (.int .i64 m)) :
    Calls Tryd.prog 4 #[] w fun e w' => e = .returned (.bool true) ∧ Below w.heap.size w w' := by
  have HM := Lib.hid hm
  have hfn := run_seq2_nil
  clear hm
  refine (callsIn_wide (n := 5)).1 (callsIn_of_wp_marks Tryd.func4 rfl trivial (wpIn_wide.2 ?_) rfl)
  simp only [Tryd.ntmps4, List.size_toArray, List.length_cons, List.length_nil, Nat.reduceAdd, Nat.reduceSub, Array.replicate_succ, Array.replicate_zero, List.push_toArray, List.append_toArray, List.nil_append, List.cons_append]
  have B0 := Lib.hid (below_new w (.cells #[.int .i64 0, .slice none 0 0, .slice none 0 0, .slice none 0 0] 50))
  have Z0 : Hid ((w.alloc (.cells #[.int .i64 0, .slice none 0 0, .slice none 0 0, .slice none 0 0] 50)).cell? ⟨w.heap.size, 3, none⟩ = some (.slice none 0 0)) := Lib.hid (by rw [World.cell?_alloc_at _ _ _ _ rfl]; rfl)
  go_wp2_with fail
  refine (findN (w := w.alloc (.cells #[.int .i64 0, .slice none 0 0, .slice none 0 0, .slice none 0 0] 50)) (.inl rfl) termA).mono ?_
  rintro e w1 ⟨rfl, hB1⟩
  have B1 := Lib.hid (below_step B0.out hB1)
  have NZ1 : Hid (NoneAt w1 (.pointer (some ⟨w.heap.size, 0, none⟩))) := Lib.hid (.inr ⟨_, rfl, cell_below hB1 Z0.out⟩)
  clear hB1 B0 Z0
  go_wp2_with fail
  refine (termN NZ1.out).mono ?_
  rintro e w2 ⟨rfl, hB2⟩
  have hB2' := below_step hB2 (below_new w2 (.cells #[.int .i64 0, .string ⟨#[]⟩, .string ⟨#[]⟩] 34))
  have B2 := Lib.hid (below_step B1.out hB2')
  have NZ2 := Lib.hid (NZ1.out.below hB2')
  clear hB2 hB2' B1 NZ1
  go_wp2_with fail
  generalize (w2.alloc (.cells #[.int .i64 0, .string ⟨#[]⟩, .string ⟨#[]⟩] 34)) = w3 at *
  refine (internN (.inl rfl) termA).mono ?_
  rintro e w4 ⟨rfl, hB4⟩
  have B4 := Lib.hid (below_step B2.out hB4)
  have NZ4 := Lib.hid (NZ2.out.below hB4)
  clear hB4 B2 NZ2
  go_wp2_with fail
  refine (internN NZ4.out (0, ⟨#[]⟩, ⟨#[]⟩)).mono ?_
  rintro e w5 ⟨rfl, hB5⟩
  have hB5' := below_step hB5 (below_new w5 (.cells #[.int .i64 0] 3))
  have B6 := Lib.hid (below_step B4.out hB5')
  have NZ6 := Lib.hid (NZ4.out.below hB5')
  have HN6 : Hid ((w5.alloc (.cells #[.int .i64 0] 3)).cell? ⟨w5.heap.size, 0, none⟩ = some (.int .i64 0)) := Lib.hid (by rw [World.cell?_alloc_at _ _ _ _ rfl]; rfl)
  clear hB5 hB5' B4 NZ4
  go_wp2_with fail
  generalize (w5.alloc (.cells #[.int .i64 0] 3)) = w6 at *
  generalize w5.heap.size = nb at *
  refine (termsN (v := .pointer none) (.inl rfl)).mono ?_
  rintro e w7' ⟨rfl, rfl⟩
  have B7 := Lib.hid (below_step B6.out (below_new w6 (.cells #[.slice none 0 0, .slice none 0 0] 47)))
  have NZ7 := Lib.hid (NZ6.out.below (below_new w6 (.cells #[.slice none 0 0, .slice none 0 0] 47)))
  have HN7 := Lib.hid (cell_below (below_new w6 (.cells #[.slice none 0 0, .slice none 0 0] 47)) HN6.out)
  clear B6 NZ6 HN6
  go_wp2_with fail
  generalize (w6.alloc (.cells #[.slice none 0 0, .slice none 0 0] 47)) = w7 at *
  refine (termsN (v := .pointer none) (.inl rfl)).mono ?_
  rintro e w8' ⟨rfl, rfl⟩
  have B8 := Lib.hid (below_step B7.out (below_new w7 (.cells #[.slice none 0 0, .slice none 0 0] 47)))
  have NZ8 := Lib.hid (NZ7.out.below (below_new w7 (.cells #[.slice none 0 0, .slice none 0 0] 47)))
  have HN8 := Lib.hid (cell_below (below_new w7 (.cells #[.slice none 0 0, .slice none 0 0] 47)) HN7.out)
  have HL8 : Hid ((w7.alloc (.cells #[.slice none 0 0, .slice none 0 0] 47)).heap[w7.heap.size]? = some (.cells #[.slice none 0 0, .slice none 0 0] 47 (0, 0))) := Lib.hid (heap_alloc_new w7 _)
  clear B7 NZ7 HN7
  go_wp2_with fail
  generalize (w7.alloc (.cells #[.slice none 0 0, .slice none 0 0] 47)) = w8 at *
  generalize w7.heap.size = lb at *
  refine (wpIn_wide (n := 5)).1 ?_
  refine wpIn_rangeFunc_ownG (α := Empty) rfl (by omega) (gf := 30) (lb := #[.pointer (some ⟨lb, 0, none⟩)]) rfl trivial (enters_of Tryd.func30 (by kernel_rfl) rfl)
    (none_seq lb (5 - 1) w8 HL8.out) (fun _ _ => trivial) (fun _ _ _ _ _ _ _ _ => trivial) (Below.refl _ _) (fun x => (nomatch x))
    (fun _ W => Below w8.heap.size w8 W) (fun _ _ _ => False) (ownFrom_below (Nat.le_refl _) (Nat.le_refl _)) (fun _ _ _ _ _ hs _ _ => hs) (Below.refl _ _) (fun x => (nomatch x)) ?assign ?body ?done ?stop
  case assign => intro l x; cases x
  case body => intro l pre x; cases x
  case stop =>
    rintro D c pre W _ _ h _
    exact h.elim
  case done =>
    rintro D xs W hD rfl hI hK
    have HK := Lib.hid hK
    have HI := Lib.hid (show Below w8.heap.size w8 W from hI)
    have hD' := Lib.hid hD
    have B8x := Lib.hid B8.out.size
    have n0 : W.cell? ⟨nb, 0, none⟩ = some (.int .i64 0) := cell_below HI.out HN8.out
    have NZ := Lib.hid (NZ8.out.below HI.out)
    have BW := Lib.hid (below_step B8.out HI.out)
    clear hK hI hD NZ8 B8 HN8 HL8
    have MN := Lib.hid (new_no (-1) (by omega) W)
    go_wp2_with (first | (go_at_call 12; refine (numS_any _ _).mono ?_; rintro e w' ⟨rfl, rfl⟩) | (go_at_call 7; refine MN.out.mono ?_; rintro e w' ⟨rfl, rfl⟩))
    refine (lenN (v := .pointer none) (.inl rfl)).mono ?_
    rintro e w' ⟨rfl, rfl⟩
    go_wp2_with (go_at_call 12; refine (numS_any _ _).mono ?_; rintro e w' ⟨rfl, rfl⟩)
    refine (limitN NZ.out).mono ?_
    rintro e w' ⟨rfl, rfl⟩
    go_wp2_with (go_at_call 12; refine (numS_any _ _).mono ?_; rintro e w' ⟨rfl, rfl⟩)
    refine (cutN (v := .pointer none) (.inl rfl) 0).mono ?_
    rintro e w' ⟨rfl, rfl⟩
    go_wp2_with (go_at_call 12; refine (numS_any _ _).mono ?_; rintro e w' ⟨rfl, rfl⟩)
    refine (setLimitN NZ.out 1).mono ?_
    rintro e w' ⟨rfl, rfl⟩
    go_wp2_with (go_at_call 12; refine (numS_any _ _).mono ?_; rintro e w' ⟨rfl, rfl⟩)
    refine (copyN (v := .pointer none) (.inl rfl)).mono ?_
    rintro e w' ⟨rfl, rfl⟩
    go_wp2_with (go_at_call 12; refine (numS_any _ _).mono ?_; rintro e w' ⟨rfl, rfl⟩)
    refine (copyN NZ.out).mono ?_
    rintro e w' ⟨rfl, rfl⟩
    go_wp2_with (go_at_call 12; refine (numS_any _ _).mono ?_; rintro e w' ⟨rfl, rfl⟩)
    refine MN.out.mono ?_
    rintro e w' ⟨rfl, rfl⟩
    have MD := Lib.hid (newI 700 (by omega) W)
    clear NZ n0 MN
    go_wp2_with fail
    refine MD.out.mono ?_
    rintro e wa ⟨dp, rfl, DA, hBA⟩
    have HA := Lib.hid (Mine.start (Below.refl _ _) DA hBA)
    clear DA hBA MD
    have ME := Lib.hid (newI 0 (by omega) wa)
    go_wp2_with fail
    refine ME.out.mono ?_
    rintro e wb ⟨ep, rfl, DB, hBB⟩
    have HAB := Lib.hid (HA.out.keep hBB)
    have HE := Lib.hid (Mine.start HA.out.bel DB hBB)
    have HAP : Hid (∀ j, newS W wa j → ¬ newS wa wb j) := Lib.hid fun j h1 h2 => by have := h1.2; have := h2.1; omega
    clear DB hBB ME HA
    have IE := Lib.hid (internI _ ep 0 [] termA ⟨by decide, by decide⟩ (by decide +kernel) m _ (cell_below (below_step BW.out HE.out.bel) HM.out) HE.out.d)
    rw [empty_full] at IE
    go_wp2_with fail
    refine IE.out.mono ?_
    rintro e wc ⟨rfl, DC, TC⟩
    have HC : Hid (Mine W wc (newS W wa) dp 700 []) := Lib.hid ⟨HAB.out.d.apart TC HAP.out, HAB.out.bel.trans (TC.below HAB.out.bel.size HE.out.new), HAB.out.new⟩
    clear DC TC IE HE HAB HAP
    go_wp2_with fail
    go_loopg [16] 700 (fun g s16 wr => ∃ (k : Nat) (S : Nat → Prop), k ≤ 700 ∧ 700 - k ≤ g ∧ s16 = .int .i64 (k : Int) ∧ Hid (Mine W wr S dp 700 (packs k)))
    case atStart => exact ⟨0, _, by omega, by omega, rfl, HC⟩
    case round =>
      obtain ⟨k, S, hk, hg, rfl, HR⟩ := hrel
      by_cases hlt : k < 700
      · have d1 : decide ((k : Int) < 700) = true := decide_eq_true (by omega)
        have d1' : (k : Int) < 700 := by omega
        have MO := Lib.hid (often_any k (by omega) wr)
        have MI : Hid (∀ Wx, Below wr.heap.size wr Wx → Calls Tryd.prog 9 #[.pointer (some ⟨dp, 0, none⟩), termD (oftenT k)] Wx fun e w' => e = .returned (.tuple #[.int .u32 ((k : Int) + 1), .int .i64 0]) ∧ DictI w' (growS S Wx w') dp 700 (packs (k + 1)) ∧ Turned S Wx w') := Lib.hid fun Wx h => by
          have hh := internI S dp 700 (packs k) (oftenT k) (often_fair k) (packs_room (by omega) _ (often_pack k)) m Wx (cell_below (below_step BW.out (below_step HR.out.bel h)) HM.out) (HR.out.d.below h)
          rw [often_intern hlt, show ((k + 1 : Nat) : Int) = (k : Int) + 1 by omega] at hh
          exact hh
        have e1 : IntKind.i64.wrap ((k : Int) + 1) = (k : Int) + 1 := IntWalk.i64_in _ (by omega)
        unfold oftenT at MI
        go_wp2_with fail
        refine MO.out.mono ?_
        rintro e wd ⟨rfl, hBd⟩
        have Bd := Lib.hid hBd
        clear hBd MO
        generalize oftenS k = ok at *
        go_wp2_with fail
        refine (MI.out _ Bd.out).mono ?_
        rintro e we ⟨rfl, De, Te⟩
        have HRE := Lib.hid ((HR.out.keep Bd.out).next De Te)
        clear De Te MI Bd HR
        go_wp2_with (go_at_call 12; refine (numS_any _ _).mono ?_; rintro e w' ⟨rfl, rfl⟩)
        go_roundg (700 - (k + 1))
        case measure => omega
        case rel => exact ⟨k + 1, _, by omega, Nat.le_refl _, by go_num, HRE⟩
      · have d1 : decide ((k : Int) < 700) = false := decide_eq_false (by omega)
        obtain rfl : k = 700 := by omega
        have hA : (packL termA).length ≤ 100 := by decide +kernel
        have IA := Lib.hid (internI S dp 700 (packs 700) termA ⟨by decide, by decide⟩ (packs_room (by omega) _ hA) m wr (cell_below (below_step BW.out HR.out.bel) HM.out) HR.out.d)
        rw [often_full] at IA
        have PL := Lib.hid (packs_length 700)
        have PA := Lib.hid (packs_at (k := 700) (i := 350) (by omega))
        generalize packs 700 = ps at *
        clear hlt hk hg hA
        go_wp2_with fail
        refine IA.out.mono ?_
        rintro e wd ⟨rfl, Dd, Td⟩
        have HD := Lib.hid (HR.out.next Dd Td)
        clear Dd Td IA HR
        generalize hS2 : growS S wr wd = S2 at *
        clear hS2
        have MO := Lib.hid (often_any 350 (by omega) wd)
        go_wp2_with fail
        refine MO.out.mono ?_
        rintro e we ⟨rfl, hBe⟩
        have HE := Lib.hid (HD.out.keep hBe)
        clear hBe MO HD
        have MF := Lib.hid (findI S2 dp 700 ps (oftenT 350) (often_fair 350) (often_may (by omega)) m we (cell_below (below_step BW.out HE.out.bel) HM.out) HE.out.d)
        rw [number_at HE.out.d.nodup PA.out, decide_eq_true (by omega), show ((350 + 1 : Nat) : Int) = 351 from rfl] at MF
        unfold oftenT at MF
        clear PA
        generalize oftenS 350 = ok at *
        go_wp2_with fail
        refine MF.out.mono ?_
        rintro e wf ⟨rfl, hBf⟩
        have HF := Lib.hid (HE.out.keep hBf)
        clear hBf MF HE
        have MS := Lib.hid (setLimit_low S2 dp 700 ps 699 (by rw [PL.out]; omega) (by omega) wf HF.out.d)
        rw [show ((699 : Nat) : Int) = 699 from rfl] at MS
        go_wp2_with (go_at_call 12; refine (numS_any _ _).mono ?_; rintro e w' ⟨rfl, rfl⟩)
        refine MS.out.mono ?_
        rintro e wg ⟨rfl, hBg⟩
        have HG := Lib.hid (HF.out.keep hBg)
        clear hBg MS HF
        have MC := Lib.hid (cut_all S2 dp 700 ps wg HG.out.d 701 (.inr (by rw [PL.out]; omega)))
        rw [PL.out, if_neg (by omega)] at MC
        go_wp2_with (go_at_call 12; refine (numS_any _ _).mono ?_; rintro e w' ⟨rfl, rfl⟩)
        refine MC.out.mono ?_
        rintro e wh ⟨rfl, hBh⟩
        have HH := Lib.hid (HG.out.keep hBh)
        clear hBh MC HG
        have MC := Lib.hid (cut_all S2 dp 700 ps wh HH.out.d 700 (.inr (by rw [PL.out]; omega)))
        rw [PL.out, if_pos (by omega)] at MC
        go_wp2_with (go_at_call 12; refine (numS_any _ _).mono ?_; rintro e w' ⟨rfl, rfl⟩)
        refine MC.out.mono ?_
        rintro e wi ⟨rfl, hBi⟩
        have HI2 := Lib.hid (HH.out.keep hBi)
        clear hBi MC HH
        have ML := Lib.hid (dictLenI HI2.out.d)
        rw [PL.out, show ((700 : Nat) : Int) = 700 from rfl] at ML
        go_wp2_with (go_at_call 12; refine (numS_any _ _).mono ?_; rintro e w' ⟨rfl, rfl⟩)
        refine ML.out.mono ?_
        rintro e wj ⟨rfl, hBj⟩
        have HJ := Lib.hid (HI2.out.keep hBj)
        clear hBj ML HI2
        have MK := Lib.hid (knownS_any m wj (cell_below (below_step BW.out HJ.out.bel) HM.out))
        go_wp2_with fail
        refine MK.out.mono ?_
        rintro e wk ⟨rfl, hBk⟩
        have HK2 := Lib.hid (HJ.out.keep hBk)
        clear hBk MK HJ
        go_wp2_with fail
        have hK' : wk.heap[D]? = some (.deferred (some [])) := (HK2.out.bel.block D (Array.getElem?_eq_some_iff.1 HK.out).1).trans HK.out
        have hDw : w.heap.size ≤ D := by have := B8x.out; have := hD'.out; omega
        refine ⟨by simp, .inl ⟨_, _, rfl, run_takeDeferred hK', ?_⟩⟩
        exact ⟨_, results_tmp rfl _ _ _, rfl, (below_step BW.out HK2.out.bel).trans (belowK_b (w := w) (Nat.le_refl _) wk D _ _ hDw hK' rfl rfl)⟩
end Go.Proofs.YtlamdhklfibjmaaDoor
