/-
  WHAT THE PROOF STANDS ON, a part of it: LexTerms.
-/
import Derived.Test.YtfldpfomecjdkaaGreatDoorS34
import Derived.Test.YtfldpfomecjdkaaGreatDoorS30
import Derived.Deep.RegionHeld3
import Derived.Deep.DeepCutAuto
/-
  THE WALK OF LexTerms. Written by tools/genlexterms.py.
-/

namespace Go.Proofs.YtfldpfomecjdkaaGreatDoor
open Go.RowKit
open Utf Term Lex
set_option linter.unusedVariables false
set_option linter.unusedSimpArgs false

theorem term4_neq (k : Int) (t x : ByteArray) (w : World) : (binOp .neq 31 (.agg #[.int .i64 k, .string t, .string x]) (.agg #[.int .i64 k, .string t, .string x])).run Tryz.prog w = .ok (.bool false) w := by
  go_simp
/-- A slice of symbols from a place on. -/
theorem sym_from4 (g o n cap i : Nat) (hi : i ≤ n) (hc : n ≤ cap) : ∃ v', (∀ U, (Instr.slice 25 (.slice (some ⟨g, o, none⟩) n cap) (some (.int .i64 (i : Int))) none none).run Tryz.prog U = .ok v' U) ∧ (cap ≤ maxLen → ∀ U L, L.length = n → RowS U g o L → SlA U v' (L.drop i)) := by
  have h0 : (0 : Int) ≤ (i : Int) := by omega
  have h1 : (i : Int) ≤ (n : Int) := by omega
  have h2 : (n : Int) ≤ (cap : Int) := by omega
  have hz : ∀ W, (sizeOf 43).run Tryz.prog W = .ok 6 W := fun W => by kernel_rfl
  by_cases hk : cap = i
  · refine ⟨.slice (some ⟨g, o, none⟩) 0 0, fun U => ?_, fun hm U L hL hr => ?_⟩
    · obtain rfl : n = i := by omega
      subst hk
      simp [Instr.slice, run_underlying Tryz.underlying25, Instr.sliceBounds, Instr.sliceBound, asIntOf, h0, hz, go_sem, Addr.add]
    · rw [List.drop_eq_nil_of_le (by omega)]
      exact SlA.nil _ g o 0 (Nat.zero_le _)
  · refine ⟨.slice (some ⟨g, o + i * 6, none⟩) (n - i) (cap - i), fun U => ?_, fun hm U L hL hr => ?_⟩
    · have h3 : (i : Int) ≤ (cap : Int) := by omega
      have h4 : ¬ cap - i = 0 := by omega
      simp [Instr.slice, run_underlying Tryz.underlying25, Instr.sliceBounds, Instr.sliceBound, asIntOf, h0, h1, h2, h3, h4, hz, go_sem, Addr.add]
      rw [if_pos hi, if_neg hk]
      by_cases h6 : i * 6 = 0
      · rw [if_pos h6, h6, Nat.add_zero]
      · rw [if_neg h6]
    · exact .inr ⟨g, o + i * 6, cap - i, by rw [List.length_drop, hL], by rw [List.length_drop]; omega, by omega, hr.drop (by omega)⟩
theorem goodS_mono {N M : Nat} {x : Sym} (h : GoodS N x) (k : N ≤ M) : GoodS M x :=
  ⟨h.bt, h.btt, h.bte, Nat.le_trans h.lt k, Nat.le_trans h.ltt k, Nat.le_trans h.lte k, Nat.le_trans h.pl k, h.iri, h.blank, h.lang, h.name⟩
theorem slA_from {W : World} {ao : Option Addr} {n cap : Nat} {L : List Sym} (h : SlA W (.slice ao n cap) L) (hn : n = L.length) (i : Nat) (hi : i ≤ n) :
    ∃ v', (∀ U, (Instr.slice 25 (.slice ao n cap) (some (.int .i64 (i : Int))) none none).run Tryz.prog U = .ok v' U) ∧ ∀ U, Below W.heap.size W U → SlA U v' (L.drop i) := by
  rcases h with ⟨h1, rfl⟩ | ⟨g, o, cap', h1, h2, h3, h4⟩
  · cases h1
    obtain rfl : i = 0 := by simp at hn; omega
    refine ⟨.slice none 0 0, fun U => ?_, fun U hU => .inl ⟨rfl, rfl⟩⟩
    have hz : (sizeOf 43).run Tryz.prog U = .ok 6 U := by kernel_rfl
    simp [Instr.slice, run_underlying Tryz.underlying25, Instr.sliceBounds, Instr.sliceBound, asIntOf, hz, go_sem]
  · obtain ⟨rfl, rfl, rfl⟩ : ao = some ⟨g, o, none⟩ ∧ n = L.length ∧ cap = cap' := by injection h1 with e1 e2 e3; exact ⟨e1, e2, e3⟩
    obtain ⟨v', h5, h6⟩ := sym_from4 g o L.length cap i hi h2
    exact ⟨v', h5, fun U hU => h6 h3 U L rfl (h4.below hU)⟩

/-- A symbol's six cells, and what lies below. -/
theorem sym_at {w : World} {g o : Nat} {z0 z2 z5 : Int} {z1 z3 z4 : ByteArray} (h : SixAt w g o (symC z0 z1 z2 z3 z4 z5)) :
    w.cell? ⟨g, o, none⟩ = some (.int .i64 z0) ∧ w.cell? ⟨g, o + 1, none⟩ = some (.string z1) ∧ w.cell? ⟨g, o + 2, none⟩ = some (.int .i64 z2) ∧ w.cell? ⟨g, o + 3, none⟩ = some (.string z3) ∧ w.cell? ⟨g, o + 4, none⟩ = some (.string z4) ∧ w.cell? ⟨g, o + 5, none⟩ = some (.int .i64 z5) ∧ Below w.heap.size w w :=
  ⟨h 0 (by omega), h 1 (by omega), h 2 (by omega), h 3 (by omega), h 4 (by omega), h 5 (by omega), Below.refl _ _⟩
theorem sym_step {w u v : World} {g o : Nat} {z0 z2 z5 : Int} {z1 z3 z4 : ByteArray} (h : u.cell? ⟨g, o, none⟩ = some (.int .i64 z0) ∧ u.cell? ⟨g, o + 1, none⟩ = some (.string z1) ∧ u.cell? ⟨g, o + 2, none⟩ = some (.int .i64 z2) ∧ u.cell? ⟨g, o + 3, none⟩ = some (.string z3) ∧ u.cell? ⟨g, o + 4, none⟩ = some (.string z4) ∧ u.cell? ⟨g, o + 5, none⟩ = some (.int .i64 z5) ∧ Below w.heap.size w u) (k : Below u.heap.size u v) :
    v.cell? ⟨g, o, none⟩ = some (.int .i64 z0) ∧ v.cell? ⟨g, o + 1, none⟩ = some (.string z1) ∧ v.cell? ⟨g, o + 2, none⟩ = some (.int .i64 z2) ∧ v.cell? ⟨g, o + 3, none⟩ = some (.string z3) ∧ v.cell? ⟨g, o + 4, none⟩ = some (.string z4) ∧ v.cell? ⟨g, o + 5, none⟩ = some (.int .i64 z5) ∧ Below w.heap.size w v :=
  ⟨cell_kept_b k h.1, cell_kept_b k h.2.1, cell_kept_b k h.2.2.1, cell_kept_b k h.2.2.2.1, cell_kept_b k h.2.2.2.2.1, cell_kept_b k h.2.2.2.2.2.1, h.2.2.2.2.2.2.trans (k.mono h.2.2.2.2.2.2.size)⟩
theorem below_set3 {B : Nat} {w W : World} (h : Below B w W) {g : Nat} (hg : B ≤ g) (a b c : Value) : Below B w (((W.setCell ⟨g, 0, none⟩ a).setCell ⟨g, 1, none⟩ b).setCell ⟨g, 2, none⟩ c) :=
  ((h.setCell hg a).setCell hg b).setCell hg c
/-- What the first reader has left. -/
def LtA (y : World) (tt : TermD) (kk : Nat) (ee : Int) (s15 s16 s17 : Value) (wx : World) : Prop :=
  ∃ g, s15 = .pointer (some ⟨g, 0, none⟩) ∧ s16 = .int .i64 kk ∧ s17 = .int .i64 ee ∧ BlockAt wx g (termC tt.1 tt.2.1 tt.2.2) 31 ∧ Below y.heap.size y wx

set_option maxRecDepth 100000 in
set_option maxHeartbeats 32000000 in
theorem lexTerms_walk (s : ByteArray) (ps : List (ByteArray × ByteArray)) (ptr : Option Addr) (pcap : Nat) (hpl : ps.length ≤ 9223372036854775807) (q : Int) (mk wd : ByteArray) (w : World) (hpr : PreRow w ptr ps) (he : LexEnv w) (hrp : 0 < w.heap.size ∧ 1 < w.heap.size ∧ 2 < w.heap.size) :
    Calls Tryz.prog 3 #[.string s, .slice ptr ps.length pcap, .int .i64 q, .string mk, .string wd] w fun e w' => e = .returned (.bool true) ∧ Below w.heap.size w w' := by
  have HKn := Lib.hid (fun W (h : Below w.heap.size w W) => known4_any W (he.below h) (by have := h.size; exact ⟨by omega, by omega, by omega⟩))
  have HE := Lib.hid he
  have HPr := Lib.hid hpr
  obtain ⟨m, hm⟩ : ∃ m, m = min s.size 9000 := ⟨_, rfl⟩
  have hmi : min (s.size : Int) 9000 = (m : Int) := by omega
  have hms : m ≤ s.size := by omega
  have hm9 : m ≤ 9000 := by omega
  have hsl := slice_first s m hms
  have hmz : 9000 < s.size ∨ m = s.size := by omega
  have hts : (s.extract 0 m).size ≤ 9000 := by simp; omega
  generalize s.extract 0 m = t at *
  have hgood : ∀ x ∈ (allL ((bs t).take (wfL (bs t)))).1, GoodS 9000 x := by
    have hb : (bs t).take (wfL (bs t)) = bs (t.extract 0 (wfL (bs t))) := (bs_first t _).symm
    rw [hb]
    intro x hx
    exact goodS_mono (all_good _ x hx) (by simp; omega)
  have hLl : (allL ((bs t).take (wfL (bs t)))).1.length ≤ 9000 := by
    have := (toks_place _ ((bs t).take (wfL (bs t))) 0 (Nat.le_refl _)).2.1
    rw [List.length_take, bs_length] at this
    unfold allL
    omega
  have hrun : ∀ W, Calls Tryz.prog 6 #[.string t] W fun e w' => Below W.heap.size W w' ∧ ∃ v, e = .returned (.tuple #[v, .int .i64 ((allL ((bs t).take (wfL (bs t)))).2 : Nat)]) ∧ w'.ownsRow W.heap.size 43 6 v (allL ((bs t).take (wfL (bs t)))).1.length (flatS (allL ((bs t).take (wfL (bs t)))).1) := fun W => refRun_is t (by omega) W
  generalize (allL ((bs t).take (wfL (bs t)))).1 = L at *
  generalize (allL ((bs t).take (wfL (bs t)))).2 = tend at *
  have HRun := Lib.hid hrun
  have HG := Lib.hid hgood
  clear hrun hgood he hpr hm hts
  obtain ⟨n, hn⟩ : ∃ n, n = ps.length := ⟨_, rfl⟩
  have HNn := Lib.hid hn
  rw [← hn] at hpl ⊢
  clear hn
  go_enter Tryz.func3, Tryz.ntmps3
  go_upto_region 3 with fail
  go_loopg [11, 12] 21 (fun g a i wr => ∃ (k : Nat) (N : Int), a = .int .i64 N ∧ i = .int .i64 k ∧ k ≤ n ∧ k ≤ 21 ∧ 21 - k ≤ g ∧ 0 ≤ N ∧ N ≤ (k : Int) * 20000 ∧ (N ≤ 9000 → ∀ x ∈ ps.take k, x.2.size ≤ 9000) ∧ Below w.heap.size w wr)
  case atStart => exact ⟨0, 0, rfl, rfl, Nat.zero_le _, by omega, by omega, by omega, by omega, fun _ x hx => by simp at hx, Below.refl _ _⟩
  case round =>
    obtain ⟨k, N, rfl, rfl, hkn, hk21, hg, hN0, hN1, hsm, hB⟩ := hrel
    have HSm := Lib.hid hsm
    have HB := Lib.hid hB
    clear hsm hB
    by_cases hgo : k < n ∧ k ≤ 20
    · obtain ⟨hlt, hle⟩ := hgo
      have d1 : decide ((k : Int) < (n : Int)) = true := by simpa using hlt
      have d1n : decide (k < n) = true := by simpa using hlt
      have d2 : decide ((k : Int) ≤ 20) = true := by simp; omega
      have hin : k < ps.length := by have := HNn.out; omega
      obtain ⟨x, hx⟩ : ∃ x, ps[k]? = some x := ⟨ps[k], List.getElem?_eq_getElem hin⟩
      obtain ⟨g0, o, rfl, c0, c1⟩ := (HPr.out.below HB.out) k x hx
      obtain ⟨a1, ha1⟩ : ∃ a1 : Int, min (x.1.size : Int) 9001 = a1 := ⟨_, rfl⟩
      obtain ⟨b1, hb1⟩ : ∃ b1 : Int, min (x.2.size : Int) 9001 = b1 := ⟨_, rfl⟩
      have ha : 0 ≤ a1 ∧ a1 ≤ 9001 := by omega
      have hb : 0 ≤ b1 ∧ b1 ≤ 9001 ∧ (b1 ≤ 9000 → x.2.size ≤ 9000) := by omega
      have w1 : IntKind.i64.wrap (N + a1) = N + a1 := IntWalk.i64_in _ (by omega)
      have w2 : IntKind.i64.wrap (N + a1 + b1) = N + a1 + b1 := IntWalk.i64_in _ (by omega)
      have htk : ps.take (k + 1) = ps.take k ++ [x] := by rw [List.take_add_one, hx]; rfl
      have HSm2 : Hid (N + a1 + b1 ≤ 9000 → ∀ y ∈ ps.take (k + 1), y.2.size ≤ 9000) := Lib.hid (fun h y hy => by
        rw [htk] at hy
        rcases List.mem_append.1 hy with hy | hy
        · exact HSm.out (by omega) y hy
        · rw [List.mem_singleton.1 hy]; exact hb.2.2 (by omega))
      have i0 : (0 : Int) ≤ (k : Int) := by omega
      have i1 : (k : Int) < (n : Int) := by omega
      clear htk hx
      go_wp2_with fail
      go_quiet (fail)
      go_wp2_with fail
      go_roundg (21 - (k + 1))
      case measure => omega
      case rel => exact ⟨k + 1, N + a1 + b1, by go_num, by go_num, by omega, by omega, Nat.le_refl _, by omega, by omega, HSm2.out, HB.out.trans (lex_drewN _ _ _)⟩
    · have hex : k = n ∨ (k < n ∧ k = 21) := by omega
      have hall : n ≤ 20 → N ≤ 9000 → ∀ x ∈ ps, x.2.size ≤ 9000 := fun h1 h2 x hx => by
        have hk : k = n := by omega
        have := HSm.out h2 x
        rw [hk, HNn.out, List.take_length] at this
        exact this hx
      have HAll := Lib.hid hall
      clear hall hgo HSm
      rcases hex with hk | ⟨hk, hk2⟩
      · have d1 : decide ((k : Int) < (n : Int)) = false := by simp; omega
        have d1n : decide (k < n) = false := by simp; omega
        clear hk
        go_upto_region 7 with (go_at_call 6; refine (HRun.out _).mono ?_; rintro e y ⟨hY, v, rfl, ho⟩)
        have hsl2 := SlA.of (slice_of_owns ho)
        obtain ⟨ao, cap, rfl, _⟩ := owns_formL ho
        have HSl := Lib.hid hsl2
        have HB1 := Lib.hid (HB.out.trans (hY.mono HB.out.size))
        clear hY ho hsl2 HRun HB hsl
        obtain ⟨ln, hln⟩ : ∃ ln, ln = L.length := ⟨_, rfl⟩
        have HLn := Lib.hid hln
        rw [← hln] at hLl ⊢
        rw [← hln] at HSl
        clear hln
        by_cases h1 : 9000 < s.size
        · have e1 : decide ((9000 : Int) < (s.size : Int)) = true := by simp; omega
          have e1n : decide (9000 < s.size) = true := by simp; omega
          have HKy := Lib.hid (HKn.out y HB1.out)
          go_wp2_with (go_at_call 7; refine HKy.out.mono ?_; rintro e z ⟨rfl, hZ⟩)
          go_ret
          exact ⟨rfl, HB1.out.trans (hZ.mono HB1.out.size)⟩
        have e1 : decide ((9000 : Int) < (s.size : Int)) = false := by simp; omega
        have e1n : decide (9000 < s.size) = false := by simp; omega
        by_cases h2 : 20 < n
        · have e2 : decide ((20 : Int) < (n : Int)) = true := by simp; omega
          have e2n : decide (20 < n) = true := by simp; omega
          have HKy := Lib.hid (HKn.out y HB1.out)
          go_wp2_with (go_at_call 7; refine HKy.out.mono ?_; rintro e z ⟨rfl, hZ⟩)
          go_ret
          exact ⟨rfl, HB1.out.trans (hZ.mono HB1.out.size)⟩
        have e2 : decide ((20 : Int) < (n : Int)) = false := by simp; omega
        have e2n : decide (20 < n) = false := by simp; omega
        by_cases h3 : 9000 < N
        · have e3 : decide ((9000 : Int) < N) = true := by simp; omega
          have HKy := Lib.hid (HKn.out y HB1.out)
          go_wp2_with (go_at_call 7; refine HKy.out.mono ?_; rintro e z ⟨rfl, hZ⟩)
          go_ret
          exact ⟨rfl, HB1.out.trans (hZ.mono HB1.out.size)⟩
        have e3 : decide ((9000 : Int) < N) = false := by simp; omega
        by_cases h4 : q < 0
        · have e4 : decide (q < (0 : Int)) = true := by simp; omega
          have HKy := Lib.hid (HKn.out y HB1.out)
          go_wp2_with (go_at_call 7; refine HKy.out.mono ?_; rintro e z ⟨rfl, hZ⟩)
          go_ret
          exact ⟨rfl, HB1.out.trans (hZ.mono HB1.out.size)⟩
        have e4 : decide (q < (0 : Int)) = false := by simp; omega
        by_cases h5 : (ln : Int) < q
        · have e5 : decide ((ln : Int) < q) = true := by simp; omega
          have HKy := Lib.hid (HKn.out y HB1.out)
          go_wp2_with (go_at_call 7; refine HKy.out.mono ?_; rintro e z ⟨rfl, hZ⟩)
          go_ret
          exact ⟨rfl, HB1.out.trans (hZ.mono HB1.out.size)⟩
        have e5 : decide ((ln : Int) < q) = false := by simp; omega
        obtain ⟨i, rfl⟩ : ∃ i : Nat, q = (i : Int) := ⟨q.toNat, by omega⟩
        have hi : i ≤ ln := by omega
        obtain ⟨v', hsl', hsa⟩ := slA_from HSl.out HLn.out i hi
        have HSa := Lib.hid hsa
        have hpsz := HAll.out (by omega) (by omega)
        have hP : ∀ a b, lookP ps a = some b → b.size ≤ 1000000000 := fun a b h => by
          obtain ⟨z, hz, _, rfl⟩ := lookP_mem a b ps h
          have := hpsz z hz
          omega
        have hgd : ∀ x ∈ L.drop i, GoodS 9000 x := fun x hx => HG.out x (List.mem_of_mem_drop hx)
        have HRd : Hid (∀ U b, Below y.heap.size y U → MapB U b (lookP ps) → Calls Tryz.prog 8 #[v', .map (some b)] U (ReadOut (readS (lookP ps) (L.drop i)) U)) := Lib.hid (fun U b hU hm => by
          have hE := HE.out.below (HB1.out.trans (hU.mono HB1.out.size))
          exact read_any (lookP ps) (.map (some b)) 9000 (by decide) hP v' (L.drop i) hgd U hE (named_any (lookP ps) (.map (some b)) 9000 (by decide) U hE (fun W hW => (hm.keep hW).tells) hP) (hsa U hU))
        have HRf : Hid (∀ U, Below y.heap.size y U → Calls Tryz.prog 10 #[v', .slice ptr n pcap] U (ReadR (readS (lookP ps) (L.drop i)) U)) := Lib.hid (fun U hU => by
          have := refRead_any ps 9000 (Nat.le_refl _) hpsz (by have := HNn.out; omega) ptr pcap v' (L.drop i) hgd U (hsa U hU) (HPr.out.below (HB1.out.trans (hU.mono HB1.out.size)))
          rwa [← HNn.out] at this)
        have HPx : Hid (∀ U, Below y.heap.size y U → Calls Tryz.prog 9 #[.slice ptr n pcap] U fun e w' => ∃ b, e = .returned (.map (some b)) ∧ MapB w' b (lookP ps) ∧ Below U.heap.size U w') := Lib.hid (fun U hU => by
          have := prefixes_any ps (by have := HNn.out; omega) ptr pcap U (HPr.out.below (HB1.out.trans (hU.mono HB1.out.size)))
          rwa [← HNn.out] at this)
        have i0 : (0 : Int) ≤ (i : Int) := by omega
        clear hsa hpsz hP hgd HAll h1 h2 h3 h4 h5
        obtain ⟨tt, kk, ee, HRd2, HRf2, hways⟩ : ∃ (tt : TermD) (kk : Nat) (ee : Int), Hid (∀ U b, Below y.heap.size y U → MapB U b (lookP ps) → Calls Tryz.prog 8 #[v', .map (some b)] U fun e w' => e = .returned (.tuple #[.agg (termC tt.1 tt.2.1 tt.2.2), .int .i64 kk, .int .i64 ee]) ∧ Below U.heap.size U w') ∧ Hid (∀ U, Below y.heap.size y U → Calls Tryz.prog 10 #[v', .slice ptr n pcap] U fun e w' => e = .returned (.tuple #[.agg (termC tt.1 tt.2.1 tt.2.2), .int .i64 kk]) ∧ Below U.heap.size U w') ∧ ((0 < kk ∧ ee = 0) ∨ (kk = 0 ∧ ee = 4)) := by
          cases hr : readS (lookP ps) (L.drop i) with
          | none =>
            rw [hr] at HRd HRf
            exact ⟨(0, ⟨#[]⟩, ⟨#[]⟩), 0, 4, HRd, HRf, .inr ⟨rfl, rfl⟩⟩
          | some r =>
            obtain ⟨tt, kk⟩ := r
            rw [hr] at HRd HRf
            have := readS_pos hr
            exact ⟨tt, kk, 0, HRd, HRf, .inl ⟨by omega, rfl⟩⟩
        have HWays := Lib.hid hways
        clear hways HRd HRf
        go_upto_region 9 with fail
        go_cut [15, 16, 17] (fun s15 s16 s17 wx => LtA y tt kk ee s15 s16 s17 wx)
        case first =>
          go_region_with (first
            | (go_at_call 9; refine (HPx.out _ ((Below.refl _ _).drew)).mono ?_; rintro e y2 ⟨b, rfl, hmb, hY2⟩)
            | (go_at_call 9; refine (HPx.out _ (below_lex y _).drew).mono ?_; rintro e y2 ⟨b, rfl, hmb, hY2⟩; have hk2 : BlockAt y2 y.heap.size zeroTermC 31 := BlockAt.kept (w := (y.alloc (.cells zeroTermC 31)).drew) (block_new y zeroTermC 31) hY2)
            | (go_at_call 8; refine (HRd2.out _ b (by first | exact (Below.refl _ _).drew.trans (hY2.mono (Nat.le_refl _)) | exact (below_lex y _).drew.trans (hY2.mono (by simp))) hmb).mono ?_; rintro e y3 ⟨rfl, hY3⟩; (first | (have hk3 : BlockAt y3 y.heap.size zeroTermC 31 := hk2.kept hY3; have z0 := hk3.cell (j := 0) rfl; have z1 := hk3.cell (j := 1) rfl; have z2 := hk3.cell (j := 2) rfl; have zf := hk3.free) | skip))
            | (go_at_call 8; refine (HRd2.out _ b (((Below.refl _ _).drew.trans (hY2.mono (Nat.le_refl _))).alloc hY2.size _) (hmb.keep (below_lex _ _))).mono ?_; rintro e y3 ⟨rfl, hY3⟩; have hk3 : BlockAt y3 y2.heap.size zeroTermC 31 := (block_new _ _ _).kept hY3; have z0 := hk3.cell (j := 0) rfl; have z1 := hk3.cell (j := 1) rfl; have z2 := hk3.cell (j := 2) rfl; have zf := hk3.free))
          · have hb9 : BlockAt (y3.alloc (.cells (termC tt.1 tt.2.1 tt.2.2) 31)) y3.heap.size (termC tt.1 tt.2.1 tt.2.2) 31 := block_new _ _ _
            have hB9 : Below y.heap.size y (y3.alloc (.cells (termC tt.1 tt.2.1 tt.2.2) 31)) := (((Below.refl _ _).drew.trans (hY2.mono (Nat.le_refl _))).trans (hY3.mono hY2.size)).alloc (Nat.le_trans hY2.size hY3.size) _
            go_wp2_with fail
            go_meet
            exact ⟨_, rfl, rfl, rfl, hb9, hB9⟩
          · have hb9 := ((hk3.set 0 (.int .i64 tt.1)).set 1 (.string tt.2.1)).set 2 (.string tt.2.2)
            have hB9 := below_set3 ((((Below.refl y.heap.size y).drew.trans (hY2.mono (Nat.le_refl _))).alloc hY2.size (.cells zeroTermC 31)).trans (hY3.mono (Nat.le_trans hY2.size (by simp)))) (g := y2.heap.size) hY2.size (.int .i64 tt.1) (.string tt.2.1) (.string tt.2.2)
            go_wp2_with fail
            go_meet
            exact ⟨_, rfl, rfl, rfl, hb9, hB9⟩
          · have hb9 := ((hk3.set 0 (.int .i64 tt.1)).set 1 (.string tt.2.1)).set 2 (.string tt.2.2)
            have hB9 := below_set3 (((below_lex y (.cells zeroTermC 31)).drew.trans (hY2.mono (by simp))).trans (hY3.mono (Nat.le_trans (by simp) hY2.size))) (g := y.heap.size) (Nat.le_refl _) (.int .i64 tt.1) (.string tt.2.1) (.string tt.2.2)
            go_wp2_with fail
            go_meet
            exact ⟨_, rfl, rfl, rfl, hb9, hB9⟩
        case rest =>
          obtain ⟨g1, rfl, rfl, rfl, hb1, hY1⟩ := hcut
          have HT1 := Lib.hid hb1
          have HY1 := Lib.hid hY1
          clear hb1 hY1
          go_upto_region 11 with (go_at_call 10; refine (HRf2.out _ HY1.out).mono ?_; rintro e y4 ⟨rfl, hY4⟩)
          have HT4 := Lib.hid ((HT1.out.kept hY4).kept (below_lex y4 (.cells (termC tt.1 tt.2.1 tt.2.2) 31)))
          have HT5 := Lib.hid (block_new y4 (termC tt.1 tt.2.1 tt.2.2) 31)
          have HB5 := Lib.hid ((HY1.out.trans (hY4.mono HY1.out.size)).alloc (Nat.le_trans HY1.out.size hY4.size) (.cells (termC tt.1 tt.2.1 tt.2.2) 31))
          clear hY4 HT1 HY1
          generalize hy5 : y4.alloc (.cells (termC tt.1 tt.2.1 tt.2.2) 31) = y5 at *
          clear hy5
          generalize y4.heap.size = g2 at *
          have HP : Hid (∀ W, Below y5.heap.size y5 W → Below w.heap.size w W) := Lib.hid (fun W h => HB1.out.trans ((HB5.out.trans (h.mono HB5.out.size)).mono HB1.out.size))
          have hnq := fun W => term4_neq tt.1 tt.2.1 tt.2.2 W
          have p0 : y5.cell? ⟨g1, 0, none⟩ = some (.int .i64 tt.1) := HT4.out.cell (j := 0) rfl
          have p1 : y5.cell? ⟨g1, 1, none⟩ = some (.string tt.2.1) := HT4.out.cell (j := 1) rfl
          have p2 : y5.cell? ⟨g1, 2, none⟩ = some (.string tt.2.2) := HT4.out.cell (j := 2) rfl
          have q0 : y5.cell? ⟨g2, 0, none⟩ = some (.int .i64 tt.1) := HT5.out.cell (j := 0) rfl
          have q1 : y5.cell? ⟨g2, 1, none⟩ = some (.string tt.2.1) := HT5.out.cell (j := 1) rfl
          have q2 : y5.cell? ⟨g2, 2, none⟩ = some (.string tt.2.2) := HT5.out.cell (j := 2) rfl
          have HSl5 := Lib.hid (HSl.out.below HB5.out)
          go_cut [121] (fun s121 wx => s121 = .bool false ∧ wx = y5)
          case first =>
            rcases HWays.out with ⟨hkk, rfl⟩ | ⟨rfl, rfl⟩
            · have k1 : ((kk : Int) == 0) = false := by simp; omega
              have k2 : decide ((0 : Int) < (kk : Int)) = true := by simp; omega
              have k3 : decide (0 < kk) = true := by simp; omega
              have k4 : (kk == 0) = false := by simp; omega
              go_wp2_with (go_at_call 11; refine (num4_any _ _).mono ?_; rintro e w' ⟨rfl, rfl⟩)
              go_meet
              exact ⟨rfl, rfl⟩
            · go_wp2_with (go_at_call 11; refine (num4_any _ _).mono ?_; rintro e w' ⟨rfl, rfl⟩)
              go_meet
              exact ⟨rfl, rfl⟩
          case rest =>
            obtain ⟨rfl, rfl⟩ := hcut
            clear p0 p1 p2 q0 q1 q2 hnq HT4 HT5 HB5
            by_cases hlt : i < ln
            · have f1 : decide ((i : Int) < (ln : Int)) = true := by simp; omega
              have f1n : decide (i < ln) = true := by simpa using hlt
              have i1 : (i : Int) < (ln : Int) := by omega
              obtain ⟨x, hx⟩ : ∃ x, L[i]? = some x := ⟨_, List.getElem?_eq_getElem (by have := HLn.out; omega)⟩
              have hgx := HG.out x (List.mem_of_getElem? hx)
              rcases HSl5.out with ⟨_, e⟩ | ⟨g, o, cap', e, hl1, hl2, hrow⟩
              · subst e; simp at hx
              obtain ⟨rfl, rfl⟩ : ao = some ⟨g, o, none⟩ ∧ cap = cap' := by injection e with e1 e2 e3; exact ⟨e1, e3⟩
              have hs := hrow.six hx
              have hsz : (strOfNums x.text).size ≤ 1000000000 := by
                rw [← bs_length, bs_strOfNums hgx.bt]
                have := hgx.lt
                omega
              have HST := Lib.hid (sym_at hs)
              clear hs hrow e hl1 hl2 HSl5
              have HM1 : Hid (∀ W, Calls Tryz.prog 12 #[.agg (symC x.kind (strOfNums x.text) x.tk (strOfNums x.tt) (strOfNums x.te) x.place), .string mk] W fun e w' => e = .returned (.bool (markB x.kind (bs (strOfNums x.text)) (bs mk))) ∧ Below W.heap.size W w') := Lib.hid fun W => lexMarkIs_any _ _ _ _ _ _ _ W
              have HM2 : Hid (∀ W, Calls Tryz.prog 13 #[.agg (symC x.kind (strOfNums x.text) x.tk (strOfNums x.tt) (strOfNums x.te) x.place), .string mk] W fun e w' => e = .returned (.bool (markB x.kind (bs (strOfNums x.text)) (bs mk))) ∧ Below W.heap.size W w') := Lib.hid fun W => refMarkIs_any _ _ _ _ _ _ _ W
              have HW1 : Hid (∀ W, Calls Tryz.prog 14 #[.agg (symC x.kind (strOfNums x.text) x.tk (strOfNums x.tt) (strOfNums x.te) x.place), .string wd] W fun e w' => e = .returned (.bool (wordB x.kind (bs (strOfNums x.text)) (bs wd))) ∧ Below W.heap.size W w') := Lib.hid fun W => lexWordIs_any _ _ hsz _ _ _ _ _ W
              have HW2 : Hid (∀ W, Calls Tryz.prog 15 #[.agg (symC x.kind (strOfNums x.text) x.tk (strOfNums x.tt) (strOfNums x.te) x.place), .string wd] W fun e w' => e = .returned (.bool (wordB x.kind (bs (strOfNums x.text)) (bs wd))) ∧ Below W.heap.size W w') := Lib.hid fun W => refWordIs_any _ _ hsz _ _ _ _ _ W
              generalize markB x.kind (bs (strOfNums x.text)) (bs mk) = b1 at *
              generalize wordB x.kind (bs (strOfNums x.text)) (bs wd) = b2 at *
              generalize (x.kind : Int) = z0 at *
              generalize (x.tk : Int) = z2 at *
              generalize (x.place : Int) = z5 at *
              generalize strOfNums x.text = z1 at *
              generalize strOfNums x.tt = z3 at *
              generalize strOfNums x.te = z4 at *
              clear hx hgx hsz HG HLn
              have HSTd := Lib.hid (sym_step HST.out ((Below.refl _ _).drew))
              obtain ⟨x0, x1, x2, x3, x4, x5, _⟩ := HST.out
              go_upto_region 13 with fail
              cases b1 <;> cases b2
              all_goals
                go_region_held3 (fun W' => W'.cell? ⟨g, o + i * 6, none⟩ = some (.int .i64 z0) ∧ W'.cell? ⟨g, o + i * 6 + 1, none⟩ = some (.string z1) ∧ W'.cell? ⟨g, o + i * 6 + 2, none⟩ = some (.int .i64 z2) ∧ W'.cell? ⟨g, o + i * 6 + 3, none⟩ = some (.string z3) ∧ W'.cell? ⟨g, o + i * 6 + 4, none⟩ = some (.string z4) ∧ W'.cell? ⟨g, o + i * 6 + 5, none⟩ = some (.int .i64 z5) ∧ Below wc.heap.size wc W') ((first | assumption | exact HST.out | exact HSTd.out | exact sym_step (by assumption) (by assumption)))
                  ((first
                  | (go_at_call 12; refine (HM1.out _).mono ?_; rintro e y6 ⟨rfl, hY6⟩)
                  | (go_at_call 13; refine (HM2.out _).mono ?_; rintro e y6 ⟨rfl, hY6⟩)
                  | (go_at_call 14; refine (HW1.out _).mono ?_; rintro e y6 ⟨rfl, hY6⟩)
                  | (go_at_call 15; refine (HW2.out _).mono ?_; rintro e y6 ⟨rfl, hY6⟩)))
              all_goals
                rename_i hHeld
                have HBn := Lib.hid (HP.out _ hHeld.2.2.2.2.2.2)
                have HKy := Lib.hid (HKn.out _ HBn.out)
                clear hHeld
                go_wp2_with (go_at_call 7; refine HKy.out.mono ?_; rintro e z ⟨rfl, hZ⟩)
                go_ret
                exact ⟨rfl, HBn.out.trans (hZ.mono HBn.out.size)⟩
            · have f1 : decide ((i : Int) < (ln : Int)) = false := by simp; omega
              have f1n : decide (i < ln) = false := by simpa using hlt
              go_upto_region 13 with fail
              go_quiet (fail)
              have HBn := Lib.hid (HP.out _ (lex_drewN _ wc nq))
              have HKy := Lib.hid (HKn.out _ HBn.out)
              go_wp2_with (go_at_call 7; refine HKy.out.mono ?_; rintro e z ⟨rfl, hZ⟩)
              go_ret
              exact ⟨rfl, HBn.out.trans (hZ.mono HBn.out.size)⟩
      · have d1 : decide ((k : Int) < (n : Int)) = true := by simp; omega
        have d1n : decide (k < n) = true := by simp; omega
        have d2 : decide ((k : Int) ≤ 20) = false := by simp; omega
        have d2n : decide (k ≤ 20) = false := by simp; omega
        have hn20 : 20 < n := by omega
        clear hk hk2
        go_upto_region 7 with (go_at_call 6; refine (HRun.out _).mono ?_; rintro e y ⟨hY, v, rfl, ho⟩)
        obtain ⟨ao, cap, rfl, _⟩ := owns_formL ho
        have HB1 := Lib.hid (HB.out.trans (hY.mono HB.out.size))
        clear hY ho HRun HB hsl HG
        generalize L.length = ln at *
        have e2 : decide ((20 : Int) < (n : Int)) = true := by simp; omega
        have e2n : decide (20 < n) = true := by simp; omega
        by_cases h1 : 9000 < s.size
        · have e1 : decide ((9000 : Int) < (s.size : Int)) = true := by simp; omega
          have e1n : decide (9000 < s.size) = true := by simp; omega
          have HKy := Lib.hid (HKn.out y HB1.out)
          go_wp2_with (go_at_call 7; refine HKy.out.mono ?_; rintro e z ⟨rfl, hZ⟩)
          go_ret
          exact ⟨rfl, HB1.out.trans (hZ.mono HB1.out.size)⟩
        · have e1 : decide ((9000 : Int) < (s.size : Int)) = false := by simp; omega
          have e1n : decide (9000 < s.size) = false := by simp; omega
          have HKy := Lib.hid (HKn.out y HB1.out)
          go_wp2_with (go_at_call 7; refine HKy.out.mono ?_; rintro e z ⟨rfl, hZ⟩)
          go_ret
          exact ⟨rfl, HB1.out.trans (hZ.mono HB1.out.size)⟩
end Go.Proofs.YtfldpfomecjdkaaGreatDoor
