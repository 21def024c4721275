/-
  WHAT THE PROOF STANDS ON, a part of it: LexRefRes, LexReadPure, LexRefRead.
-/
import Derived.Test.YtfldpfomecjdkaaGreatDoorP7
import Derived.Test.YtfldpfomecjdkaaGreatDoorR39
import Derived.Test.YtfldpfomecjdkaaGreatDoorP8
/-
  CONTRACT OF THE REFERENCE's resource: exact.
-/

namespace Go.Proofs.YtfldpfomecjdkaaGreatDoor
open Go.RowKit
open Utf Term Lex
set_option linter.unusedVariables false
set_option linter.unusedSimpArgs false

/-- Of two of one word the last one counts. -/
def lookP : List (ByteArray × ByteArray) → ByteArray → Option ByteArray
  | [], _ => none
  | q :: r, a => match lookP r a with
    | some b => some b
    | none => if q.1 = a then some q.2 else none
theorem lookP_snoc (a : ByteArray) (q : ByteArray × ByteArray) : ∀ l : List (ByteArray × ByteArray), lookP (l ++ [q]) a = if q.1 = a then some q.2 else lookP l a
  | [] => by
    show (match (none : Option ByteArray) with | some b => some b | none => if q.1 = a then some q.2 else none) = _
    by_cases h : q.1 = a <;> simp [h, lookP]
  | p :: l => by
    show (match lookP (l ++ [q]) a with | some b => some b | none => if p.1 = a then some p.2 else none) = _
    rw [lookP_snoc a q l]
    by_cases h : q.1 = a
    · rw [if_pos h, if_pos h]
    · rw [if_neg h, if_neg h]
      rfl
theorem lookP_mem (a b : ByteArray) : ∀ l : List (ByteArray × ByteArray), lookP l a = some b → ∃ q ∈ l, q.1 = a ∧ q.2 = b
  | [], h => by cases h
  | q :: l, h => by
    unfold lookP at h
    cases hl : lookP l a with
    | some c =>
      rw [hl] at h
      simp only [Option.some.injEq] at h
      subst h
      obtain ⟨p, hp, h1, h2⟩ := lookP_mem a _ l hl
      exact ⟨p, List.mem_cons_of_mem _ hp, h1, h2⟩
    | none =>
      rw [hl] at h
      simp only at h
      split at h
      · rename_i h1
        simp only [Option.some.injEq] at h
        exact ⟨q, List.mem_cons_self, h1, h⟩
      · cases h
/-- Prefixes, in a row. -/
def PreRow (W : World) (ptr : Option Addr) (ps : List (ByteArray × ByteArray)) : Prop :=
  ∀ i q, ps[i]? = some q → ∃ g o, ptr = some ⟨g, o, none⟩ ∧ W.cell? ⟨g, o + i * 2, none⟩ = some (.string q.1) ∧ W.cell? ⟨g, o + i * 2 + 1, none⟩ = some (.string q.2)
theorem PreRow.below {W W' : World} {ptr : Option Addr} {ps : List (ByteArray × ByteArray)} (h : PreRow W ptr ps) (k : Below W.heap.size W W') : PreRow W' ptr ps := fun i q e => by
  obtain ⟨g, o, h1, h2, h3⟩ := h i q e
  exact ⟨g, o, h1, cell_kept_b k h2, cell_kept_b k h3⟩
theorem PreRow.nil (W : World) (ptr : Option Addr) : PreRow W ptr [] := fun i q e => by simp at e

/-- A name's word and what is behind it. -/
theorem wordN_take (l : List Int) : wordN l = l.take (wordN l).length := by
  unfold wordN
  conv => rhs; arg 2; rw [← List.takeWhile_append_dropWhile (p := fun c => c != 58) (l := l)]
  rw [List.take_left]
theorem localN_drop (l : List Int) : localN l = l.drop ((wordN l).length + 1) := by
  unfold wordN localN
  conv => rhs; arg 2; rw [← List.takeWhile_append_dropWhile (p := fun c => c != 58) (l := l)]
  rw [← List.drop_drop, List.drop_left]
theorem wordN_at : ∀ (l : List Int) (k : Nat), (58 : Int) ∈ l → k ≤ (wordN l).length → k < l.length ∧ (l.getD k 0 = 58 ↔ k = (wordN l).length)
  | [], k, h, _ => by simp at h
  | c :: l, k, h, hk => by
    unfold wordN at hk ⊢
    rw [List.takeWhile_cons] at hk ⊢
    by_cases hc : c = 58
    · subst hc
      rw [if_neg (by decide)] at hk ⊢
      simp only [List.length_nil] at hk ⊢
      obtain rfl : k = 0 := by omega
      exact ⟨by simp, by simp⟩
    · rw [if_pos (by simpa using hc)] at hk ⊢
      rw [List.length_cons] at hk ⊢
      have hm : (58 : Int) ∈ l := by
        rcases List.mem_cons.1 h with e | e
        · exact absurd e.symm hc
        · exact e
      cases k with
      | zero => exact ⟨by simp, by rw [List.getD_cons_zero]; exact ⟨fun e => absurd e hc, fun e => by simp at e⟩⟩
      | succ k =>
        obtain ⟨h1, h2⟩ := wordN_at l k hm (by unfold wordN; omega)
        refine ⟨by omega, ?_⟩
        have e : (wordN l).length = (l.takeWhile (fun c => c != 58)).length := rfl
        rw [List.getD_cons_succ, h2, e, List.length_cons]
        omega
theorem slice_last (s : ByteArray) (a : Nat) (h : a ≤ s.size) (w : World) : (Instr.slice 9 (.string s) (some (.int .i64 (a : Int))) none none).run Tryz.prog w = .ok (.string (s.extract a s.size)) w := by
  rw [run_slice_string_l w 9 s Tryz.underlying9 .i64 (a : Int) (by omega) (by omega)]
  rw [show (a : Int).toNat = a by omega]

set_option maxRecDepth 100000 in
set_option maxHeartbeats 4000000 in
theorem refRes_iri (t0 : ByteArray) (tk : Int) (tt te : ByteArray) (p : Int) (pv : Value) (w : World) :
    Calls Tryz.prog 30 #[.agg (symC 1 t0 tk tt te p), pv] w fun e w' => e = .returned (.tuple #[.agg (termC tk tt te), .bool true]) ∧ Below w.heap.size w w' := by
  have hB : Below w.heap.size w ((w.alloc (.cells (symC 1 t0 tk tt te p) 43)).alloc (.cells zeroTermC 31)) := below_next (below_lex _ _) (below_lex _ _)
  have hX : BlockAt ((w.alloc (.cells (symC 1 t0 tk tt te p) 43)).alloc (.cells zeroTermC 31)) w.heap.size (symC 1 t0 tk tt te p) 43 := (block_new w _ _).alloc _
  have hZ : BlockAt ((w.alloc (.cells (symC 1 t0 tk tt te p) 43)).alloc (.cells zeroTermC 31)) (w.heap.size + 1) zeroTermC 31 := by
    have := block_new (w.alloc (.cells (symC 1 t0 tk tt te p) 43)) zeroTermC 31
    rwa [World.size_alloc] at this
  obtain ⟨W0, hW0⟩ : ∃ W0, W0 = ((w.alloc (.cells (symC 1 t0 tk tt te p) 43)).alloc (.cells zeroTermC 31)) := ⟨_, rfl⟩
  rw [← hW0] at hB hX hZ
  have HB := Lib.hid hB
  have HX := Lib.hid hX
  have HZ := Lib.hid hZ
  have HW0 := Lib.hid hW0
  clear hB hX hZ hW0
  have x0 := HX.out.cell (j := 0) rfl
  have x2 := HX.out.cell (j := 2) rfl
  have x3 := HX.out.cell (j := 3) rfl
  have x4 := HX.out.cell (j := 4) rfl
  have k0 := HZ.out.cell (j := 0) rfl
  have k1 := HZ.out.cell (j := 1) rfl
  have k2 := HZ.out.cell (j := 2) rfl
  have kf : ∀ j, W0.frozen? ⟨w.heap.size + 1, j, none⟩ = false := fun j => HZ.out.free j
  go_enter Tryz.func30, Tryz.ntmps30
  go_upto_region 1 with fail
  rw [← HW0.out]
  go_wp2_with fail
  refine bodyPost_ret (results_lex (p := 4) (u := 5) rfl _ _ _ (w.heap.size + 1) 31 _ (0, 0) _ rfl (HZ.out.set3 _ _ _) Tryz.underlying31 (by kernel_rfl)) rfl ⟨rfl, ((HB.out.setCell (Nat.le_succ _) _).setCell (Nat.le_succ _) _).setCell (Nat.le_succ _) _⟩

set_option maxRecDepth 100000 in
set_option maxHeartbeats 4000000 in
theorem refRes_other (k : Int) (h1 : k ≠ 1) (h7 : k ≠ 7) (t0 : ByteArray) (tk : Int) (tt te : ByteArray) (p : Int) (pv : Value) (w : World) :
    Calls Tryz.prog 30 #[.agg (symC k t0 tk tt te p), pv] w fun e w' => e = .returned (.tuple #[.agg (termC 0 ⟨#[]⟩ ⟨#[]⟩), .bool false]) ∧ Below w.heap.size w w' := by
  have hB : Below w.heap.size w ((w.alloc (.cells (symC k t0 tk tt te p) 43)).alloc (.cells zeroTermC 31)) := below_next (below_lex _ _) (below_lex _ _)
  have hX : BlockAt ((w.alloc (.cells (symC k t0 tk tt te p) 43)).alloc (.cells zeroTermC 31)) w.heap.size (symC k t0 tk tt te p) 43 := (block_new w _ _).alloc _
  have hZ : BlockAt ((w.alloc (.cells (symC k t0 tk tt te p) 43)).alloc (.cells zeroTermC 31)) (w.heap.size + 1) zeroTermC 31 := by
    have := block_new (w.alloc (.cells (symC k t0 tk tt te p) 43)) zeroTermC 31
    rwa [World.size_alloc] at this
  obtain ⟨W0, hW0⟩ : ∃ W0, W0 = ((w.alloc (.cells (symC k t0 tk tt te p) 43)).alloc (.cells zeroTermC 31)) := ⟨_, rfl⟩
  rw [← hW0] at hB hX hZ
  have HB := Lib.hid hB
  have HX := Lib.hid hX
  have HZ := Lib.hid hZ
  have HW0 := Lib.hid hW0
  have e1 : (k == 1) = false := by simpa using h1
  have e7 : (k != 7) = true := bne_iff_ne.2 h7
  clear hB hX hZ hW0 h1 h7
  have x0 := HX.out.cell (j := 0) rfl
  have k0 := HZ.out.cell (j := 0) rfl
  have k1 := HZ.out.cell (j := 1) rfl
  have k2 := HZ.out.cell (j := 2) rfl
  have kf : ∀ j, W0.frozen? ⟨w.heap.size + 1, j, none⟩ = false := fun j => HZ.out.free j
  go_enter Tryz.func30, Tryz.ntmps30
  go_upto_region 1 with fail
  rw [← HW0.out]
  go_wp2_with fail
  refine bodyPost_ret (results_lex (p := 4) (u := 5) rfl _ _ _ (w.heap.size + 1) 31 _ (0, 0) _ rfl (HZ.out.set3 _ _ _) Tryz.underlying31 (by kernel_rfl)) rfl ⟨rfl, ((HB.out.setCell (Nat.le_succ _) _).setCell (Nat.le_succ _) _).setCell (Nat.le_succ _) _⟩

set_option maxRecDepth 100000 in
set_option maxHeartbeats 8000000 in
theorem refRes_name (ps : List (ByteArray × ByteArray)) (x : Sym) (N : Nat) (hk : x.kind = 7) (hg : GoodS N x) (hN : N ≤ 9000) (hps : ∀ q ∈ ps, q.2.size ≤ 9000) (hpl : ps.length ≤ 1000) (ptr : Option Addr) (cap : Nat) (w : World) (hpr : PreRow w ptr ps) :
    Calls Tryz.prog 30 #[.agg (symC 7 (strOfNums x.text) x.tk (strOfNums x.tt) (strOfNums x.te) x.place), .slice ptr ps.length cap] w (WholeOut (namedS (lookP ps) x) w) := by
  have ht : (strOfNums x.text).size ≤ 9000 := by rw [strNums_size]; have := hg.lt; omega
  have hbs : bs (strOfNums x.text) = x.text := bs_strOfNums hg.bt
  have h58 := hg.name hk
  have hwl : (wordN x.text).length + 1 ≤ (strOfNums x.text).size := by
    have := (wordN_at x.text _ h58 (Nat.le_refl _)).1
    rw [strNums_size]; omega
  have hch : ∀ k (h : k ≤ (wordN x.text).length) (hk : k < (strOfNums x.text).size), (((strOfNums x.text)[k].toNat : Int) = 58 ↔ k = (wordN x.text).length) := fun k h hk => by
    rw [← bs_getD _ k hk, hbs]
    exact (wordN_at x.text k h58 h).2
  have hnm : namedS (lookP ps) x = match lookP ps ((strOfNums x.text).extract 0 (wordN x.text).length) with
    | none => none
    | some b => if mayS 1 (b ++ (strOfNums x.text).extract ((wordN x.text).length + 1) (strOfNums x.text).size) noneB = true then some (1, b ++ (strOfNums x.text).extract ((wordN x.text).length + 1) (strOfNums x.text).size, noneB) else none := by
    have e1 : S (wordN x.text) = (strOfNums x.text).extract 0 (wordN x.text).length := str_of (by rw [bs_first, hbs, ← wordN_take])
    have e2 : S (localN x.text) = (strOfNums x.text).extract ((wordN x.text).length + 1) (strOfNums x.text).size := str_of (by rw [bs_from, hbs, ← localN_drop])
    unfold namedS
    rw [if_neg (by omega), if_neg (by omega), if_pos hk, e1, e2]
    all_goals (cases lookP ps ((strOfNums x.text).extract 0 (wordN x.text).length) <;> rfl)
  obtain ⟨F, hF⟩ : ∃ F, F = WholeOut (namedS (lookP ps) x) w := ⟨_, rfl⟩
  have HF : Hid (F = WholeOut (namedS (lookP ps) x) w) := Lib.hid hF
  rw [← hF]
  clear hF hg h58 hbs hk
  generalize namedS (lookP ps) x = R at *
  generalize (wordN x.text).length = n0 at *
  generalize strOfNums x.text = t0 at *
  generalize strOfNums x.tt = tt at *
  generalize strOfNums x.te = te at *
  generalize (x.tk : Int) = tk at *
  generalize (x.place : Int) = p at *
  have hB : Below w.heap.size w ((w.alloc (.cells (symC 7 t0 tk tt te p) 43)).alloc (.cells zeroTermC 31)) := below_next (below_lex _ _) (below_lex _ _)
  have hX : BlockAt ((w.alloc (.cells (symC 7 t0 tk tt te p) 43)).alloc (.cells zeroTermC 31)) w.heap.size (symC 7 t0 tk tt te p) 43 := (block_new w _ _).alloc _
  have hZ : BlockAt ((w.alloc (.cells (symC 7 t0 tk tt te p) 43)).alloc (.cells zeroTermC 31)) (w.heap.size + 1) zeroTermC 31 := by
    have := block_new (w.alloc (.cells (symC 7 t0 tk tt te p) 43)) zeroTermC 31
    rwa [World.size_alloc] at this
  obtain ⟨W0, hW0⟩ : ∃ W0, W0 = ((w.alloc (.cells (symC 7 t0 tk tt te p) 43)).alloc (.cells zeroTermC 31)) := ⟨_, rfl⟩
  rw [← hW0] at hB hX hZ
  have HB := Lib.hid hB
  have HX := Lib.hid hX
  have HZ := Lib.hid hZ
  have HW0 := Lib.hid hW0
  have HPr := Lib.hid (hpr.below hB)
  have HPs := Lib.hid hps
  have HCh := Lib.hid hch
  have HNm := Lib.hid hnm
  have hsl1 := slice_first t0 n0 (by omega)
  have hsl2 : ∀ W, (Instr.slice 9 (.string t0) (some (.int .i64 ((n0 : Int) + 1))) none none).run Tryz.prog W = .ok (.string (t0.extract (n0 + 1) t0.size)) W := slice_last t0 (n0 + 1) hwl
  have hlz : (t0.extract (n0 + 1) t0.size).size ≤ 9000 := by simp; omega
  generalize t0.extract 0 n0 = a at *
  generalize t0.extract (n0 + 1) t0.size = l at *
  clear hB hX hZ hW0 hpr hps hch hnm
  obtain ⟨n, hn⟩ : ∃ n, n = ps.length := ⟨_, rfl⟩
  have HNn := Lib.hid hn
  rw [← hn] at hpl ⊢
  clear hn
  have x0 := HX.out.cell (j := 0) rfl
  have x1 := HX.out.cell (j := 1) rfl
  go_enter Tryz.func30, Tryz.ntmps30
  go_upto_region 1 with fail
  rw [← HW0.out]
  go_wp2_with fail
  go_loopg [6] n0 (fun g i wr => ∃ k : Nat, k ≤ n0 ∧ n0 - k ≤ g ∧ i = .int .i64 k ∧ W0 = wr)
  case atStart => exact ⟨0, Nat.zero_le _, by omega, rfl, rfl⟩
  case round =>
    obtain ⟨k, hk, hg, rfl, rfl⟩ := hrel
    have hks : k < t0.size := by omega
    have i0 : (0 : Int) ≤ (k : Int) := by omega
    have i1 : (k : Int) < (t0.size : Int) := by omega
    by_cases hkn : k = n0
    · have e58 : ((t0[k].toNat : Int) != 58) = false := by rw [(HCh.out k hk hks).2 hkn]; rfl
      subst hkn
      go_wp2_with fail
      clear x0 x1
      rename_i K1 K2 K3
      go_loopg [7] n (fun g i wr => ∃ (z : Int) (m : Nat), i = .int .i64 z ∧ z = (m : Int) - 1 ∧ m ≤ n ∧ m ≤ g ∧ lookP ps a = lookP (ps.take m) a ∧ Below W0.heap.size W0 wr)
      case atStart => exact ⟨(n : Int) - 1, n, by go_num, rfl, Nat.le_refl _, Nat.le_refl _, by rw [HNn.out, List.take_length], Below.refl _ _⟩
      case round =>
        obtain ⟨z, m, rfl, hz, hmn, hmg, hlk, hBr⟩ := hrel
        have HLk := Lib.hid hlk
        have HBr := Lib.hid (HB.out.trans (hBr.mono HB.out.size))
        have HX1 := Lib.hid (HX.out.kept hBr)
        have HZ1 := Lib.hid (HZ.out.kept hBr)
        have HPr1 := Lib.hid (HPr.out.below hBr)
        have HBz := Lib.hid hBr
        clear hlk hBr
        by_cases h0 : m = 0
        · have hR : R = none := by
            rw [HNm.out, HLk.out, h0, List.take_zero]
            rfl
          have HFn : Hid (∀ W, Below w.heap.size w W → F (.returned (.tuple #[termD (0, ⟨#[]⟩, ⟨#[]⟩), .bool false])) W) := Lib.hid (fun W hW => by rw [HF.out]; exact .no _ hR rfl hW)
          have dz : decide ((0 : Int) ≤ z) = false := by simp; omega
          have k0 := HZ1.out.cell (j := 0) rfl
          have k1 := HZ1.out.cell (j := 1) rfl
          have k2 := HZ1.out.cell (j := 2) rfl
          have kf : ∀ j, wr.frozen? ⟨w.heap.size + 1, j, none⟩ = false := fun j => HZ1.out.free j
          clear hR HLk hz
          go_wp2_with fail
          refine bodyPost_ret (results_lex (p := 4) (u := 5) rfl _ _ _ (w.heap.size + 1) 31 _ (0, 0) _ rfl (HZ1.out.set3 _ _ _) Tryz.underlying31 (by kernel_rfl)) rfl ?_
          exact HFn.out _ (((HBr.out.setCell (Nat.le_succ _) _).setCell (Nat.le_succ _) _).setCell (Nat.le_succ _) _)
        · obtain ⟨i, rfl⟩ : ∃ i, m = i + 1 := ⟨m - 1, by omega⟩
          obtain rfl : z = (i : Int) := by omega
          have hin : i < ps.length := by have := HNn.out; omega
          obtain ⟨q, hq⟩ : ∃ q, ps[i]? = some q := ⟨ps[i], List.getElem?_eq_getElem hin⟩
          obtain ⟨g, o, rfl, c0, c1⟩ := HPr1.out i q hq
          have hqz : q.2.size ≤ 9000 := HPs.out q (List.mem_of_getElem? hq)
          have htk : ps.take (i + 1) = ps.take i ++ [q] := by rw [List.take_add_one, hq]; rfl
          have HLs : Hid (lookP ps a = if q.1 = a then some q.2 else lookP (ps.take i) a) := Lib.hid (by rw [HLk.out, htk, lookP_snoc])
          have dz : decide ((0 : Int) ≤ (i : Int)) = true := by simp
          have i0' : (0 : Int) ≤ (i : Int) := by omega
          have i1' : (i : Int) < (n : Int) := by omega
          have x1 := HX1.out.cell (j := 1) rfl
          clear htk hz h0 hq HLk
          by_cases he : q.1 = a
          · have hs : (q.1.toList == a.toList) = true := by rw [he]; exact beq_self_eq_true _
            have hR : R = if mayS 1 (q.2 ++ l) noneB = true then some (1, q.2 ++ l, noneB) else none := by rw [HNm.out, HLs.out, if_pos he]
            have HFy : Hid (∀ W, Below w.heap.size w W → F (.returned (.tuple #[termD (1, q.2 ++ l, noneB), .bool (mayS 1 (q.2 ++ l) noneB)])) W) := Lib.hid (fun W hW => by
              rw [HF.out]
              cases hmy : mayS 1 (q.2 ++ l) noneB with
              | true => exact .yes (by rw [hR, if_pos hmy]) rfl hW
              | false => exact .no _ (by rw [hR, if_neg (by rw [hmy]; decide)]) rfl hW)
            have l1 : ¬ 9223372036854775807 < q.2.size + l.size := by omega
            have hms : (q.2 ++ l).size ≤ 40000 := by rw [ByteArray.size_append]; omega
            clear hR he HLs
            go_wp2_with fail
            go_quiet (fail)
            go_upto_region 12 with fail
            have hB2 : Below w.heap.size w (wr.drewN nq) := HBr.out.trans (lex_drewN _ wr nq)
            have hX2 : BlockAt (wr.drewN nq) w.heap.size (symC 7 t0 tk tt te p) 43 := HX1.out.drew nq
            have hZ2 : BlockAt (wr.drewN nq) (w.heap.size + 1) zeroTermC 31 := HZ1.out.drew nq
            have hc1 : (wr.drewN nq).cell? ⟨g, o + i * 2 + 1, none⟩ = some (.string q.2) := c1
            clear c0 c1 x1
            generalize wr.drewN nq = W2 at *
            have HB2 := Lib.hid hB2
            have HZ2 := Lib.hid hZ2
            have x1 := hX2.cell (j := 1) rfl
            clear hB2 hZ2 hX2 HX1 HZ1 HBr HBz HPr1
            have x1a : ∀ ob, (W2.alloc ob).cell? ⟨w.heap.size, 1, none⟩ = some (.string t0) := fun ob => cell_kept_b (below_lex W2 ob) x1
            have c1a : ∀ ob, (W2.alloc ob).cell? ⟨g, o + i * 2 + 1, none⟩ = some (.string q.2) := fun ob => cell_kept_b (below_lex W2 ob) hc1
            have w1 : IntKind.i64.wrap ((k : Int) + 1) = (k : Int) + 1 := IntWalk.i64_in _ (by omega)
            go_region_with fail
            all_goals
              have hB3 : Below w.heap.size w (W2.alloc (.cells #[.int .i64 1, .string (q.2 ++ l), .string ⟨#[]⟩] 31)).drew := (HB2.out.trans ((below_lex W2 _).mono HB2.out.size)).trans (lex_drewN _ _ 1)
              have hZ3 : BlockAt (W2.alloc (.cells #[.int .i64 1, .string (q.2 ++ l), .string ⟨#[]⟩] 31)).drew (w.heap.size + 1) zeroTermC 31 := (HZ2.out.alloc _).drew 1
              have hT3 : BlockAt (W2.alloc (.cells #[.int .i64 1, .string (q.2 ++ l), .string ⟨#[]⟩] 31)).drew W2.heap.size (termC 1 (q.2 ++ l) ⟨#[]⟩) 31 := (block_new W2 _ _).drew 1
              clear x1 hc1 x1a c1a
              generalize (W2.alloc (.cells #[.int .i64 1, .string (q.2 ++ l), .string ⟨#[]⟩] 31)).drew = W4 at *
              generalize W2.heap.size = b3 at *
              have HB4 := Lib.hid hB3
              have HZ4 := Lib.hid hZ3
              have HT4 := Lib.hid hT3
              clear hB3 hZ3 hT3 HB2 HZ2
              generalize q.2 ++ l = txt at *
              have HMy : Hid (∀ n, Calls Tryz.prog 31 #[.agg (termC 1 txt ⟨#[]⟩)] (W4.drewN n) fun e w' => e = .returned (.bool (mayS 1 txt ⟨#[]⟩)) ∧ Below W4.heap.size W4 w') := Lib.hid (fun n => (refmay_any 1 txt ⟨#[]⟩ hms (by decide) (W4.drewN n)).mono fun e w' h => ⟨h.1, (lex_drewN W4.heap.size W4 n).trans h.2⟩)
              go_upto_region 13 with fail
              have y0 := HT4.out.cell (j := 0) rfl
              have y1 := HT4.out.cell (j := 1) rfl
              have y2 := HT4.out.cell (j := 2) rfl
              go_region_with ((go_at_call 31; refine (HMy.out _).mono ?_; rintro e z ⟨rfl, hY⟩; have k0 := (HZ4.out.kept hY).cell (j := 0) rfl; have k1 := (HZ4.out.kept hY).cell (j := 1) rfl; have k2 := (HZ4.out.kept hY).cell (j := 2) rfl; have kf : ∀ j, z.frozen? ⟨w.heap.size + 1, j, none⟩ = false := fun j => (HZ4.out.kept hY).free j; have z0 := (HT4.out.kept hY).cell (j := 0) rfl; have z1 := (HT4.out.kept hY).cell (j := 1) rfl; have z2 := (HT4.out.kept hY).cell (j := 2) rfl))
              all_goals
                have HB5 := Lib.hid (HB4.out.trans (hY.mono HB4.out.size))
                have HZ5 := Lib.hid (HZ4.out.kept hY)
                clear hY
                go_wp2_with fail
                refine bodyPost_ret (results_lex (p := 4) (u := 5) rfl _ _ _ (w.heap.size + 1) 31 _ (0, 0) _ rfl (HZ5.out.set3 _ _ _) Tryz.underlying31 (by kernel_rfl)) rfl ?_
                exact HFy.out _ (((HB5.out.setCell (Nat.le_succ _) _).setCell (Nat.le_succ _) _).setCell (Nat.le_succ _) _)
          · have hs : (q.1.toList == a.toList) = false := by rw [str_beq]; exact decide_eq_false (fun e => he (bs_inj e))
            have HL2 : Hid (lookP ps a = lookP (ps.take i) a) := Lib.hid (by rw [HLs.out, if_neg he])
            clear he HLs
            go_wp2_with fail
            go_quiet (fail)
            go_wp2_with fail
            go_roundg i
            case measure => omega
            case rel => exact ⟨(i : Int) - 1, i, by go_num, rfl, by omega, Nat.le_refl _, HL2.out, HBz.out.trans (lex_drewN _ _ _)⟩
    · have e58 : ((t0[k].toNat : Int) != 58) = true := bne_iff_ne.2 (fun e => hkn ((HCh.out k hk hks).1 e))
      go_wp2_with fail
      go_roundg (n0 - (k + 1))
      case measure => omega
      case rel => exact ⟨k + 1, by omega, Nat.le_refl _, by go_num, rfl⟩
end Go.Proofs.YtfldpfomecjdkaaGreatDoor
/-
  PLAIN MATHEMATICS: which term symbols begin with, in the order in which the reference goes about it.
-/

namespace Go.Proofs.YtfldpfomecjdkaaGreatDoor
open Go.RowKit
open Utf Term Lex

theorem whole3 (P : ByteArray → Option ByteArray) (x y z : Sym) : wholeS P [x, y, z] = if x.kind = 3 ∧ y.kind = 8 ∧ y.text = typeMarkL then typedR (S x.text) (namedS P z) else none := rfl
theorem whole2 (P : ByteArray → Option ByteArray) (x y : Sym) : wholeS P [x, y] = if x.kind = 3 ∧ y.kind = 4 then okT (4, S x.text, S y.text) else none := rfl
theorem tryR_nostr {P : ByteArray → Option ByteArray} {x : Sym} {r : List Sym} (h : x.kind ≠ 3) : tryS P (x :: r) 3 = none ∧ tryS P (x :: r) 2 = none := by
  unfold tryS
  match r with
  | [] => exact ⟨by simp, by simp⟩
  | [y] => exact ⟨by simp, by simp [wholeS, h]⟩
  | y :: z :: r => exact ⟨by simp [wholeS, h], by simp [wholeS, h]⟩
theorem tryR_one {P : ByteArray → Option ByteArray} {x : Sym} {r : List Sym} : tryS P (x :: r) 1 = (wholeS P [x]).map (fun t => (t, 1)) := by
  unfold tryS
  rw [if_pos (by simp)]
  rfl
theorem read_nostr {P : ByteArray → Option ByteArray} {x : Sym} {r : List Sym} (h : x.kind ≠ 3) : readS P (x :: r) = (namedS P x).map (fun t => (t, 1)) := by
  obtain ⟨h3, h2⟩ := tryR_nostr (P := P) (r := r) h
  unfold readS
  rw [h3, h2, tryR_one]
  simp only [wholeS, if_neg h]
theorem read_nil (P : ByteArray → Option ByteArray) : readS P [] = none := by
  unfold readS tryS
  simp
theorem value_plain (a : ByteArray) : mayD (3, a, noneB) = isValueB (bs a) := by
  show mayS 3 a noneB = _
  unfold mayS
  rw [if_neg (by decide), if_neg (by decide), if_pos rfl]
  rfl
theorem value_lang (a b : ByteArray) (h : isTagS b = true) : mayD (4, a, b) = isValueB (bs a) := by
  show mayS 4 a b = _
  unfold mayS
  rw [if_neg (by decide), if_neg (by decide), if_neg (by decide), if_pos rfl, h, Bool.true_and]
theorem bs_xsdS : bs xsdS = xsd := by decide +kernel
theorem value_typed (a b : ByteArray) (h : mayS 1 b noneB = true) (hx : b ≠ xsdS) : mayD (5, a, b) = isValueB (bs a) := by
  show mayS 5 a b = _
  have hi : isIRIB (bs b) = true := by rwa [mayS_iri] at h
  unfold mayS
  rw [if_neg (by decide), if_neg (by decide), if_neg (by decide), if_neg (by decide), if_pos rfl]
  unfold isTypeB
  rw [hi, decide_eq_false (fun e => hx (bs_inj (by rw [e, bs_xsdS])))]
  simp
theorem okT_none {t : TermD} (h : mayD t = false) : okT t = none := by
  unfold okT
  rw [if_neg (by rw [h]; decide)]
theorem okT_some {t : TermD} (h : mayD t = true) : okT t = some t := by
  unfold okT
  rw [if_pos h]
theorem read_plain {P : ByteArray → Option ByteArray} {x : Sym} {r : List Sym} (h3 : x.kind = 3) (hl : ∀ y r', r = y :: r' → y.kind ≠ 4) (ht : ∀ y z r', r = y :: z :: r' → y.kind = 8 → y.text = typeMarkL → ∀ u, namedS P z = some u → u.1 ≠ 1) :
    readS P (x :: r) = (okT (3, S x.text, noneB)).map (fun t => (t, 1)) := by
  have e1 : tryS P (x :: r) 1 = (okT (3, S x.text, noneB)).map (fun t => (t, 1)) := by rw [tryR_one]; simp only [wholeS, if_pos h3]
  have e2 : tryS P (x :: r) 2 = none := by
    unfold tryS
    match r, hl with
    | [], _ => simp
    | y :: r, hl =>
      rw [if_pos (by simp)]
      have := hl y r rfl
      simp [wholeS, this]
  have e3 : tryS P (x :: r) 3 = none := by
    unfold tryS
    match r, ht with
    | [], _ => simp
    | [y], _ => simp
    | y :: z :: r, ht =>
      rw [if_pos (by simp)]
      have h := ht y z r rfl
      show (wholeS P [x, y, z]).map _ = none
      rw [whole3]
      by_cases hy : y.kind = 8 ∧ y.text = typeMarkL
      · rw [if_pos ⟨h3, hy.1, hy.2⟩]
        have h' := h hy.1 hy.2
        cases hn : namedS P z with
        | none => rfl
        | some u =>
          unfold typedR
          simp only
          rw [if_neg (h' u hn)]
          rfl
      · rw [if_neg (fun e => hy ⟨e.2.1, e.2.2⟩)]
        rfl
  unfold readS
  rw [e3, e2, e1]
theorem read_lang {P : ByteArray → Option ByteArray} {x y : Sym} {r : List Sym} (h3 : x.kind = 3) (h4 : y.kind = 4) (ht : isTagS (S y.text) = true) :
    readS P (x :: y :: r) = (okT (4, S x.text, S y.text)).map (fun t => (t, 2)) := by
  have e3 : tryS P (x :: y :: r) 3 = none := by
    unfold tryS
    match r with
    | [] => simp
    | z :: r =>
      rw [if_pos (by simp)]
      show (wholeS P [x, y, z]).map _ = none
      rw [whole3]
      rw [if_neg (by omega)]
      rfl
  have e2 : tryS P (x :: y :: r) 2 = (okT (4, S x.text, S y.text)).map (fun t => (t, 2)) := by
    unfold tryS
    rw [if_pos (by simp)]
    show (wholeS P [x, y]).map _ = _
    rw [whole2, if_pos ⟨h3, h4⟩]
  unfold readS
  rw [e3, e2]
  cases hv : isValueB (bs (S x.text)) with
  | true => rw [okT_some (by rw [value_lang _ _ ht, hv])]; rfl
  | false =>
    rw [okT_none (by rw [value_lang _ _ ht, hv]), tryR_one]
    simp only [wholeS, if_pos h3]
    rw [okT_none (by rw [value_plain, hv])]
    rfl
theorem read_type {P : ByteArray → Option ByteArray} {x y z : Sym} {r : List Sym} {u : TermD} (h3 : x.kind = 3) (h8 : y.kind = 8) (hm : y.text = typeMarkL) (hz : namedS P z = some u) (hu : u.1 = 1) (hi : mayS 1 u.2.1 noneB = true) :
    readS P (x :: y :: z :: r) = (if u.2.1 = xsdS then okT (3, S x.text, noneB) else okT (5, S x.text, u.2.1)).map (fun t => (t, 3)) := by
  have e3 : tryS P (x :: y :: z :: r) 3 = (if u.2.1 = xsdS then okT (3, S x.text, noneB) else okT (5, S x.text, u.2.1)).map (fun t => (t, 3)) := by
    unfold tryS
    rw [if_pos (by simp)]
    show (wholeS P [x, y, z]).map _ = _
    rw [whole3, if_pos ⟨h3, h8, hm⟩, hz]
    unfold typedR
    simp only
    rw [if_pos hu]
  have e2 : tryS P (x :: y :: z :: r) 2 = none := by
    unfold tryS
    rw [if_pos (by simp)]
    show (wholeS P [x, y]).map _ = none
    rw [whole2, if_neg (by omega)]
    rfl
  unfold readS
  rw [e3, e2, tryR_one]
  simp only [wholeS, if_pos h3]
  cases hv : isValueB (bs (S x.text)) with
  | true =>
    by_cases hx : u.2.1 = xsdS
    · rw [if_pos hx, okT_some (by rw [value_plain, hv])]; rfl
    · rw [if_neg hx, okT_some (by rw [value_typed _ _ hi hx, hv])]; rfl
  | false =>
    rw [okT_none (t := (3, S x.text, noneB)) (by rw [value_plain, hv])]
    by_cases hx : u.2.1 = xsdS
    · rw [if_pos hx]; rfl
    · rw [if_neg hx, okT_none (by rw [value_typed _ _ hi hx, hv])]; rfl
/-- What is named an IRI is one. -/
theorem named_may {P : ByteArray → Option ByteArray} {N : Nat} {x : Sym} (hg : GoodS N x) {u : TermD} (hu : namedS P x = some u) (h2 : x.kind ≠ 2) : u.1 = 1 ∧ mayS 1 u.2.1 noneB = true ∧ u.2.2 = noneB := by
  unfold namedS at hu
  split at hu
  · rename_i h1
    cases hu
    exact ⟨rfl, (hg.iri h1).2.2, rfl⟩
  · split at hu
    · split at hu
      · cases hu
      · split at hu
        · rename_i hm
          cases hu
          exact ⟨rfl, hm, rfl⟩
        · cases hu
    · cases hu
end Go.Proofs.YtfldpfomecjdkaaGreatDoor
/-
  CONTRACT OF THE REFERENCE's Read: exact. Written by tools/genrefread.py.
-/

namespace Go.Proofs.YtfldpfomecjdkaaGreatDoor
open Go.RowKit
open Utf Term Lex
set_option linter.unusedVariables false
set_option linter.unusedSimpArgs false

/-- What resource tells. -/
def resS (ps : List (ByteArray × ByteArray)) (x : Sym) : Option TermD := if x.kind = 2 then none else namedS (lookP ps) x
theorem refRes_any (ps : List (ByteArray × ByteArray)) (x : Sym) (N : Nat) (hg : GoodS N x) (hN : N ≤ 9000) (hps : ∀ q ∈ ps, q.2.size ≤ 9000) (hpl : ps.length ≤ 1000) (ptr : Option Addr) (cap : Nat) (w : World) (hpr : PreRow w ptr ps) :
    Calls Tryz.prog 30 #[.agg (symC x.kind (strOfNums x.text) x.tk (strOfNums x.tt) (strOfNums x.te) x.place), .slice ptr ps.length cap] w (WholeOut (resS ps x) w) := by
  by_cases h1 : x.kind = 1
  · obtain ⟨k1, k2, k3⟩ := hg.iri h1
    have hn : resS ps x = some (1, S x.tt, noneB) := by unfold resS namedS; rw [if_neg (by omega), if_pos h1]
    rw [hn, h1, k1, k2]
    exact (refRes_iri (strOfNums x.text) 1 (strOfNums x.tt) ⟨#[]⟩ x.place _ w).mono fun e w' h => .yes rfl h.1 h.2
  by_cases h7 : x.kind = 7
  · have hn : resS ps x = namedS (lookP ps) x := by unfold resS; rw [if_neg (by omega)]
    have := refRes_name ps x N h7 hg hN hps hpl ptr cap w hpr
    rw [hn, h7]
    exact this
  · have hn : resS ps x = none := by
      unfold resS namedS
      by_cases h2 : x.kind = 2
      · rw [if_pos h2]
      · rw [if_neg h2, if_neg h1, if_neg h2, if_neg h7]
    rw [hn]
    exact (refRes_other x.kind (by omega) (by omega) _ _ _ _ _ _ w).mono fun e w' h => .no (0, ⟨#[]⟩, ⟨#[]⟩) rfl h.1 h.2

/-- What the reference's Read answers. -/
def ReadR (r : Option (TermD × Nat)) (w : World) (e : Ending) (w' : World) : Prop :=
  (match r with
  | some (t, n) => e = .returned (.tuple #[termD t, .int .i64 n])
  | none => e = .returned (.tuple #[termD (0, ⟨#[]⟩, ⟨#[]⟩), .int .i64 0])) ∧ Below w.heap.size w w'
theorem ReadR.yes {r : Option (TermD × Nat)} {t : TermD} {n : Nat} (h : r = some (t, n)) {w W : World} (hB : Below w.heap.size w W) : ReadR r w (.returned (.tuple #[termD t, .int .i64 n])) W := by
  subst h; exact ⟨rfl, hB⟩
theorem ReadR.no {r : Option (TermD × Nat)} (h : r = none) {w W : World} (hB : Below w.heap.size w W) : ReadR r w (.returned (.tuple #[termD (0, ⟨#[]⟩, ⟨#[]⟩), .int .i64 0])) W := by
  subst h; exact ⟨rfl, hB⟩

set_option maxRecDepth 100000 in
set_option maxHeartbeats 2000000 in
theorem refRead_none (p : Option Addr) (cap : Nat) (pv : Value) (w : World) :
    Calls Tryz.prog 10 #[.slice p 0 cap, pv] w (ReadR none w) := by
  have hB : Below w.heap.size w (w.alloc (.cells zeroTermC 31)) := below_lex _ _
  have hZ : BlockAt (w.alloc (.cells zeroTermC 31)) w.heap.size zeroTermC 31 := block_new _ _ _
  obtain ⟨W0, hW0⟩ : ∃ W0, W0 = w.alloc (.cells zeroTermC 31) := ⟨_, rfl⟩
  rw [← hW0] at hB hZ
  have HB := Lib.hid hB
  have HZ := Lib.hid hZ
  have HW0 := Lib.hid hW0
  clear hB hZ hW0
  have k0 := HZ.out.cell (j := 0) rfl
  have k1 := HZ.out.cell (j := 1) rfl
  have k2 := HZ.out.cell (j := 2) rfl
  have kf : ∀ j, W0.frozen? ⟨w.heap.size, j, none⟩ = false := fun j => HZ.out.free j
  go_enter Tryz.func10, Tryz.ntmps10
  go_upto_region 1 with fail
  rw [← HW0.out]
  go_wp2_with fail
  refine bodyPost_ret (results_lex (p := 4) (u := 5) rfl _ _ _ w.heap.size 31 _ (0, 0) _ rfl (HZ.out.set3 _ _ _) Tryz.underlying31 (by kernel_rfl)) rfl ?_
  exact ⟨rfl, ((HB.out.setCell (Nat.le_refl _) _).setCell (Nat.le_refl _) _).setCell (Nat.le_refl _) _⟩

set_option maxRecDepth 100000 in
set_option maxHeartbeats 8000000 in
theorem refRead_1 (ps : List (ByteArray × ByteArray)) (N : Nat) (hN : N ≤ 9000) (hps : ∀ q ∈ ps, q.2.size ≤ 9000) (hpl : ps.length ≤ 1000) (ptr : Option Addr) (pcap : Nat) (g o cap : Nat) (x0 : Sym) (L : List Sym) (hcap : L.length + 1 ≤ cap) (hcm : cap ≤ maxLen) (hg : ∀ x ∈ x0 :: L, GoodS N x) (h3 : x0.kind ≠ 3)
    (w : World) (hr : RowS w g o (x0 :: L)) (hpr : PreRow w ptr ps) :
    Calls Tryz.prog 10 #[.slice (some ⟨g, o, none⟩) (L.length + 1 : Nat) cap, .slice ptr ps.length pcap] w (ReadR (readS (lookP ps) (x0 :: L)) w) := by
  have hB : Below w.heap.size w (w.alloc (.cells zeroTermC 31)) := below_lex _ _
  have hZ : BlockAt (w.alloc (.cells zeroTermC 31)) w.heap.size zeroTermC 31 := block_new _ _ _
  obtain ⟨W0, hW0⟩ : ∃ W0, W0 = w.alloc (.cells zeroTermC 31) := ⟨_, rfl⟩
  rw [← hW0] at hB hZ
  have hr0 := hr.below hB
  have hp0 := hpr.below hB
  obtain ⟨F, hF⟩ : ∃ F, F = ReadR (readS (lookP ps) (x0 :: L)) w := ⟨_, rfl⟩
  have HF := Lib.hid hF
  have HB := Lib.hid hB
  have HZ := Lib.hid hZ
  have HW0 := Lib.hid hW0
  have HR := Lib.hid hr0
  have HP := Lib.hid hp0
  have HG := Lib.hid hg
  rw [← hF]
  have hs0 := hr0.six (i := 0) (x := x0) rfl
  rw [Nat.zero_mul, Nat.add_zero] at hs0
  clear hB hZ hW0 hr0 hp0 hF hr hpr hg
  have s00 : W0.cell? ⟨g, o, none⟩ = some (.int .i64 x0.kind) := hs0 0 (by omega)
  have s01 : W0.cell? ⟨g, o + 1, none⟩ = some (.string (strOfNums x0.text)) := hs0 1 (by omega)
  have s02 : W0.cell? ⟨g, o + 2, none⟩ = some (.int .i64 x0.tk) := hs0 2 (by omega)
  have s03 : W0.cell? ⟨g, o + 3, none⟩ = some (.string (strOfNums x0.tt)) := hs0 3 (by omega)
  have s04 : W0.cell? ⟨g, o + 4, none⟩ = some (.string (strOfNums x0.te)) := hs0 4 (by omega)
  have s05 : W0.cell? ⟨g, o + 5, none⟩ = some (.int .i64 x0.place) := hs0 5 (by omega)
  clear hs0
  have dl : ((((L.length + 1 : Nat) : Int)) == 0) = false := by rw [beq_eq_false_iff_ne]; omega
  have hl0 : (0 : Int) < ((L.length + 1 : Nat) : Int) := by omega
  have hrd := read_nostr (P := lookP ps) (r := L) h3
  have e3 : ((x0.kind : Int) != 3) = true := bne_iff_ne.2 (by omega)
  have HGx := Lib.hid (HG.out x0 (by simp))
  have HRs := Lib.hid (fun W (h : Below W0.heap.size W0 W) => refRes_any ps x0 N HGx.out hN hps hpl ptr pcap W (HP.out.below h))
  by_cases h2 : x0.kind = 2
  · have e2 : ((x0.kind : Int) == 2) = true := by rw [beq_iff_eq]; omega
    obtain ⟨k1, k2, k3⟩ := HGx.out.blank h2
    have hn : namedS (lookP ps) x0 = some (2, S x0.tt, noneB) := by unfold namedS; rw [if_neg (by omega), if_pos h2]
    have HY : Hid (∀ W, Below w.heap.size w W → F (.returned (.tuple #[.agg (termC x0.tk (strOfNums x0.tt) (strOfNums x0.te)), .int .i64 1])) W) := Lib.hid (fun W hW => by
      rw [HF.out, k1, k2]
      exact ReadR.yes (t := (2, S x0.tt, noneB)) (n := 1) (by rw [hrd, hn]; rfl) hW)
    clear hrd h3 h2 k1 k2 k3 hn e3
    generalize (x0.kind : Int) = kk at *
    generalize (x0.tk : Int) = tk at *
    generalize strOfNums x0.tt = tt at *
    generalize strOfNums x0.te = te at *
    generalize (L.length + 1 : Nat) = n at *
    have k0 := HZ.out.cell (j := 0) rfl
    have k1 := HZ.out.cell (j := 1) rfl
    have k2 := HZ.out.cell (j := 2) rfl
    have kf : ∀ j, W0.frozen? ⟨w.heap.size, j, none⟩ = false := fun j => HZ.out.free j
    go_enter Tryz.func10, Tryz.ntmps10
    go_upto_region 1 with fail
    rw [← HW0.out]
    go_wp2_with fail
    refine bodyPost_ret (results_lex (p := 4) (u := 5) rfl _ _ _ w.heap.size 31 _ (0, 0) _ rfl (HZ.out.set3 _ _ _) Tryz.underlying31 (by kernel_rfl)) rfl ?_
    exact HY.out _ (((HB.out.setCell (Nat.le_refl _) _).setCell (Nat.le_refl _) _).setCell (Nat.le_refl _) _)
  · have e2 : ((x0.kind : Int) == 2) = false := by rw [beq_eq_false_iff_ne]; omega
    have hre : resS ps x0 = namedS (lookP ps) x0 := by unfold resS; rw [if_neg h2]
    rw [hre] at HRs
    have HY : Hid (∀ u, namedS (lookP ps) x0 = some u → ∀ W, Below w.heap.size w W → F (.returned (.tuple #[termD u, .int .i64 1])) W) := Lib.hid (fun u hu W hW => by
      rw [HF.out]
      exact ReadR.yes (n := 1) (by rw [hrd, hu]; rfl) hW)
    have HNo : Hid (namedS (lookP ps) x0 = none → ∀ W, Below w.heap.size w W → F (.returned (.tuple #[termD (0, ⟨#[]⟩, ⟨#[]⟩), .int .i64 0])) W) := Lib.hid (fun hu W hW => by
      rw [HF.out]
      exact ReadR.no (by rw [hrd, hu]; rfl) hW)
    clear hrd h3 h2 hre
    generalize namedS (lookP ps) x0 = R at *
    generalize (x0.kind : Int) = kk at *
    generalize (x0.tk : Int) = tk at *
    generalize (x0.place : Int) = tp at *
    generalize strOfNums x0.text = tx at *
    generalize strOfNums x0.tt = tt at *
    generalize strOfNums x0.te = te at *
    generalize (L.length + 1 : Nat) = n at *
    go_enter Tryz.func10, Tryz.ntmps10
    go_upto_region 1 with fail
    rw [← HW0.out]
    have HRs0 := Lib.hid (HRs.out W0 (Below.refl _ _))
    go_upto_region 7 with (go_at_call 30; refine HRs0.out.mono ?_; rintro e y ⟨t, b, rfl, hY, hyes, hno⟩)
    have HB1 := Lib.hid (below_next (HB.out.trans (hY.mono HB.out.size)) (below_lex y (.cells #[.int .i64 t.1, .string t.2.1, .string t.2.2] 31)))
    have HZ1 := Lib.hid ((HZ.out.kept hY).alloc (.cells #[.int .i64 t.1, .string t.2.1, .string t.2.2] 31))
    have HX1 := Lib.hid (block_new y #[.int .i64 t.1, .string t.2.1, .string t.2.2] 31)
    have HYes := Lib.hid hyes
    have HNone := Lib.hid hno
    clear hY hyes hno HRs0 HRs
    generalize y.alloc (.cells #[.int .i64 t.1, .string t.2.1, .string t.2.2] 31) = W1 at *
    have x0' := HX1.out.cell (j := 0) rfl
    have x1' := HX1.out.cell (j := 1) rfl
    have x2' := HX1.out.cell (j := 2) rfl
    have k0 := HZ1.out.cell (j := 0) rfl
    have k1 := HZ1.out.cell (j := 1) rfl
    have k2 := HZ1.out.cell (j := 2) rfl
    have kf : ∀ j, W1.frozen? ⟨w.heap.size, j, none⟩ = false := fun j => HZ1.out.free j
    cases b with
    | true =>
      have HO : Hid (∀ W, Below w.heap.size w W → F (.returned (.tuple #[termD t, .int .i64 1])) W) := Lib.hid (by
        cases hR : R with
        | none => have := HNone.out hR; cases this
        | some u => rw [(HYes.out u hR).2]; exact HY.out u hR)
      go_wp2_with fail
      refine bodyPost_ret (results_lex (p := 4) (u := 5) rfl _ _ _ w.heap.size 31 _ (0, 0) _ rfl (HZ1.out.set3 _ _ _) Tryz.underlying31 (by kernel_rfl)) rfl ?_
      exact HO.out _ (((HB1.out.setCell (Nat.le_refl _) _).setCell (Nat.le_refl _) _).setCell (Nat.le_refl _) _)
    | false =>
      have HO : Hid (∀ W, Below w.heap.size w W → F (.returned (.tuple #[termD (0, ⟨#[]⟩, ⟨#[]⟩), .int .i64 0])) W) := Lib.hid (by
        cases hR : R with
        | none => exact HNo.out hR
        | some u => have := (HYes.out u hR).1; cases this)
      go_wp2_with fail
      refine bodyPost_ret (results_lex (p := 4) (u := 5) rfl _ _ _ w.heap.size 31 _ (0, 0) _ rfl (HZ1.out.set3 _ _ _) Tryz.underlying31 (by kernel_rfl)) rfl ?_
      exact HO.out _ (((HB1.out.setCell (Nat.le_refl _) _).setCell (Nat.le_refl _) _).setCell (Nat.le_refl _) _)

theorem read_facts {r : Option (TermD × Nat)} {a : TermD} {n : Nat} (h : r = (okT a).map (fun t => (t, n))) (w : World) :
    (mayS a.1 a.2.1 a.2.2 = true → ∀ W, Below w.heap.size w W → ReadR r w (.returned (.tuple #[termD a, .int .i64 n])) W) ∧
    (mayS a.1 a.2.1 a.2.2 = false → ∀ W, Below w.heap.size w W → ReadR r w (.returned (.tuple #[termD (0, ⟨#[]⟩, ⟨#[]⟩), .int .i64 0])) W) := by
  refine ⟨fun hm W hW => ReadR.yes (by rw [h, okT_some hm]; rfl) hW, fun hm W hW => ReadR.no (by rw [h, okT_none hm]; rfl) hW⟩

set_option maxRecDepth 100000 in
set_option maxHeartbeats 16000000 in
theorem refRead_s0 (ps : List (ByteArray × ByteArray)) (N : Nat) (hN : N ≤ 9000) (hps : ∀ q ∈ ps, q.2.size ≤ 9000) (hpl : ps.length ≤ 1000) (ptr : Option Addr) (pcap : Nat) (g o cap : Nat) (x0 : Sym) (hcap : 1 ≤ cap) (hcm : cap ≤ maxLen) (hg : ∀ x ∈ [x0], GoodS N x) (h3 : x0.kind = 3)
    (w : World) (hr : RowS w g o ([x0])) (hpr : PreRow w ptr ps) :
    Calls Tryz.prog 10 #[.slice (some ⟨g, o, none⟩) 1 cap, .slice ptr ps.length pcap] w (ReadR (readS (lookP ps) ([x0])) w) := by
  have hT : (S x0.text).size ≤ 40000 := by show (strOfNums _).size ≤ _; rw [strNums_size]; have := (hg x0 (by simp)).lt; omega
  have hB : Below w.heap.size w ((w.alloc (.cells zeroTermC 31)).alloc (.cells (termC 3 (S x0.text) ⟨#[]⟩) 31)) := below_next (below_lex _ _) (below_lex _ _)
  have hZ : BlockAt ((w.alloc (.cells zeroTermC 31)).alloc (.cells (termC 3 (S x0.text) ⟨#[]⟩) 31)) w.heap.size zeroTermC 31 := (block_new _ _ _).alloc _
  have hT1 : BlockAt ((w.alloc (.cells zeroTermC 31)).alloc (.cells (termC 3 (S x0.text) ⟨#[]⟩) 31)) (w.heap.size + 1) (termC 3 (S x0.text) ⟨#[]⟩) 31 := by
    have := block_new (w.alloc (.cells zeroTermC 31)) (termC 3 (S x0.text) ⟨#[]⟩) 31
    rwa [World.size_alloc] at this
  have hB0 : Below w.heap.size w (w.alloc (.cells zeroTermC 31)) := below_lex _ _
  have hs0 := (hr.below hB0).six (i := 0) (x := x0) rfl
  rw [Nat.zero_mul, Nat.add_zero] at hs0
  have c00 : (w.alloc (.cells zeroTermC 31)).cell? ⟨g, o, none⟩ = some (.int .i64 3) := by have := hs0 0 (by omega); rw [h3] at this; exact this
  have c01 : (w.alloc (.cells zeroTermC 31)).cell? ⟨g, o + 1, none⟩ = some (.string (S x0.text)) := hs0 1 (by omega)
  obtain ⟨W1, hW1⟩ : ∃ W1, W1 = ((w.alloc (.cells zeroTermC 31)).alloc (.cells (termC 3 (S x0.text) ⟨#[]⟩) 31)) := ⟨_, rfl⟩
  rw [← hW1] at hB hZ hT1
  have hr1 := hr.below hB
  have HP := Lib.hid (hpr.below hB)
  obtain ⟨F, hF⟩ : ∃ F, F = ReadR (readS (lookP ps) ([x0])) w := ⟨_, rfl⟩
  have HF := Lib.hid hF
  have HB := Lib.hid hB
  have HZ := Lib.hid hZ
  have HT := Lib.hid hT1
  have HW1 := Lib.hid hW1
  have HG := Lib.hid hg
  rw [← hF]
  have gne : g ≠ w.heap.size + 1 := fun hh => by
    have := hr.six (i := 0) (x := x0) rfl 0 (by omega); rw [hh] at this; simp [World.cell?] at this
  have HFa : Hid ((mayS 3 (S x0.text) noneB = true → ∀ W, Below w.heap.size w W → F (.returned (.tuple #[termD (3, S x0.text, noneB), .int .i64 1])) W) ∧ (mayS 3 (S x0.text) noneB = false → ∀ W, Below w.heap.size w W → F (.returned (.tuple #[termD (0, ⟨#[]⟩, ⟨#[]⟩), .int .i64 0])) W)) := Lib.hid (by
    rw [HF.out]
    exact read_facts (n := 1) (read_plain h3 (fun y r' e => by cases e) (fun y z r' e => by cases e)) w)
  clear hB hZ hT1 hB0 hs0 hW1 hr1 hF hr hpr hg
  clear h3
  generalize S x0.text = T at *
  go_enter Tryz.func10, Tryz.ntmps10
  go_upto_region 11 with fail
  rw [← HW1.out]
  clear c00 c01
  go_upto_region 20 with fail
  have x0 := HT.out.cell (j := 0) rfl
  have x1 := HT.out.cell (j := 1) rfl
  have x2 := HT.out.cell (j := 2) rfl
  have HMy := Lib.hid (refmay_any 3 T ⟨#[]⟩ hT (by decide) W1)
  cases hv : mayS 3 T ⟨#[]⟩ with
  | true =>
    have HO := Lib.hid (HFa.out.1 hv)
    rw [hv] at HMy
    clear hv
    go_upto_region 22 with (go_at_call 31; refine HMy.out.mono ?_; rintro e y2 ⟨rfl, hY⟩)
    have HB9 := Lib.hid (HB.out.trans (hY.mono HB.out.size))
    have HZ9 := Lib.hid (HZ.out.kept hY)
    have HT9 := Lib.hid (HT.out.kept hY)
    clear hY 
    have x0 := HT9.out.cell (j := 0) rfl
    have x1 := HT9.out.cell (j := 1) rfl
    have x2 := HT9.out.cell (j := 2) rfl
    have k0 := HZ9.out.cell (j := 0) rfl
    have k1 := HZ9.out.cell (j := 1) rfl
    have k2 := HZ9.out.cell (j := 2) rfl
    have kf : ∀ j, y2.frozen? ⟨w.heap.size, j, none⟩ = false := fun j => HZ9.out.free j
    go_wp2_with fail
    refine bodyPost_ret (results_lex (p := 4) (u := 5) rfl _ _ _ w.heap.size 31 _ (0, 0) _ rfl (HZ9.out.set3 _ _ _) Tryz.underlying31 (by kernel_rfl)) rfl ?_
    exact HO.out _ (((HB9.out.setCell (Nat.le_refl _) _).setCell (Nat.le_refl _) _).setCell (Nat.le_refl _) _)
  | false =>
    have HO := Lib.hid (HFa.out.2 hv)
    rw [hv] at HMy
    clear hv
    go_upto_region 21 with (go_at_call 31; refine HMy.out.mono ?_; rintro e y2 ⟨rfl, hY⟩)
    have HB9 := Lib.hid (HB.out.trans (hY.mono HB.out.size))
    have HZ9 := Lib.hid (HZ.out.kept hY)
    have HT9 := Lib.hid (HT.out.kept hY)
    clear hY 
    have x0 := HT9.out.cell (j := 0) rfl
    have x1 := HT9.out.cell (j := 1) rfl
    have x2 := HT9.out.cell (j := 2) rfl
    have k0 := HZ9.out.cell (j := 0) rfl
    have k1 := HZ9.out.cell (j := 1) rfl
    have k2 := HZ9.out.cell (j := 2) rfl
    have kf : ∀ j, y2.frozen? ⟨w.heap.size, j, none⟩ = false := fun j => HZ9.out.free j
    go_wp2_with fail
    refine bodyPost_ret (results_lex (p := 4) (u := 5) rfl _ _ _ w.heap.size 31 _ (0, 0) _ rfl (HZ9.out.set3 _ _ _) Tryz.underlying31 (by kernel_rfl)) rfl ?_
    exact HO.out _ (((HB9.out.setCell (Nat.le_refl _) _).setCell (Nat.le_refl _) _).setCell (Nat.le_refl _) _)

set_option maxRecDepth 100000 in
set_option maxHeartbeats 16000000 in
theorem refRead_s1 (ps : List (ByteArray × ByteArray)) (N : Nat) (hN : N ≤ 9000) (hps : ∀ q ∈ ps, q.2.size ≤ 9000) (hpl : ps.length ≤ 1000) (ptr : Option Addr) (pcap : Nat) (g o cap : Nat) (x0 x1 : Sym) (hcap : 2 ≤ cap) (hcm : cap ≤ maxLen) (hg : ∀ x ∈ [x0, x1], GoodS N x) (h3 : x0.kind = 3)
    (w : World) (hr : RowS w g o ([x0, x1])) (hpr : PreRow w ptr ps) :
    Calls Tryz.prog 10 #[.slice (some ⟨g, o, none⟩) 2 cap, .slice ptr ps.length pcap] w (ReadR (readS (lookP ps) ([x0, x1])) w) := by
  have hT : (S x0.text).size ≤ 40000 := by show (strOfNums _).size ≤ _; rw [strNums_size]; have := (hg x0 (by simp)).lt; omega
  have hB : Below w.heap.size w ((w.alloc (.cells zeroTermC 31)).alloc (.cells (termC 3 (S x0.text) ⟨#[]⟩) 31)) := below_next (below_lex _ _) (below_lex _ _)
  have hZ : BlockAt ((w.alloc (.cells zeroTermC 31)).alloc (.cells (termC 3 (S x0.text) ⟨#[]⟩) 31)) w.heap.size zeroTermC 31 := (block_new _ _ _).alloc _
  have hT1 : BlockAt ((w.alloc (.cells zeroTermC 31)).alloc (.cells (termC 3 (S x0.text) ⟨#[]⟩) 31)) (w.heap.size + 1) (termC 3 (S x0.text) ⟨#[]⟩) 31 := by
    have := block_new (w.alloc (.cells zeroTermC 31)) (termC 3 (S x0.text) ⟨#[]⟩) 31
    rwa [World.size_alloc] at this
  have hB0 : Below w.heap.size w (w.alloc (.cells zeroTermC 31)) := below_lex _ _
  have hs0 := (hr.below hB0).six (i := 0) (x := x0) rfl
  rw [Nat.zero_mul, Nat.add_zero] at hs0
  have c00 : (w.alloc (.cells zeroTermC 31)).cell? ⟨g, o, none⟩ = some (.int .i64 3) := by have := hs0 0 (by omega); rw [h3] at this; exact this
  have c01 : (w.alloc (.cells zeroTermC 31)).cell? ⟨g, o + 1, none⟩ = some (.string (S x0.text)) := hs0 1 (by omega)
  obtain ⟨W1, hW1⟩ : ∃ W1, W1 = ((w.alloc (.cells zeroTermC 31)).alloc (.cells (termC 3 (S x0.text) ⟨#[]⟩) 31)) := ⟨_, rfl⟩
  rw [← hW1] at hB hZ hT1
  have hr1 := hr.below hB
  have HP := Lib.hid (hpr.below hB)
  obtain ⟨F, hF⟩ : ∃ F, F = ReadR (readS (lookP ps) ([x0, x1])) w := ⟨_, rfl⟩
  have HF := Lib.hid hF
  have HB := Lib.hid hB
  have HZ := Lib.hid hZ
  have HT := Lib.hid hT1
  have HW1 := Lib.hid hW1
  have HG := Lib.hid hg
  rw [← hF]
  have gne : g ≠ w.heap.size + 1 := fun hh => by
    have := hr.six (i := 0) (x := x0) rfl 0 (by omega); rw [hh] at this; simp [World.cell?] at this
  have hs1 := hr1.six (i := 1) (x := x1) rfl
  rw [Nat.one_mul] at hs1
  have c10 : W1.cell? ⟨g, o + 6, none⟩ = some (.int .i64 x1.kind) := hs1 0 (by omega)
  have c11 : W1.cell? ⟨g, o + 6 + 1, none⟩ = some (.string (S x1.text)) := hs1 1 (by omega)
  have hX : (S x1.text).size ≤ 40000 := by show (strOfNums _).size ≤ _; rw [strNums_size]; have := (hg x1 (by simp)).lt; omega
  by_cases h4 : x1.kind = 4
  · have e4 : ((x1.kind : Int) == 4) = true := by rw [beq_iff_eq]; omega
    have HFa : Hid ((mayS 4 (S x0.text) (S x1.text) = true → ∀ W, Below w.heap.size w W → F (.returned (.tuple #[termD (4, S x0.text, S x1.text), .int .i64 2])) W) ∧ (mayS 4 (S x0.text) (S x1.text) = false → ∀ W, Below w.heap.size w W → F (.returned (.tuple #[termD (0, ⟨#[]⟩, ⟨#[]⟩), .int .i64 0])) W)) := Lib.hid (by
      rw [HF.out]
      exact read_facts (n := 2) (read_lang h3 h4 ((HG.out x1 (by simp)).lang h4)) w)
    clear hB hZ hT1 hB0 hs0 hW1 hr1 hF hr hpr hg hs1
    clear h3 h4
    generalize (x1.kind : Int) = kk at *
    generalize S x0.text = T at *
    generalize S x1.text = X at *
    go_enter Tryz.func10, Tryz.ntmps10
    go_upto_region 11 with fail
    rw [← HW1.out]
    clear c00 c01
    go_upto_region 13 with fail
    have x0 := HT.out.cell (j := 0) rfl
    have x1 := HT.out.cell (j := 1) rfl
    have x2 := HT.out.cell (j := 2) rfl
    have xf : ∀ j, W1.frozen? ⟨w.heap.size + 1, j, none⟩ = false := fun j => HT.out.free j
    go_region_with fail
    all_goals
      have hB1 : Below w.heap.size w ((W1.setCell ⟨w.heap.size + 1, 0, none⟩ (.int .i64 4)).setCell ⟨w.heap.size + 1, 2, none⟩ (.string X)).drew := ((HB.out.setCell (Nat.le_succ _) _).setCell (Nat.le_succ _) _).trans (lex_drewN _ _ 1)
      have hZ1 : BlockAt ((W1.setCell ⟨w.heap.size + 1, 0, none⟩ (.int .i64 4)).setCell ⟨w.heap.size + 1, 2, none⟩ (.string X)).drew w.heap.size zeroTermC 31 := ((HZ.out.other (by omega) _ _).other (by omega) _ _).drew 1
      have hT1 : BlockAt ((W1.setCell ⟨w.heap.size + 1, 0, none⟩ (.int .i64 4)).setCell ⟨w.heap.size + 1, 2, none⟩ (.string X)).drew (w.heap.size + 1) (termC 4 T X) 31 := ((HT.out.set 0 _).set 2 _).drew 1
      clear x0 x1 x2 xf c10 c11 HB HZ HT
      generalize ((W1.setCell ⟨w.heap.size + 1, 0, none⟩ (.int .i64 4)).setCell ⟨w.heap.size + 1, 2, none⟩ (.string X)).drew = W2 at *
      have HB2 := Lib.hid hB1
      have HZ2 := Lib.hid hZ1
      have HT2 := Lib.hid hT1
      clear hB1 hZ1 hT1
      go_upto_region 20 with fail
      have x0 := HT2.out.cell (j := 0) rfl
      have x1 := HT2.out.cell (j := 1) rfl
      have x2 := HT2.out.cell (j := 2) rfl
      have HMy := Lib.hid (refmay_any 4 T X hT hX W2)
      cases hv : mayS 4 T X with
      | true =>
        have HO := Lib.hid (HFa.out.1 hv)
        rw [hv] at HMy
        clear hv
        go_upto_region 22 with (go_at_call 31; refine HMy.out.mono ?_; rintro e y2 ⟨rfl, hY⟩)
        have HB9 := Lib.hid (HB2.out.trans (hY.mono HB2.out.size))
        have HZ9 := Lib.hid (HZ2.out.kept hY)
        have HT9 := Lib.hid (HT2.out.kept hY)
        clear hY 
        have x0 := HT9.out.cell (j := 0) rfl
        have x1 := HT9.out.cell (j := 1) rfl
        have x2 := HT9.out.cell (j := 2) rfl
        have k0 := HZ9.out.cell (j := 0) rfl
        have k1 := HZ9.out.cell (j := 1) rfl
        have k2 := HZ9.out.cell (j := 2) rfl
        have kf : ∀ j, y2.frozen? ⟨w.heap.size, j, none⟩ = false := fun j => HZ9.out.free j
        go_wp2_with fail
        refine bodyPost_ret (results_lex (p := 4) (u := 5) rfl _ _ _ w.heap.size 31 _ (0, 0) _ rfl (HZ9.out.set3 _ _ _) Tryz.underlying31 (by kernel_rfl)) rfl ?_
        exact HO.out _ (((HB9.out.setCell (Nat.le_refl _) _).setCell (Nat.le_refl _) _).setCell (Nat.le_refl _) _)
      | false =>
        have HO := Lib.hid (HFa.out.2 hv)
        rw [hv] at HMy
        clear hv
        go_upto_region 21 with (go_at_call 31; refine HMy.out.mono ?_; rintro e y2 ⟨rfl, hY⟩)
        have HB9 := Lib.hid (HB2.out.trans (hY.mono HB2.out.size))
        have HZ9 := Lib.hid (HZ2.out.kept hY)
        have HT9 := Lib.hid (HT2.out.kept hY)
        clear hY 
        have x0 := HT9.out.cell (j := 0) rfl
        have x1 := HT9.out.cell (j := 1) rfl
        have x2 := HT9.out.cell (j := 2) rfl
        have k0 := HZ9.out.cell (j := 0) rfl
        have k1 := HZ9.out.cell (j := 1) rfl
        have k2 := HZ9.out.cell (j := 2) rfl
        have kf : ∀ j, y2.frozen? ⟨w.heap.size, j, none⟩ = false := fun j => HZ9.out.free j
        go_wp2_with fail
        refine bodyPost_ret (results_lex (p := 4) (u := 5) rfl _ _ _ w.heap.size 31 _ (0, 0) _ rfl (HZ9.out.set3 _ _ _) Tryz.underlying31 (by kernel_rfl)) rfl ?_
        exact HO.out _ (((HB9.out.setCell (Nat.le_refl _) _).setCell (Nat.le_refl _) _).setCell (Nat.le_refl _) _)
  · have e4 : ((x1.kind : Int) == 4) = false := by rw [beq_eq_false_iff_ne]; omega
    have HFa : Hid ((mayS 3 (S x0.text) noneB = true → ∀ W, Below w.heap.size w W → F (.returned (.tuple #[termD (3, S x0.text, noneB), .int .i64 1])) W) ∧ (mayS 3 (S x0.text) noneB = false → ∀ W, Below w.heap.size w W → F (.returned (.tuple #[termD (0, ⟨#[]⟩, ⟨#[]⟩), .int .i64 0])) W)) := Lib.hid (by
      rw [HF.out]
      exact read_facts (n := 1) (read_plain h3 (fun y r' e => by cases e; exact h4) (fun y z r' e => by cases e)) w)
    clear hB hZ hT1 hB0 hs0 hW1 hr1 hF hr hpr hg hs1
    clear h3 h4
    generalize (x1.kind : Int) = kk at *
    generalize S x0.text = T at *
    generalize S x1.text = X at *
    go_enter Tryz.func10, Tryz.ntmps10
    go_upto_region 11 with fail
    rw [← HW1.out]
    clear c00 c01
    go_upto_region 20 with fail
    clear c10 c11
    have x0 := HT.out.cell (j := 0) rfl
    have x1 := HT.out.cell (j := 1) rfl
    have x2 := HT.out.cell (j := 2) rfl
    have HMy := Lib.hid (refmay_any 3 T ⟨#[]⟩ hT (by decide) W1)
    cases hv : mayS 3 T ⟨#[]⟩ with
    | true =>
      have HO := Lib.hid (HFa.out.1 hv)
      rw [hv] at HMy
      clear hv
      go_upto_region 22 with (go_at_call 31; refine HMy.out.mono ?_; rintro e y2 ⟨rfl, hY⟩)
      have HB9 := Lib.hid (HB.out.trans (hY.mono HB.out.size))
      have HZ9 := Lib.hid (HZ.out.kept hY)
      have HT9 := Lib.hid (HT.out.kept hY)
      clear hY 
      have x0 := HT9.out.cell (j := 0) rfl
      have x1 := HT9.out.cell (j := 1) rfl
      have x2 := HT9.out.cell (j := 2) rfl
      have k0 := HZ9.out.cell (j := 0) rfl
      have k1 := HZ9.out.cell (j := 1) rfl
      have k2 := HZ9.out.cell (j := 2) rfl
      have kf : ∀ j, y2.frozen? ⟨w.heap.size, j, none⟩ = false := fun j => HZ9.out.free j
      go_wp2_with fail
      refine bodyPost_ret (results_lex (p := 4) (u := 5) rfl _ _ _ w.heap.size 31 _ (0, 0) _ rfl (HZ9.out.set3 _ _ _) Tryz.underlying31 (by kernel_rfl)) rfl ?_
      exact HO.out _ (((HB9.out.setCell (Nat.le_refl _) _).setCell (Nat.le_refl _) _).setCell (Nat.le_refl _) _)
    | false =>
      have HO := Lib.hid (HFa.out.2 hv)
      rw [hv] at HMy
      clear hv
      go_upto_region 21 with (go_at_call 31; refine HMy.out.mono ?_; rintro e y2 ⟨rfl, hY⟩)
      have HB9 := Lib.hid (HB.out.trans (hY.mono HB.out.size))
      have HZ9 := Lib.hid (HZ.out.kept hY)
      have HT9 := Lib.hid (HT.out.kept hY)
      clear hY 
      have x0 := HT9.out.cell (j := 0) rfl
      have x1 := HT9.out.cell (j := 1) rfl
      have x2 := HT9.out.cell (j := 2) rfl
      have k0 := HZ9.out.cell (j := 0) rfl
      have k1 := HZ9.out.cell (j := 1) rfl
      have k2 := HZ9.out.cell (j := 2) rfl
      have kf : ∀ j, y2.frozen? ⟨w.heap.size, j, none⟩ = false := fun j => HZ9.out.free j
      go_wp2_with fail
      refine bodyPost_ret (results_lex (p := 4) (u := 5) rfl _ _ _ w.heap.size 31 _ (0, 0) _ rfl (HZ9.out.set3 _ _ _) Tryz.underlying31 (by kernel_rfl)) rfl ?_
      exact HO.out _ (((HB9.out.setCell (Nat.le_refl _) _).setCell (Nat.le_refl _) _).setCell (Nat.le_refl _) _)

abbrev FactsF (F : Ending → World → Prop) (w : World) (a : TermD) (n : Int) : Prop :=
  (mayS a.1 a.2.1 a.2.2 = true → ∀ W, Below w.heap.size w W → F (.returned (.tuple #[termD a, .int .i64 n])) W) ∧ (mayS a.1 a.2.1 a.2.2 = false → ∀ W, Below w.heap.size w W → F (.returned (.tuple #[termD (0, ⟨#[]⟩, ⟨#[]⟩), .int .i64 0])) W)
theorem res_none {ps : List (ByteArray × ByteArray)} {z : Sym} (h : resS ps z = none) : ∀ u, namedS (lookP ps) z = some u → u.1 ≠ 1 := by
  intro u hu
  unfold resS at h
  by_cases h2 : z.kind = 2
  · unfold namedS at hu
    rw [if_neg (by omega), if_pos h2] at hu
    cases hu
    show (2 : Int) ≠ 1
    decide
  · rw [if_neg h2] at h
    rw [h] at hu
    cases hu
theorem res_some {ps : List (ByteArray × ByteArray)} {z : Sym} {N : Nat} (hg : GoodS N z) {u : TermD} (h : resS ps z = some u) : namedS (lookP ps) z = some u ∧ u.1 = 1 ∧ mayS 1 u.2.1 noneB = true ∧ u.2.2 = noneB ∧ u.2.1.size ≤ 1000 := by
  unfold resS at h
  by_cases h2 : z.kind = 2
  · rw [if_pos h2] at h; cases h
  · rw [if_neg h2] at h
    obtain ⟨h3, h4, h5⟩ := named_may hg h h2
    refine ⟨h, h3, h4, h5, ?_⟩
    rw [mayS_iri] at h4
    unfold isIRIB at h4
    simp only [Bool.and_eq_true, decide_eq_true_eq] at h4
    have := h4.1.2
    rwa [bs_length] at this
set_option maxRecDepth 100000 in
set_option maxHeartbeats 16000000 in
theorem refRead_s2 (ps : List (ByteArray × ByteArray)) (N : Nat) (hN : N ≤ 9000) (hps : ∀ q ∈ ps, q.2.size ≤ 9000) (hpl : ps.length ≤ 1000) (ptr : Option Addr) (pcap : Nat) (g o cap : Nat) (x0 x1 x2 : Sym) (L : List Sym) (hcap : L.length + 3 ≤ cap) (hcm : cap ≤ maxLen) (hg : ∀ x ∈ x0 :: x1 :: x2 :: L, GoodS N x) (h3 : x0.kind = 3)
    (w : World) (hr : RowS w g o (x0 :: x1 :: x2 :: L)) (hpr : PreRow w ptr ps) :
    Calls Tryz.prog 10 #[.slice (some ⟨g, o, none⟩) (L.length + 3 : Nat) cap, .slice ptr ps.length pcap] w (ReadR (readS (lookP ps) (x0 :: x1 :: x2 :: L)) w) := by
  have hT : (S x0.text).size ≤ 40000 := by show (strOfNums _).size ≤ _; rw [strNums_size]; have := (hg x0 (by simp)).lt; omega
  have hB : Below w.heap.size w ((w.alloc (.cells zeroTermC 31)).alloc (.cells (termC 3 (S x0.text) ⟨#[]⟩) 31)) := below_next (below_lex _ _) (below_lex _ _)
  have hZ : BlockAt ((w.alloc (.cells zeroTermC 31)).alloc (.cells (termC 3 (S x0.text) ⟨#[]⟩) 31)) w.heap.size zeroTermC 31 := (block_new _ _ _).alloc _
  have hT1 : BlockAt ((w.alloc (.cells zeroTermC 31)).alloc (.cells (termC 3 (S x0.text) ⟨#[]⟩) 31)) (w.heap.size + 1) (termC 3 (S x0.text) ⟨#[]⟩) 31 := by
    have := block_new (w.alloc (.cells zeroTermC 31)) (termC 3 (S x0.text) ⟨#[]⟩) 31
    rwa [World.size_alloc] at this
  have hB0 : Below w.heap.size w (w.alloc (.cells zeroTermC 31)) := below_lex _ _
  have hs0 := (hr.below hB0).six (i := 0) (x := x0) rfl
  rw [Nat.zero_mul, Nat.add_zero] at hs0
  have c00 : (w.alloc (.cells zeroTermC 31)).cell? ⟨g, o, none⟩ = some (.int .i64 3) := by have := hs0 0 (by omega); rw [h3] at this; exact this
  have c01 : (w.alloc (.cells zeroTermC 31)).cell? ⟨g, o + 1, none⟩ = some (.string (S x0.text)) := hs0 1 (by omega)
  obtain ⟨W1, hW1⟩ : ∃ W1, W1 = ((w.alloc (.cells zeroTermC 31)).alloc (.cells (termC 3 (S x0.text) ⟨#[]⟩) 31)) := ⟨_, rfl⟩
  rw [← hW1] at hB hZ hT1
  have hr1 := hr.below hB
  have HP := Lib.hid (hpr.below hB)
  obtain ⟨F, hF⟩ : ∃ F, F = ReadR (readS (lookP ps) (x0 :: x1 :: x2 :: L)) w := ⟨_, rfl⟩
  have HF := Lib.hid hF
  have HB := Lib.hid hB
  have HZ := Lib.hid hZ
  have HT := Lib.hid hT1
  have HW1 := Lib.hid hW1
  have HG := Lib.hid hg
  rw [← hF]
  have gne : g ≠ w.heap.size + 1 := fun hh => by
    have := hr.six (i := 0) (x := x0) rfl 0 (by omega); rw [hh] at this; simp [World.cell?] at this
  have hrow1 : ∀ W, Below w.heap.size w W → SixAt W g (o + 6) (symC x1.kind (S x1.text) x1.tk (strOfNums x1.tt) (strOfNums x1.te) x1.place) := fun W hW => by
    have := (hr.below hW).six (i := 1) (x := x1) rfl
    rwa [Nat.one_mul] at this
  have hrow2 : ∀ W, Below w.heap.size w W → SixAt W g (o + 12) (symC x2.kind (strOfNums x2.text) x2.tk (strOfNums x2.tt) (strOfNums x2.te) x2.place) := fun W hW => (hr.below hW).six (i := 2) (x := x2) rfl
  have HRow := Lib.hid hrow1
  have HRow2 := Lib.hid hrow2
  have hs1 := hrow1 W1 hB
  have hs2 := hrow2 W1 hB
  have c10 : W1.cell? ⟨g, o + 6, none⟩ = some (.int .i64 x1.kind) := hs1 0 (by omega)
  have c11 : W1.cell? ⟨g, o + 6 + 1, none⟩ = some (.string (S x1.text)) := hs1 1 (by omega)
  have c12 : W1.cell? ⟨g, o + 6 + 2, none⟩ = some (.int .i64 x1.tk) := hs1 2 (by omega)
  have c13 : W1.cell? ⟨g, o + 6 + 3, none⟩ = some (.string (strOfNums x1.tt)) := hs1 3 (by omega)
  have c14 : W1.cell? ⟨g, o + 6 + 4, none⟩ = some (.string (strOfNums x1.te)) := hs1 4 (by omega)
  have c15 : W1.cell? ⟨g, o + 6 + 5, none⟩ = some (.int .i64 x1.place) := hs1 5 (by omega)
  clear hrow1 hrow2
  have hX : (S x1.text).size ≤ 40000 := by show (strOfNums _).size ≤ _; rw [strNums_size]; have := (hg x1 (by simp)).lt; omega
  have hmk : ∀ W, Calls Tryz.prog 13 #[.agg (symC x1.kind (S x1.text) x1.tk (strOfNums x1.tt) (strOfNums x1.te) x1.place), .string ⟨#[94, 94]⟩] W fun e w' => e = .returned (.bool (decide (x1.kind = 8 ∧ x1.text = typeMarkL))) ∧ Below W.heap.size W w' := fun W => by
    have := refMarkIs_any x1.kind (S x1.text) x1.tk (strOfNums x1.tt) (strOfNums x1.te) x1.place ⟨#[94, 94]⟩ W
    have hb : bs (S x1.text) = x1.text := bs_strOfNums (hg x1 (by simp)).bt
    have hm : markB x1.kind (bs (S x1.text)) (bs ⟨#[94, 94]⟩) = decide (x1.kind = 8 ∧ x1.text = typeMarkL) := by
      unfold markB
      rw [hb, show bs ⟨#[94, 94]⟩ = typeMarkL by decide +kernel]
      by_cases h8 : x1.kind = 8
      · by_cases ht : x1.text = typeMarkL
        · simp [h8, ht]
        · simp [h8, ht]
      · have : ((x1.kind : Int) == 8) = false := by rw [beq_eq_false_iff_ne]; omega
        simp [h8, this]
    rwa [hm] at this
  obtain ⟨n, hn⟩ : ∃ n, n = L.length + 3 := ⟨_, rfl⟩
  rw [← hn] at hcap ⊢
  have hn3 : 3 ≤ n := by omega
  have dl : ((n : Int) == 0) = false := by rw [beq_eq_false_iff_ne]; omega
  have d1 : decide ((1 : Int) < (n : Int)) = true := by simp; omega
  have d1n : decide (1 < n) = true := by simp; omega
  have d2 : decide ((2 : Int) < (n : Int)) = true := by simp; omega
  have d2n : decide (2 < n) = true := by simp; omega
  have b0 : (0 : Int) < (n : Int) := by omega
  have b1 : (1 : Int) < (n : Int) := by omega
  have b2 : (2 : Int) < (n : Int) := by omega
  clear hn
  by_cases h4 : x1.kind = 4
  · have e4 : ((x1.kind : Int) == 4) = true := by rw [beq_iff_eq]; omega
    rw [show decide (x1.kind = 8 ∧ x1.text = typeMarkL) = false from decide_eq_false (by omega)] at hmk
    have HFa : Hid ((mayS 4 (S x0.text) (S x1.text) = true → ∀ W, Below w.heap.size w W → F (.returned (.tuple #[termD (4, S x0.text, S x1.text), .int .i64 2])) W) ∧ (mayS 4 (S x0.text) (S x1.text) = false → ∀ W, Below w.heap.size w W → F (.returned (.tuple #[termD (0, ⟨#[]⟩, ⟨#[]⟩), .int .i64 0])) W)) := Lib.hid (by
      rw [HF.out]
      exact read_facts (n := 2) (read_lang h3 h4 ((HG.out x1 (by simp)).lang h4)) w)
    clear hB hZ hT1 hB0 hs0 hW1 hr1 hF hr hpr hg hs1
    clear hs2
    clear h3 h4
    have HMk := Lib.hid hmk
    clear hmk
    generalize (x1.kind : Int) = kk at *
    generalize (x1.tk : Int) = tk at *
    generalize (x1.place : Int) = tp at *
    generalize strOfNums x1.tt = tt at *
    generalize strOfNums x1.te = te at *
    generalize S x0.text = T at *
    generalize S x1.text = X at *
    go_enter Tryz.func10, Tryz.ntmps10
    go_upto_region 11 with fail
    rw [← HW1.out]
    clear c00 c01
    go_upto_region 13 with fail
    have x0 := HT.out.cell (j := 0) rfl
    have x1 := HT.out.cell (j := 1) rfl
    have x2 := HT.out.cell (j := 2) rfl
    have xf : ∀ j, W1.frozen? ⟨w.heap.size + 1, j, none⟩ = false := fun j => HT.out.free j
    go_region_with fail
    all_goals
      have hB1 : Below w.heap.size w ((W1.setCell ⟨w.heap.size + 1, 0, none⟩ (.int .i64 4)).setCell ⟨w.heap.size + 1, 2, none⟩ (.string X)).drew := ((HB.out.setCell (Nat.le_succ _) _).setCell (Nat.le_succ _) _).trans (lex_drewN _ _ 1)
      have hZ1 : BlockAt ((W1.setCell ⟨w.heap.size + 1, 0, none⟩ (.int .i64 4)).setCell ⟨w.heap.size + 1, 2, none⟩ (.string X)).drew w.heap.size zeroTermC 31 := ((HZ.out.other (by omega) _ _).other (by omega) _ _).drew 1
      have hT1 : BlockAt ((W1.setCell ⟨w.heap.size + 1, 0, none⟩ (.int .i64 4)).setCell ⟨w.heap.size + 1, 2, none⟩ (.string X)).drew (w.heap.size + 1) (termC 4 T X) 31 := ((HT.out.set 0 _).set 2 _).drew 1
      have HRk := Lib.hid (fun (W : World) (h : Below w.heap.size w W) => HRow.out W h)
      clear x0 x1 x2 xf c10 c11 c12 c13 c14 c15 HB HZ HT
      generalize ((W1.setCell ⟨w.heap.size + 1, 0, none⟩ (.int .i64 4)).setCell ⟨w.heap.size + 1, 2, none⟩ (.string X)).drew = W2 at *
      have HB2 := Lib.hid hB1
      have HZ2 := Lib.hid hZ1
      have HT2 := Lib.hid hT1
      have q0 := HRow.out W2 hB1
      have d10 : W2.cell? ⟨g, o + 6, none⟩ = some (.int .i64 kk) := q0 0 (by omega)
      have d11 : W2.cell? ⟨g, o + 6 + 1, none⟩ = some (.string X) := q0 1 (by omega)
      have d12 : W2.cell? ⟨g, o + 6 + 2, none⟩ = some (.int .i64 tk) := q0 2 (by omega)
      have d13 : W2.cell? ⟨g, o + 6 + 3, none⟩ = some (.string tt) := q0 3 (by omega)
      have d14 : W2.cell? ⟨g, o + 6 + 4, none⟩ = some (.string te) := q0 4 (by omega)
      have d15 : W2.cell? ⟨g, o + 6 + 5, none⟩ = some (.int .i64 tp) := q0 5 (by omega)
      clear hB1 hZ1 hT1 q0
      go_upto_region 20 with (go_at_call 13; refine (HMk.out _).mono ?_; rintro e y ⟨rfl, hY0⟩)
      clear d10 d11 d12 d13 d14 d15
      have HB3 := Lib.hid (HB2.out.trans (hY0.mono HB2.out.size))
      have HZ3 := Lib.hid (HZ2.out.kept hY0)
      have HT3 := Lib.hid (HT2.out.kept hY0)
      clear hY0
      have x0 := HT3.out.cell (j := 0) rfl
      have x1 := HT3.out.cell (j := 1) rfl
      have x2 := HT3.out.cell (j := 2) rfl
      have HMy := Lib.hid (refmay_any 4 T X hT hX y)
      cases hv : mayS 4 T X with
      | true =>
        have HO := Lib.hid (HFa.out.1 hv)
        rw [hv] at HMy
        clear hv
        go_upto_region 22 with (go_at_call 31; refine HMy.out.mono ?_; rintro e y2 ⟨rfl, hY⟩)
        have HB9 := Lib.hid (HB3.out.trans (hY.mono HB3.out.size))
        have HZ9 := Lib.hid (HZ3.out.kept hY)
        have HT9 := Lib.hid (HT3.out.kept hY)
        clear hY 
        have x0 := HT9.out.cell (j := 0) rfl
        have x1 := HT9.out.cell (j := 1) rfl
        have x2 := HT9.out.cell (j := 2) rfl
        have k0 := HZ9.out.cell (j := 0) rfl
        have k1 := HZ9.out.cell (j := 1) rfl
        have k2 := HZ9.out.cell (j := 2) rfl
        have kf : ∀ j, y2.frozen? ⟨w.heap.size, j, none⟩ = false := fun j => HZ9.out.free j
        go_wp2_with fail
        refine bodyPost_ret (results_lex (p := 4) (u := 5) rfl _ _ _ w.heap.size 31 _ (0, 0) _ rfl (HZ9.out.set3 _ _ _) Tryz.underlying31 (by kernel_rfl)) rfl ?_
        exact HO.out _ (((HB9.out.setCell (Nat.le_refl _) _).setCell (Nat.le_refl _) _).setCell (Nat.le_refl _) _)
      | false =>
        have HO := Lib.hid (HFa.out.2 hv)
        rw [hv] at HMy
        clear hv
        go_upto_region 21 with (go_at_call 31; refine HMy.out.mono ?_; rintro e y2 ⟨rfl, hY⟩)
        have HB9 := Lib.hid (HB3.out.trans (hY.mono HB3.out.size))
        have HZ9 := Lib.hid (HZ3.out.kept hY)
        have HT9 := Lib.hid (HT3.out.kept hY)
        clear hY 
        have x0 := HT9.out.cell (j := 0) rfl
        have x1 := HT9.out.cell (j := 1) rfl
        have x2 := HT9.out.cell (j := 2) rfl
        have k0 := HZ9.out.cell (j := 0) rfl
        have k1 := HZ9.out.cell (j := 1) rfl
        have k2 := HZ9.out.cell (j := 2) rfl
        have kf : ∀ j, y2.frozen? ⟨w.heap.size, j, none⟩ = false := fun j => HZ9.out.free j
        go_wp2_with fail
        refine bodyPost_ret (results_lex (p := 4) (u := 5) rfl _ _ _ w.heap.size 31 _ (0, 0) _ rfl (HZ9.out.set3 _ _ _) Tryz.underlying31 (by kernel_rfl)) rfl ?_
        exact HO.out _ (((HB9.out.setCell (Nat.le_refl _) _).setCell (Nat.le_refl _) _).setCell (Nat.le_refl _) _)
  · have e4 : ((x1.kind : Int) == 4) = false := by rw [beq_eq_false_iff_ne]; omega
    by_cases h8 : x1.kind = 8 ∧ x1.text = typeMarkL
    · rw [decide_eq_true h8] at hmk
      have HMk := Lib.hid hmk
      have HG2 := Lib.hid (HG.out x2 (by simp))
      have HRs := Lib.hid (fun W (h : Below W1.heap.size W1 W) => refRes_any ps x2 N HG2.out hN hps hpl ptr pcap W (HP.out.below h))
      have HFn : Hid (resS ps x2 = none → FactsF F w (3, S x0.text, noneB) 1) := Lib.hid (fun h => by
        rw [HF.out]
        exact read_facts (n := 1) (read_plain h3 (fun y r' e => by cases e; exact h4) (fun y z r' e _ _ => by cases e; exact res_none h)) w)
      have HFx : Hid (∀ u, resS ps x2 = some u → u.1 = 1 ∧ u.2.1.size ≤ 40000 ∧ (u.2.1 = xsdS → FactsF F w (3, S x0.text, noneB) 3) ∧ (u.2.1 ≠ xsdS → FactsF F w (5, S x0.text, u.2.1) 3)) := Lib.hid (fun u h => by
        obtain ⟨q1, q2, q3, q4, q5⟩ := res_some HG2.out h
        have hrt := read_type (r := L) h3 h8.1 h8.2 q1 q2 q3
        refine ⟨q2, by omega, fun hx => ?_, fun hx => ?_⟩
        · rw [HF.out]
          rw [if_pos hx] at hrt
          exact read_facts (n := 3) hrt w
        · rw [HF.out]
          rw [if_neg hx] at hrt
          exact read_facts (n := 3) hrt w)
      have s20 := hs2 0 (by omega)
      clear hB hZ hT1 hB0 hs0 hW1 hr1 hF hr hpr hg hs1 hs2 s20
      clear h3 h4 h8 hmk
      generalize resS ps x2 = R at *
      generalize (x1.kind : Int) = kk at *
      generalize (x1.tk : Int) = tk at *
      generalize (x1.place : Int) = tp at *
      generalize strOfNums x1.tt = tt at *
      generalize strOfNums x1.te = te at *
      generalize S x0.text = T at *
      generalize S x1.text = X at *
      generalize (x2.kind : Int) = zk at *
      generalize (x2.tk : Int) = ztk at *
      generalize (x2.place : Int) = ztp at *
      generalize strOfNums x2.text = zt at *
      generalize strOfNums x2.tt = ztt at *
      generalize strOfNums x2.te = zte at *
      go_enter Tryz.func10, Tryz.ntmps10
      go_upto_region 11 with fail
      rw [← HW1.out]
      clear c00 c01
      go_upto_region 15 with (go_at_call 13; refine (HMk.out _).mono ?_; rintro e y ⟨rfl, hY0⟩)
      have HB3 := Lib.hid (HB.out.trans (hY0.mono HB.out.size))
      have HZ3 := Lib.hid (HZ.out.kept hY0)
      have HT3 := Lib.hid (HT.out.kept hY0)
      have HRy := Lib.hid (HRs.out y hY0)
      have q0 := HRow2.out y HB3.out
      have d10 : y.cell? ⟨g, o + 12, none⟩ = some (.int .i64 zk) := q0 0 (by omega)
      have d11 : y.cell? ⟨g, o + 12 + 1, none⟩ = some (.string zt) := q0 1 (by omega)
      have d12 : y.cell? ⟨g, o + 12 + 2, none⟩ = some (.int .i64 ztk) := q0 2 (by omega)
      have d13 : y.cell? ⟨g, o + 12 + 3, none⟩ = some (.string ztt) := q0 3 (by omega)
      have d14 : y.cell? ⟨g, o + 12 + 4, none⟩ = some (.string zte) := q0 4 (by omega)
      have d15 : y.cell? ⟨g, o + 12 + 5, none⟩ = some (.int .i64 ztp) := q0 5 (by omega)
      clear hY0 q0 c10 c11 c12 c13 c14 c15 HB HZ HT HRs
      go_upto_region 16 with (go_at_call 30; refine HRy.out.mono ?_; rintro e y3 ⟨t, b, rfl, hY, hyes, hno⟩)
      clear d10 d11 d12 d13 d14 d15 HRy
      have HB4 := Lib.hid (below_next (HB3.out.trans (hY.mono HB3.out.size)) (below_lex y3 (.cells #[.int .i64 t.1, .string t.2.1, .string t.2.2] 31)))
      have HZ4 := Lib.hid ((HZ3.out.kept hY).alloc (.cells #[.int .i64 t.1, .string t.2.1, .string t.2.2] 31))
      have HT4 := Lib.hid ((HT3.out.kept hY).alloc (.cells #[.int .i64 t.1, .string t.2.1, .string t.2.2] 31))
      have HX4 := Lib.hid (block_new y3 #[.int .i64 t.1, .string t.2.1, .string t.2.2] 31)
      have hyn : w.heap.size + 1 < y3.heap.size := by
        have h1 := (Array.getElem?_eq_some_iff.1 (HT3.out.kept hY)).1
        exact h1
      have HYes := Lib.hid hyes
      have HNone := Lib.hid hno
      clear hY hyes hno HB3 HZ3 HT3
      generalize y3.alloc (.cells #[.int .i64 t.1, .string t.2.1, .string t.2.2] 31) = W4 at *
      generalize y3.heap.size = b4 at *
      cases b with
      | false =>
        have HFa : Hid (FactsF F w (3, T, noneB) 1) := Lib.hid (by
          cases hR : R with
          | none => exact HFn.out hR
          | some u => have := (HYes.out u hR).1; cases this)
        go_upto_region 20 with fail
        have x0 := HT4.out.cell (j := 0) rfl
        have x1 := HT4.out.cell (j := 1) rfl
        have x2 := HT4.out.cell (j := 2) rfl
        have HMy := Lib.hid (refmay_any 3 T ⟨#[]⟩ hT (by decide) W4)
        cases hv : mayS 3 T ⟨#[]⟩ with
        | true =>
          have HO := Lib.hid (HFa.out.1 hv)
          rw [hv] at HMy
          clear hv
          go_upto_region 22 with (go_at_call 31; refine HMy.out.mono ?_; rintro e y2 ⟨rfl, hY⟩)
          have HB9 := Lib.hid (HB4.out.trans (hY.mono HB4.out.size))
          have HZ9 := Lib.hid (HZ4.out.kept hY)
          have HT9 := Lib.hid (HT4.out.kept hY)
          clear hY 
          have x0 := HT9.out.cell (j := 0) rfl
          have x1 := HT9.out.cell (j := 1) rfl
          have x2 := HT9.out.cell (j := 2) rfl
          have k0 := HZ9.out.cell (j := 0) rfl
          have k1 := HZ9.out.cell (j := 1) rfl
          have k2 := HZ9.out.cell (j := 2) rfl
          have kf : ∀ j, y2.frozen? ⟨w.heap.size, j, none⟩ = false := fun j => HZ9.out.free j
          go_wp2_with fail
          refine bodyPost_ret (results_lex (p := 4) (u := 5) rfl _ _ _ w.heap.size 31 _ (0, 0) _ rfl (HZ9.out.set3 _ _ _) Tryz.underlying31 (by kernel_rfl)) rfl ?_
          exact HO.out _ (((HB9.out.setCell (Nat.le_refl _) _).setCell (Nat.le_refl _) _).setCell (Nat.le_refl _) _)
        | false =>
          have HO := Lib.hid (HFa.out.2 hv)
          rw [hv] at HMy
          clear hv
          go_upto_region 21 with (go_at_call 31; refine HMy.out.mono ?_; rintro e y2 ⟨rfl, hY⟩)
          have HB9 := Lib.hid (HB4.out.trans (hY.mono HB4.out.size))
          have HZ9 := Lib.hid (HZ4.out.kept hY)
          have HT9 := Lib.hid (HT4.out.kept hY)
          clear hY 
          have x0 := HT9.out.cell (j := 0) rfl
          have x1 := HT9.out.cell (j := 1) rfl
          have x2 := HT9.out.cell (j := 2) rfl
          have k0 := HZ9.out.cell (j := 0) rfl
          have k1 := HZ9.out.cell (j := 1) rfl
          have k2 := HZ9.out.cell (j := 2) rfl
          have kf : ∀ j, y2.frozen? ⟨w.heap.size, j, none⟩ = false := fun j => HZ9.out.free j
          go_wp2_with fail
          refine bodyPost_ret (results_lex (p := 4) (u := 5) rfl _ _ _ w.heap.size 31 _ (0, 0) _ rfl (HZ9.out.set3 _ _ _) Tryz.underlying31 (by kernel_rfl)) rfl ?_
          exact HO.out _ (((HB9.out.setCell (Nat.le_refl _) _).setCell (Nat.le_refl _) _).setCell (Nat.le_refl _) _)
      | true =>
        obtain ⟨u, hu⟩ : ∃ u, R = some u := by
          cases hR : R with
          | none => have := HNone.out hR; cases this
          | some u => exact ⟨u, rfl⟩
        have ht : t = u := (HYes.out u hu).2
        obtain ⟨q1, q2, q3, q4⟩ := HFx.out u hu
        rw [← ht] at q1 q2 q3 q4
        obtain ⟨nx1, nx2⟩ := xsd_neq t.2.1
        have n1 := HX4.out.cell (j := 1) rfl
        clear ht hu q1
        generalize t.2.1 = txt at *
        by_cases hxs : txt = xsdS
        · have HFa := Lib.hid (q3 hxs)
          rw [decide_eq_true hxs] at nx1 nx2
          clear q3 q4 hxs
          go_upto_region 20 with fail
          have x0 := HT4.out.cell (j := 0) rfl
          have x1 := HT4.out.cell (j := 1) rfl
          have x2 := HT4.out.cell (j := 2) rfl
          have HMy := Lib.hid (refmay_any 3 T ⟨#[]⟩ hT (by decide) W4)
          cases hv : mayS 3 T ⟨#[]⟩ with
          | true =>
            have HO := Lib.hid (HFa.out.1 hv)
            rw [hv] at HMy
            clear hv
            go_upto_region 22 with (go_at_call 31; refine HMy.out.mono ?_; rintro e y2 ⟨rfl, hY⟩)
            have HB9 := Lib.hid (HB4.out.trans (hY.mono HB4.out.size))
            have HZ9 := Lib.hid (HZ4.out.kept hY)
            have HT9 := Lib.hid (HT4.out.kept hY)
            clear hY 
            have x0 := HT9.out.cell (j := 0) rfl
            have x1 := HT9.out.cell (j := 1) rfl
            have x2 := HT9.out.cell (j := 2) rfl
            have k0 := HZ9.out.cell (j := 0) rfl
            have k1 := HZ9.out.cell (j := 1) rfl
            have k2 := HZ9.out.cell (j := 2) rfl
            have kf : ∀ j, y2.frozen? ⟨w.heap.size, j, none⟩ = false := fun j => HZ9.out.free j
            go_wp2_with fail
            refine bodyPost_ret (results_lex (p := 4) (u := 5) rfl _ _ _ w.heap.size 31 _ (0, 0) _ rfl (HZ9.out.set3 _ _ _) Tryz.underlying31 (by kernel_rfl)) rfl ?_
            exact HO.out _ (((HB9.out.setCell (Nat.le_refl _) _).setCell (Nat.le_refl _) _).setCell (Nat.le_refl _) _)
          | false =>
            have HO := Lib.hid (HFa.out.2 hv)
            rw [hv] at HMy
            clear hv
            go_upto_region 21 with (go_at_call 31; refine HMy.out.mono ?_; rintro e y2 ⟨rfl, hY⟩)
            have HB9 := Lib.hid (HB4.out.trans (hY.mono HB4.out.size))
            have HZ9 := Lib.hid (HZ4.out.kept hY)
            have HT9 := Lib.hid (HT4.out.kept hY)
            clear hY 
            have x0 := HT9.out.cell (j := 0) rfl
            have x1 := HT9.out.cell (j := 1) rfl
            have x2 := HT9.out.cell (j := 2) rfl
            have k0 := HZ9.out.cell (j := 0) rfl
            have k1 := HZ9.out.cell (j := 1) rfl
            have k2 := HZ9.out.cell (j := 2) rfl
            have kf : ∀ j, y2.frozen? ⟨w.heap.size, j, none⟩ = false := fun j => HZ9.out.free j
            go_wp2_with fail
            refine bodyPost_ret (results_lex (p := 4) (u := 5) rfl _ _ _ w.heap.size 31 _ (0, 0) _ rfl (HZ9.out.set3 _ _ _) Tryz.underlying31 (by kernel_rfl)) rfl ?_
            exact HO.out _ (((HB9.out.setCell (Nat.le_refl _) _).setCell (Nat.le_refl _) _).setCell (Nat.le_refl _) _)
        · have HFa := Lib.hid (q4 hxs)
          rw [decide_eq_false hxs] at nx1 nx2
          clear q3 q4 hxs
          go_upto_region 19 with fail
          have hbne : b4 ≠ w.heap.size + 1 := by omega
          have x0 := HT4.out.cell (j := 0) rfl
          have x1 := HT4.out.cell (j := 1) rfl
          have x2 := HT4.out.cell (j := 2) rfl
          have xf : ∀ j, W4.frozen? ⟨w.heap.size + 1, j, none⟩ = false := fun j => HT4.out.free j
          go_region_with fail
          all_goals
            have hB1 : Below w.heap.size w ((W4.setCell ⟨w.heap.size + 1, 0, none⟩ (.int .i64 5)).setCell ⟨w.heap.size + 1, 2, none⟩ (.string txt)).drew := ((HB4.out.setCell (Nat.le_succ _) _).setCell (Nat.le_succ _) _).trans (lex_drewN _ _ 1)
            have hZ1 : BlockAt ((W4.setCell ⟨w.heap.size + 1, 0, none⟩ (.int .i64 5)).setCell ⟨w.heap.size + 1, 2, none⟩ (.string txt)).drew w.heap.size zeroTermC 31 := ((HZ4.out.other (by omega) _ _).other (by omega) _ _).drew 1
            have hT1 : BlockAt ((W4.setCell ⟨w.heap.size + 1, 0, none⟩ (.int .i64 5)).setCell ⟨w.heap.size + 1, 2, none⟩ (.string txt)).drew (w.heap.size + 1) (termC 5 T txt) 31 := ((HT4.out.set 0 _).set 2 _).drew 1
            clear x0 x1 x2 xf n1
            generalize ((W4.setCell ⟨w.heap.size + 1, 0, none⟩ (.int .i64 5)).setCell ⟨w.heap.size + 1, 2, none⟩ (.string txt)).drew = W5 at *
            have HB5 := Lib.hid hB1
            have HZ5 := Lib.hid hZ1
            have HT5 := Lib.hid hT1
            clear hB1 hZ1 hT1
            go_upto_region 20 with fail
            have x0 := HT5.out.cell (j := 0) rfl
            have x1 := HT5.out.cell (j := 1) rfl
            have x2 := HT5.out.cell (j := 2) rfl
            have HMy := Lib.hid (refmay_any 5 T txt hT q2 W5)
            cases hv : mayS 5 T txt with
            | true =>
              have HO := Lib.hid (HFa.out.1 hv)
              rw [hv] at HMy
              clear hv
              go_upto_region 22 with (go_at_call 31; refine HMy.out.mono ?_; rintro e y2 ⟨rfl, hY⟩)
              have HB9 := Lib.hid (HB5.out.trans (hY.mono HB5.out.size))
              have HZ9 := Lib.hid (HZ5.out.kept hY)
              have HT9 := Lib.hid (HT5.out.kept hY)
              clear hY 
              have x0 := HT9.out.cell (j := 0) rfl
              have x1 := HT9.out.cell (j := 1) rfl
              have x2 := HT9.out.cell (j := 2) rfl
              have k0 := HZ9.out.cell (j := 0) rfl
              have k1 := HZ9.out.cell (j := 1) rfl
              have k2 := HZ9.out.cell (j := 2) rfl
              have kf : ∀ j, y2.frozen? ⟨w.heap.size, j, none⟩ = false := fun j => HZ9.out.free j
              go_wp2_with fail
              refine bodyPost_ret (results_lex (p := 4) (u := 5) rfl _ _ _ w.heap.size 31 _ (0, 0) _ rfl (HZ9.out.set3 _ _ _) Tryz.underlying31 (by kernel_rfl)) rfl ?_
              exact HO.out _ (((HB9.out.setCell (Nat.le_refl _) _).setCell (Nat.le_refl _) _).setCell (Nat.le_refl _) _)
            | false =>
              have HO := Lib.hid (HFa.out.2 hv)
              rw [hv] at HMy
              clear hv
              go_upto_region 21 with (go_at_call 31; refine HMy.out.mono ?_; rintro e y2 ⟨rfl, hY⟩)
              have HB9 := Lib.hid (HB5.out.trans (hY.mono HB5.out.size))
              have HZ9 := Lib.hid (HZ5.out.kept hY)
              have HT9 := Lib.hid (HT5.out.kept hY)
              clear hY 
              have x0 := HT9.out.cell (j := 0) rfl
              have x1 := HT9.out.cell (j := 1) rfl
              have x2 := HT9.out.cell (j := 2) rfl
              have k0 := HZ9.out.cell (j := 0) rfl
              have k1 := HZ9.out.cell (j := 1) rfl
              have k2 := HZ9.out.cell (j := 2) rfl
              have kf : ∀ j, y2.frozen? ⟨w.heap.size, j, none⟩ = false := fun j => HZ9.out.free j
              go_wp2_with fail
              refine bodyPost_ret (results_lex (p := 4) (u := 5) rfl _ _ _ w.heap.size 31 _ (0, 0) _ rfl (HZ9.out.set3 _ _ _) Tryz.underlying31 (by kernel_rfl)) rfl ?_
              exact HO.out _ (((HB9.out.setCell (Nat.le_refl _) _).setCell (Nat.le_refl _) _).setCell (Nat.le_refl _) _)
    · rw [decide_eq_false h8] at hmk
      have HMk := Lib.hid hmk
      have HFa : Hid ((mayS 3 (S x0.text) noneB = true → ∀ W, Below w.heap.size w W → F (.returned (.tuple #[termD (3, S x0.text, noneB), .int .i64 1])) W) ∧ (mayS 3 (S x0.text) noneB = false → ∀ W, Below w.heap.size w W → F (.returned (.tuple #[termD (0, ⟨#[]⟩, ⟨#[]⟩), .int .i64 0])) W)) := Lib.hid (by
        rw [HF.out]
        exact read_facts (n := 1) (read_plain h3 (fun y r' e => by cases e; exact h4) (fun y z r' e k1 k2 => by cases e; exact absurd ⟨k1, k2⟩ h8)) w)
      clear hB hZ hT1 hB0 hs0 hW1 hr1 hF hr hpr hg hs1 hs2
      clear h3 h4 h8 hmk
      generalize (x1.kind : Int) = kk at *
      generalize (x1.tk : Int) = tk at *
      generalize (x1.place : Int) = tp at *
      generalize strOfNums x1.tt = tt at *
      generalize strOfNums x1.te = te at *
      generalize S x0.text = T at *
      generalize S x1.text = X at *
      go_enter Tryz.func10, Tryz.ntmps10
      go_upto_region 11 with fail
      rw [← HW1.out]
      clear c00 c01
      go_upto_region 20 with (go_at_call 13; refine (HMk.out _).mono ?_; rintro e y ⟨rfl, hY0⟩)
      clear c10 c11 c12 c13 c14 c15
      have HB3 := Lib.hid (HB.out.trans (hY0.mono HB.out.size))
      have HZ3 := Lib.hid (HZ.out.kept hY0)
      have HT3 := Lib.hid (HT.out.kept hY0)
      clear hY0
      have x0 := HT3.out.cell (j := 0) rfl
      have x1 := HT3.out.cell (j := 1) rfl
      have x2 := HT3.out.cell (j := 2) rfl
      have HMy := Lib.hid (refmay_any 3 T ⟨#[]⟩ hT (by decide) y)
      cases hv : mayS 3 T ⟨#[]⟩ with
      | true =>
        have HO := Lib.hid (HFa.out.1 hv)
        rw [hv] at HMy
        clear hv
        go_upto_region 22 with (go_at_call 31; refine HMy.out.mono ?_; rintro e y2 ⟨rfl, hY⟩)
        have HB9 := Lib.hid (HB3.out.trans (hY.mono HB3.out.size))
        have HZ9 := Lib.hid (HZ3.out.kept hY)
        have HT9 := Lib.hid (HT3.out.kept hY)
        clear hY 
        have x0 := HT9.out.cell (j := 0) rfl
        have x1 := HT9.out.cell (j := 1) rfl
        have x2 := HT9.out.cell (j := 2) rfl
        have k0 := HZ9.out.cell (j := 0) rfl
        have k1 := HZ9.out.cell (j := 1) rfl
        have k2 := HZ9.out.cell (j := 2) rfl
        have kf : ∀ j, y2.frozen? ⟨w.heap.size, j, none⟩ = false := fun j => HZ9.out.free j
        go_wp2_with fail
        refine bodyPost_ret (results_lex (p := 4) (u := 5) rfl _ _ _ w.heap.size 31 _ (0, 0) _ rfl (HZ9.out.set3 _ _ _) Tryz.underlying31 (by kernel_rfl)) rfl ?_
        exact HO.out _ (((HB9.out.setCell (Nat.le_refl _) _).setCell (Nat.le_refl _) _).setCell (Nat.le_refl _) _)
      | false =>
        have HO := Lib.hid (HFa.out.2 hv)
        rw [hv] at HMy
        clear hv
        go_upto_region 21 with (go_at_call 31; refine HMy.out.mono ?_; rintro e y2 ⟨rfl, hY⟩)
        have HB9 := Lib.hid (HB3.out.trans (hY.mono HB3.out.size))
        have HZ9 := Lib.hid (HZ3.out.kept hY)
        have HT9 := Lib.hid (HT3.out.kept hY)
        clear hY 
        have x0 := HT9.out.cell (j := 0) rfl
        have x1 := HT9.out.cell (j := 1) rfl
        have x2 := HT9.out.cell (j := 2) rfl
        have k0 := HZ9.out.cell (j := 0) rfl
        have k1 := HZ9.out.cell (j := 1) rfl
        have k2 := HZ9.out.cell (j := 2) rfl
        have kf : ∀ j, y2.frozen? ⟨w.heap.size, j, none⟩ = false := fun j => HZ9.out.free j
        go_wp2_with fail
        refine bodyPost_ret (results_lex (p := 4) (u := 5) rfl _ _ _ w.heap.size 31 _ (0, 0) _ rfl (HZ9.out.set3 _ _ _) Tryz.underlying31 (by kernel_rfl)) rfl ?_
        exact HO.out _ (((HB9.out.setCell (Nat.le_refl _) _).setCell (Nat.le_refl _) _).setCell (Nat.le_refl _) _)

theorem refRead_any (ps : List (ByteArray × ByteArray)) (N : Nat) (hN : N ≤ 9000) (hps : ∀ q ∈ ps, q.2.size ≤ 9000) (hpl : ps.length ≤ 1000) (ptr : Option Addr) (pcap : Nat) (v : Value) (L : List Sym) (hg : ∀ x ∈ L, GoodS N x)
    (w : World) (hv : SlA w v L) (hpr : PreRow w ptr ps) :
    Calls Tryz.prog 10 #[v, .slice ptr ps.length pcap] w (ReadR (readS (lookP ps) L) w) := by
  rcases hv with ⟨rfl, rfl⟩ | ⟨g, o, cap, rfl, h1, h2, h3⟩
  · rw [read_nil]
    exact refRead_none none 0 _ w
  · match L, h1, h3, hg with
    | [], _, _, _ =>
      rw [read_nil]
      exact refRead_none _ _ _ w
    | x0 :: L, h1, h3, hg =>
      by_cases hk : x0.kind = 3
      · match L, h1, h3, hg with
        | [], h1, h3, hg => exact refRead_s0 ps N hN hps hpl ptr pcap g o cap x0 h1 h2 hg hk w h3 hpr
        | [x1], h1, h3, hg => exact refRead_s1 ps N hN hps hpl ptr pcap g o cap x0 x1 h1 h2 hg hk w h3 hpr
        | x1 :: x2 :: L, h1, h3, hg => exact refRead_s2 ps N hN hps hpl ptr pcap g o cap x0 x1 x2 L h1 h2 hg hk w h3 hpr
      · exact refRead_1 ps N hN hps hpl ptr pcap g o cap x0 L h1 h2 hg hk w h3 hpr
end Go.Proofs.YtfldpfomecjdkaaGreatDoor
