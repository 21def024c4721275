/-
  CONTRACT OF table's copied.
-/
import Derived.Test.YtjakojpcbapdhaaTbClone
import Derived.IntWalk
namespace Go.Proofs.Ytjakojpcbapdhaa
open Go.RowKit Go.Shelf
set_option linter.unusedVariables false
set_option linter.unusedSimpArgs false

/-- How many numbers stand in the lists. -/
def sumL (Ls : List LsD) : Nat := (Ls.map fun x => x.xs.length).sum
theorem sumL_take (Ls : List LsD) (k : Nat) (x : LsD) (h : Ls[k]? = some x) : sumL (Ls.take (k + 1)) = sumL (Ls.take k) + x.xs.length := by
  unfold sumL
  rw [List.take_add_one, h]
  simp
theorem sumL_le (Ls : List LsD) (k : Nat) : sumL (Ls.take k) ≤ sumL Ls := by
  unfold sumL
  induction Ls generalizing k with
  | nil => simp
  | cons x l ih =>
    cases k with
    | zero => simp
    | succ k =>
      have := ih k
      simp only [List.take_succ_cons, List.map_cons, List.sum_cons]
      omega
/-- A list of its own in the one block, with no room behind it. -/
def newL (A : Nat) (Ls : List LsD) (i : Nat) (x : LsD) : LsD := ⟨some (if sumL (Ls.take i) + x.xs.length = sumL (Ls.take i) then ⟨A, 0, none⟩ else ⟨A, sumL (Ls.take i), none⟩), x.xs.length, x.xs, x.live⟩
def mixL (A : Nat) (Ls : List LsD) : Nat → List LsD
  | 0 => Ls
  | k + 1 => match Ls[k]? with
    | some x => (mixL A Ls k).set k (newL A Ls k x)
    | none => mixL A Ls k
theorem mixL_len (A : Nat) (Ls : List LsD) : ∀ k, (mixL A Ls k).length = Ls.length
  | 0 => rfl
  | k + 1 => by
    unfold mixL
    cases Ls[k]? with
    | none => exact mixL_len A Ls k
    | some x => dsimp only; rw [List.length_set]; exact mixL_len A Ls k
theorem mixL_get (A : Nat) (Ls : List LsD) : ∀ k i, (mixL A Ls k)[i]? = if i < k then (Ls[i]?).map (newL A Ls i) else Ls[i]?
  | 0, i => by simp [mixL]
  | k + 1, i => by
    have ih := mixL_get A Ls k
    unfold mixL
    cases h : Ls[k]? with
    | none =>
      dsimp only
      rw [ih i]
      by_cases hi : i = k
      · subst hi; simp [h]
      · by_cases h2 : i < k
        · rw [if_pos h2, if_pos (by omega)]
        · rw [if_neg h2, if_neg (by omega)]
    | some x =>
      dsimp only
      have hk : k < (mixL A Ls k).length := by rw [mixL_len]; exact (List.getElem?_eq_some_iff.1 h).1
      rw [List.getElem?_set]
      by_cases hi : k = i
      · subst hi
        rw [if_pos rfl, if_pos hk, if_pos (by omega), h]
        rfl
      · rw [if_neg hi, ih i]
        by_cases h2 : i < k
        · rw [if_pos h2, if_pos (by omega)]
        · rw [if_neg h2, if_neg (by omega)]
section
variable {P : Program} (w : World)
/-- Elements more behind those of a block with room, in place. -/
theorem run_append_into (t ty e : TypeId) (i : TypeInfo) (ht : P.underlying t = some (.slice e)) (hi : P.info? e = some i) (hsize : i.size = 1)
    (A s cp : Nat) (cur : Array Value) (hA : w.heap[A]? = some (.cells cur e (0, 0))) (hcur : cp ≤ cur.size)
    (ao : Option Addr) (m c : Nat) (xs : List Value) (h : RowK w e 1 ao m c xs) (h1 : ∀ u ∈ xs, u.oneCell' = true) (hroom : s + m ≤ cp) :
    ∃ w' cur', (Builtin.append_ #[t, t] ty #[.slice (some ⟨A, 0, none⟩) s cp, .slice ao m c]).run P w = .ok (.slice (some ⟨A, 0, none⟩) (s + m) cp) w' ∧ w'.heap[A]? = some (.cells cur' e (0, 0)) ∧ cur'.size = cur.size ∧ (∀ j, j < s → cur'[j]? = cur[j]?) ∧ (∀ j u, xs[j]? = some u → cur'[s + j]? = some u) ∧ Turned (fun j => j = A) w w' := by
  by_cases hn : m = 0
  · subst hn
    have hx : xs = [] := List.eq_nil_of_length_eq_zero (by simpa using h.1)
    subst hx
    refine ⟨w, cur, ?_, hA, rfl, fun j _ => rfl, fun j u hu => by simp at hu, Turned.refl⟩
    have hle : s ≤ cp := by omega
    cases ao <;> simp [Builtin.append_, run_underlying ht, sizeOf, typeInfo, hi, Builtin.lenOf, Builtin.firstCells, loadCells, loadCellsFrom, storeCells, hle]
  · rcases h.2 with ⟨_, h0, _⟩ | ⟨g, o, c2, rfl, hg, hnc, hcm, hrm, hcs⟩
    · exact absurd h0 hn
    have hxl : xs.length = m := by rw [h.1, Nat.mul_one]
    have hr := run_append_room (P := P) w t ty e i ht hi A s cp cur hA ⟨g, o, none⟩ m c xs (by rw [hsize]; exact h.1) (fun j u hu => by rw [Addr.add_mid]; exact cell_in hg (hcs j u hu)) h1 hroom (by rw [hsize]; omega)
    rw [hsize, Nat.mul_one] at hr
    have hcl : cur.toList.length = cur.size := by simp
    refine ⟨_, _, hr, setRow_heap w A cur _ e _ hA, ?_, fun j hj => ?_, fun j u hu => ?_, ⟨rfl, rfl, rfl, by simp, fun j _ hj => setRow_other w A j _ hj⟩⟩
    · simp
      omega
    · rw [List.getElem?_toArray, List.append_assoc, List.getElem?_append_left (by rw [List.length_take, hcl]; omega), List.getElem?_take, if_pos hj]
      simp
    · have hjl := (List.getElem?_eq_some_iff.1 hu).1
      rw [List.getElem?_toArray, List.append_assoc, List.getElem?_append_right (by rw [List.length_take, hcl]; omega), List.length_take, hcl, Nat.min_eq_left (by omega), Nat.add_sub_cancel_left, List.getElem?_append_left hjl]
      exact hu
end
theorem wpList_append_into {P : Program} {ops : Array Oper} {o : Oper} {rest : List Oper} {Q : Exit → Act → World → Prop} {a : Act} {w : World}
    (hgd : o.guard = none) (x0 x : Operand) (t : TypeId) (hop : o.op = Op.call { callee := Callee.builtin Builtin.append, args := #[x0, x], argTypes := #[t, t] })
    (e : TypeId) (i : TypeInfo) (ht : P.underlying t = some (.slice e)) (hi : P.info? e = some i) (hsize : i.size = 1)
    (A s cp : Nat) (cur : Array Value) (hx0 : a.eval x0 = .slice (some ⟨A, 0, none⟩) s cp) (hA : w.heap[A]? = some (.cells cur e (0, 0))) (hcur : cp ≤ cur.size)
    (ao : Option Addr) (m c : Nat) (xs : List Value) (hx : a.eval x = .slice ao m c) (h : RowK w e 1 ao m c xs) (h1 : ∀ u ∈ xs, u.oneCell' = true) (hroom : s + m ≤ cp)
    (hK : ∀ w' cur', w'.heap[A]? = some (.cells cur' e (0, 0)) → cur'.size = cur.size → (∀ j, j < s → cur'[j]? = cur[j]?) → (∀ j u, xs[j]? = some u → cur'[s + j]? = some u) → Turned (fun j => j = A) w w' → wpList P ops Q rest (a.put o.dst (.slice (some ⟨A, 0, none⟩) (s + m) cp)) w') :
    wpList P ops Q (o :: rest) a w := by
  refine wpList_step fun K hKK => ?_
  obtain ⟨w', cur', hrun, r1, r2, r3, r4, r5⟩ := run_append_into (P := P) w t o.type e i ht hi hsize A s cp cur hA hcur ao m c xs h h1 hroom
  have hw : Region.wanted o (yielded ops a.tmps) = true := by simp [Region.wanted, hgd]
  rw [if_pos hw]
  unfold Oper.wp
  simp [execOp, hop, resolve, invoke, builtin, hx0, hx, hrun, Result.andThen]
  exact hKK _ _ (hK w' cur' r1 r2 r3 r4 r5)
/-- So many lists have been copied. -/
def CopyR (A : Nat) (Ls : List LsD) (la' : Option Addr) (lc' k : Nat) (W : World) : Prop :=
  ∃ cur, W.heap[A]? = some (.cells cur 3 (0, 0)) ∧ cur.size = sumL Ls ∧ (∀ i x, i < k → Ls[i]? = some x → ∀ j u, (intsC x.xs)[j]? = some u → cur[sumL (Ls.take i) + j]? = some u) ∧
    RowK W 70 2 la' Ls.length lc' (flatLs (mixL A Ls k))
set_option maxRecDepth 100000 in
set_option maxHeartbeats 4000000 in
theorem copied_any {w : World} {la : Option Addr} {lc : Nat} {Ls : List LsD} (h : RowK w 70 2 la Ls.length lc (flatLs Ls)) (hE : ∀ (k : Nat) (x : LsD), Ls[k]? = some x → RowK w 3 1 x.ao x.xs.length x.cap (intsC x.xs)) (hs : sumL Ls ≤ 10000000000000) (hfew : Ls.length ≤ 10000000000) :
    Calls Try.prog 39 #[.slice la Ls.length lc] w fun e w' => ∃ (la' : Option Addr) (lc' A : Nat), e = .returned (.slice la' Ls.length lc') ∧ Below w.heap.size w w' ∧ CopyR A Ls la' lc' Ls.length w' ∧ (∀ a, la' = some a → w.heap.size ≤ a.block) ∧ w.heap.size ≤ A := by
  obtain ⟨iN, zN, hiN, hzN, hsN, hbN, hcN⟩ := info_num
  have HAt : Hid (∀ U, Below w.heap.size w U → ∀ (k : Nat) (x : LsD), Ls[k]? = some x → ∃ g o, la = some ⟨g, o, none⟩ ∧ U.cell? ⟨g, o + k * 2, none⟩ = some (.slice x.ao x.xs.length x.cap) ∧ U.cell? ⟨g, o + k * 2 + 1, none⟩ = some (.int .i64 x.live)) := Lib.hid (fun U hU k x hx => by
    have hk := (List.getElem?_eq_some_iff.1 hx).1
    obtain ⟨g, o, e, hc, _⟩ := (h.below hU).at_ (by omega)
    have c0 := hc (k * 2 + 0) (.slice x.ao x.xs.length x.cap) (by unfold flatLs; rw [flat_get lsC 2 (fun _ => rfl) Ls k 0 x hx (by omega)]; rfl)
    have c1 := hc (k * 2 + 1) (.int .i64 x.live) (by unfold flatLs; rw [flat_get lsC 2 (fun _ => rfl) Ls k 1 x hx (by omega)]; rfl)
    exact ⟨g, o, e, c0, by rw [← Nat.add_assoc] at c1; exact c1⟩)
  have HBl := Lib.hid (Below.refl w.heap.size w)
  have HMk : Hid (∀ W, (Instr.makeSlice 41 (.int .i64 0) (.int .i64 ((sumL Ls : Nat) : Int))).run Try.prog W = .ok (.slice (some ⟨W.heap.size, 0, none⟩) 0 (sumL Ls)) (W.alloc (.cells (madeCells zN.cells (sumL Ls)) 3))) := Lib.hid (fun W => by
    have := run_make (P := Try.prog) W 41 3 iN zN Try.underlying41 hiN hzN .i64 .i64 0 ((sumL Ls : Nat) : Int) (Int.le_refl _) (by omega) (by rw [hbN]; omega) (by omega)
    rw [hsN, Nat.mul_one, Int.toNat_natCast] at this
    exact this)
  have HZ : Hid ((madeCells zN.cells (sumL Ls)).size = sumL Ls) := Lib.hid (size_madeCells _ _)
  generalize madeCells zN.cells (sumL Ls) = Mc at *
  have HCl : Hid (∀ U, Below w.heap.size w U → Calls Try.prog 46 #[.slice la Ls.length lc] U fun e w' => ∃ ao' cap', e = .returned (.slice ao' Ls.length cap') ∧ RowK w' 70 2 ao' Ls.length cap' (flatLs Ls) ∧ Below U.heap.size U w' ∧ ∀ a, ao' = some a → U.heap.size ≤ a.block) := Lib.hid (fun U hU => cloneLists_any (h.below hU) hfew (by unfold maxLen; omega))
  have HEa := Lib.hid hE
  have HIN := Lib.hid hiN
  have HSN := Lib.hid hsN
  clear h hE hiN hzN hsN hbN hcN
  go_enter Try.func39, Try.ntmps39
  go_wp2
  go_loopg [3, 5, 13] Ls.length (fun g s _ i wr => ∃ k : Nat, k ≤ Ls.length ∧ Ls.length - k ≤ g ∧ i = .int .i64 (k : Int) ∧ s = .int .i64 ((sumL (Ls.take k) : Nat) : Int) ∧ Below w.heap.size w wr)
  case atStart => exact ⟨0, Nat.zero_le _, by omega, rfl, rfl, HBl.out⟩
  case round =>
    obtain ⟨k, hk, hg, rfl, rfl, hb⟩ := hrel
    have HB := Lib.hid hb
    have hle := sumL_le Ls k
    by_cases hlt : k < Ls.length
    · obtain ⟨x, hx⟩ : ∃ x, Ls[k]? = some x := ⟨_, List.getElem?_eq_getElem hlt⟩
      obtain ⟨g, o, rfl, c0, c1⟩ := HAt.out wr hb k x hx
      have hst := sumL_take Ls k x hx
      have hle2 := sumL_le Ls (k + 1)
      have HSt := Lib.hid hst
      have e2 : decide ((k : Int) < (Ls.length : Int)) = true := by simp; omega
      have i0 : (0 : Int) ≤ (k : Int) := by omega
      have i1 : (k : Int) < (Ls.length : Int) := by omega
      have i2 : sumL (Ls.take k) + x.xs.length ≤ 10000000000000 := by omega
      have HB2 : Hid (Below w.heap.size w (wr.alloc (.cells #[.slice x.ao x.xs.length x.cap, .int .i64 x.live] 70))) := Lib.hid (hb.alloc hb.size _)
      have hcn := cell_in (heap_alloc_new wr (.cells #[.slice x.ao x.xs.length x.cap, .int .i64 x.live] 70)) (j := 0) rfl
      generalize sumL (Ls.take k) = s0 at *
      clear hb hx hst hle hle2
      go_wp2
      go_roundg (Ls.length - (k + 1))
      case measure => omega
      case rel => exact ⟨k + 1, by omega, Nat.le_refl _, by go_num, by rw [HSt.out]; go_num, HB2.out⟩
    · obtain rfl : k = Ls.length := by omega
      have e2 : decide ((Ls.length : Int) < (Ls.length : Int)) = false := by simp
      rw [List.take_length]
      clear hb hlt hg hk hle
      go_wp2
      rw [HMk.out]
      simp only [Result.andThen]
      rw [Oper.upon_value]
      have hA0 := heap_alloc_new wr (.cells Mc 3)
      have hb1 := HB.out.alloc HB.out.size (.cells Mc 3)
      have hs1 : (wr.alloc (.cells Mc 3)).heap.size = wr.heap.size + 1 := World.size_alloc _ _
      obtain ⟨W1, hW1⟩ : ∃ W1, W1 = wr.alloc (.cells Mc 3) := ⟨_, rfl⟩
      obtain ⟨A, hA⟩ : ∃ A, A = wr.heap.size := ⟨_, rfl⟩
      rw [← hW1, ← hA] at hA0 hs1
      rw [← hW1] at hb1
      rw [← hW1, ← hA]
      have HA0 := Lib.hid hA0
      have HB1 := Lib.hid hb1
      have HS1 := Lib.hid hs1
      have HAw : Hid (w.heap.size ≤ A) := Lib.hid (by rw [hA]; exact HB.out.size)
      clear hA0 hb1 hs1 hW1 hA
      go_wp2_with (go_at_call 46; refine (HCl.out _ HB1.out).mono ?_; rintro e w2 ⟨la', lc', rfl, hr2, hb2, hn2⟩; replace hr2 := Lib.hid hr2; replace hb2 := Lib.hid hb2; replace hn2 := Lib.hid hn2)
      have HR0 : Hid (CopyR A Ls la' lc' 0 w2) := Lib.hid ⟨Mc, (hb2.out.block A (by rw [HS1.out]; omega)).trans HA0.out, HZ.out, fun i x hi => absurd hi (Nat.not_lt_zero _), hr2.out⟩
      have HB2 : Hid (Below w.heap.size w w2) := Lib.hid (HB1.out.trans (hb2.out.mono HB1.out.size))
      have HLa : Hid (∀ a, la' = some a → w.heap.size ≤ a.block ∧ a.block ≠ A) := Lib.hid (fun a ha => by
        have := hn2.out a ha
        have := HS1.out
        have := HAw.out
        omega)
      clear hr2 hb2 hn2
      go_loopg [6, 8, 9, 10, 29] Ls.length (fun g al _ _ _ i wr => ∃ k : Nat, k ≤ Ls.length ∧ Ls.length - k ≤ g ∧ i = .int .i64 (k : Int) ∧ al = .slice (some ⟨A, 0, none⟩) (sumL (Ls.take k)) (sumL Ls) ∧ CopyR A Ls la' lc' k wr ∧ Below w.heap.size w wr)
      case atStart => exact ⟨0, Nat.zero_le _, by omega, rfl, rfl, HR0.out, HB2.out⟩
      case round =>
        obtain ⟨k, hk, hg, rfl, rfl, hR, hb⟩ := hrel
        have HRk := Lib.hid hR
        have HBk := Lib.hid hb
        by_cases hlt : k < Ls.length
        · obtain ⟨x, hx⟩ : ∃ x, Ls[k]? = some x := ⟨_, List.getElem?_eq_getElem hlt⟩
          obtain ⟨g, o, rfl, c0, c1⟩ := HAt.out wr hb k x hx
          have e3 : decide ((k : Int) < (Ls.length : Int)) = true := by simp; omega
          have i0 : (0 : Int) ≤ (k : Int) := by omega
          have i1 : (k : Int) < (Ls.length : Int) := by omega
          have hst := sumL_take Ls k x hx
          have hle2 := sumL_le Ls (k + 1)
          have hlen := (List.getElem?_eq_some_iff.1 hx).1
          obtain ⟨cur, hA, hsz, hold, hrow⟩ := hR
          obtain ⟨g', o', rfl, _, _⟩ := hrow.at_ (by omega)
          have hgA := (HLa.out _ rfl)
          simp only at hgA
          have hU := Below.alloc (Below.refl wr.heap.size wr) (Nat.le_refl _) (.cells #[.slice x.ao x.xs.length x.cap, .int .i64 x.live] 70)
          obtain ⟨u9, hu9⟩ : ∃ u9, u9 = wr.heap.size := ⟨_, rfl⟩
          obtain ⟨U1, hU1⟩ : ∃ U1, U1 = wr.alloc (.cells #[.slice x.ao x.xs.length x.cap, .int .i64 x.live] 70) := ⟨_, rfl⟩
          have hcn := cell_in (heap_alloc_new wr (.cells #[.slice x.ao x.xs.length x.cap, .int .i64 x.live] 70)) (j := 0) rfl
          rw [← hU1] at hU hcn
          rw [← hu9] at hcn
          have hAl := (Array.getElem?_eq_some_iff.1 hA).1
          have HA1 : Hid (U1.heap[A]? = some (.cells cur 3 (0, 0))) := Lib.hid ((hU.block A hAl).trans hA)
          have HSr := Lib.hid ((HEa.out k x hx).below (hb.trans (hU.mono hb.size)))
          have HApp : Hid (∀ V cur', V.heap[A]? = some (.cells cur' 3 (0, 0)) → cur'.size = cur.size → (∀ j, j < sumL (Ls.take k) → cur'[j]? = cur[j]?) → (∀ j u, (intsC x.xs)[j]? = some u → cur'[sumL (Ls.take k) + j]? = some u) → Turned (fun j => j = A) U1 V →
              (V.cell? ⟨g', o' + k * 2, none⟩ = some (.slice x.ao x.xs.length x.cap) ∧ (∀ i, V.frozen? ⟨g', i, none⟩ = false)) ∧ CopyR A Ls (some ⟨g', o', none⟩) lc' (k + 1) (V.setCell ⟨g', o' + k * 2, none⟩ (.slice (newL A Ls k x).ao x.xs.length x.xs.length)) ∧ Below w.heap.size w (V.setCell ⟨g', o' + k * 2, none⟩ (.slice (newL A Ls k x).ao x.xs.length x.xs.length))) := Lib.hid (fun V cur' h1 h2 h3 h4 h5 => by
            have hg'l := hrow.lt rfl
            simp only at hg'l
            have hrV : RowK V 70 2 (some ⟨g', o', none⟩) Ls.length lc' (flatLs (mixL A Ls k)) := (hrow.below hU).kept fun a ha => by
              injection ha with ha
              subst ha
              exact h5.block g' (Nat.lt_of_lt_of_le hg'l hU.size) hgA.2
            have hmk : (mixL A Ls k)[k]? = some x := by rw [mixL_get, if_neg (Nat.lt_irrefl k)]; exact hx
            obtain ⟨g2, o2, e2, hc2, hf2⟩ := hrV.at_ (by omega)
            injection e2 with e2
            injection e2 with e21 e22
            subst e21 e22
            have c2 := hc2 (k * 2 + 0) (.slice x.ao x.xs.length x.cap) (by unfold flatLs; rw [flat_get lsC 2 (fun _ => rfl) _ k 0 x hmk (by omega)]; rfl)
            have hset := hrV.set rfl (k * 2 + 0) (.slice (newL A Ls k x).ao x.xs.length x.xs.length)
            have hfl : (flatLs (mixL A Ls k)).set (k * 2 + 0) (.slice (newL A Ls k x).ao x.xs.length x.xs.length) = flatLs (mixL A Ls (k + 1)) := by
              have e : mixL A Ls (k + 1) = (mixL A Ls k).set k (newL A Ls k x) := by
                show (match Ls[k]? with | some x => (mixL A Ls k).set k (newL A Ls k x) | none => mixL A Ls k) = _
                rw [hx]
              rw [e]
              exact (flat_set lsC 2 (fun _ => rfl) _ k 0 x (newL A Ls k x) _ hmk (by omega) rfl).symm
            rw [hfl] at hset
            rw [Nat.add_zero] at hset c2
            have hbV : Below w.heap.size w V := ⟨(h5.os.trans hU.os).trans hb.os, (h5.tape.trans hU.tape).trans hb.tape, (h5.output.trans hU.output).trans hb.output, Nat.le_trans hb.size (Nat.le_trans hU.size h5.size), fun j hj => by
              rw [h5.block j (Nat.lt_of_lt_of_le hj (Nat.le_trans hb.size hU.size)) (by have := HAw.out; omega), hU.block j (Nat.lt_of_lt_of_le hj hb.size), hb.block j hj]⟩
            refine ⟨⟨c2, hf2⟩, ⟨cur', (Below.heap_setCell _ _ _ _ (Ne.symm hgA.2)).trans h1, h2.trans hsz, fun i y hi hy j u hu => ?_, hset⟩, hbV.setCell (p := ⟨g', o' + k * 2, none⟩) hgA.1 _⟩
            by_cases hik : i < k
            · rw [h3 _ (by
                have h6 := sumL_take Ls i y hy
                have h7 := (List.getElem?_eq_some_iff.1 hu).1
                have h8 : (intsC y.xs).length = y.xs.length := by simp [intsC]
                have h9 : sumL (Ls.take (i + 1)) ≤ sumL (Ls.take k) := by
                  have := sumL_le (Ls.take k) (i + 1)
                  rwa [List.take_take, Nat.min_eq_left (by omega)] at this
                omega)]
              exact hold i y hik hy j u hu
            · obtain rfl : i = k := by omega
              rw [hx] at hy
              injection hy with hy
              subst hy
              exact h4 j u hu)
          have HSt := Lib.hid hst
          have HSz := Lib.hid hsz
          have HU1 := Lib.hid hU1
          have HU9 := Lib.hid hu9
          have i2 : sumL (Ls.take k) + x.xs.length ≤ sumL Ls := by omega
          have hAo : Hid ((newL A Ls k x).ao = some (if sumL (Ls.take k) + x.xs.length = sumL (Ls.take k) then ⟨A, 0, none⟩ else ⟨A, sumL (Ls.take k), none⟩)) := Lib.hid rfl
          generalize (newL A Ls k x).ao = na at *
          generalize x.xs.length = m at *
          generalize sumL (Ls.take k) = s0 at *
          generalize sumL Ls = T at *
          clear hb hx hst hle2 hold hrow hA hsz hU hU1 hu9 hAl HR0 HRk HAt HCl HEa HMk
          go_upto_region 12 with fail
          rw [← HU1.out, ← HU9.out]
          clear c0 c1
          go_wp2_with (refine wpList_append_into (by rfl) (.tmp 36) (.tmp 38) 41 rfl 3 iN Try.underlying41 HIN.out HSN.out A s0 T cur rfl HA1.out (by rw [HSz.out]; exact Nat.le_refl _) x.ao m x.cap (intsC x.xs) rfl HSr.out (by simp [intsC, Value.oneCell']) i2 ?_; intro V cur' r1 r2 r3 r4 r5; have hE := HApp.out V cur' r1 r2 r3 r4 r5; obtain ⟨⟨d1, d2⟩, hE2⟩ := hE; have hE3 := Lib.hid hE2; clear r1 r2 r3 r4 r5 hE2)
          all_goals first
            | (exfalso; omega)
            | (have hm : m = 0 := by omega
               have hna : na = some ⟨A, 0, none⟩ := by rw [hAo.out, if_pos (by omega)]
               have hE4 := hE3.out
               rw [hna, hm] at hE4
               replace hE4 := Lib.hid hE4
               go_roundg (Ls.length - (k + 1))
               case measure => omega
               case rel => exact ⟨k + 1, by omega, Nat.le_refl _, by go_num, by rw [HSt.out, hm]; rfl, hE4.out.1, hE4.out.2⟩)
            | (have hm : 0 < m := by omega
               have hna : na = some ⟨A, s0, none⟩ := by rw [hAo.out, if_neg (by omega)]
               have hE4 := hE3.out
               rw [hna] at hE4
               replace hE4 := Lib.hid hE4
               go_roundg (Ls.length - (k + 1))
               case measure => omega
               case rel => exact ⟨k + 1, by omega, Nat.le_refl _, by go_num, by rw [HSt.out], hE4.out.1, hE4.out.2⟩)
        · obtain rfl : k = Ls.length := by omega
          have e3 : decide ((Ls.length : Int) < (Ls.length : Int)) = false := by simp
          clear hb hR hlt hk hg
          go_wp2
          go_ret
          exact ⟨la', lc', A, by simp, HBk.out, HRk.out, fun a ha => (HLa.out a ha).1, HAw.out⟩
end Go.Proofs.Ytjakojpcbapdhaa
