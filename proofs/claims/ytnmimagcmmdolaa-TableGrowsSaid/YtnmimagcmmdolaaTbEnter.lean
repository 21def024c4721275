/-
  CONTRACT OF table's enter.
-/
import Derived.Test.YtnmimagcmmdolaaTbGrow
import Derived.Deep.DeepCutAuto
import Derived.Deep.RegionHeldLaw
namespace Go.Proofs.Ytnmimagcmmdolaa
open Go.RowKit
set_option linter.unusedVariables false
set_option linter.unusedSimpArgs false

theorem step_append_rowk {P : Program} {ops : Array Oper} {o : Oper} {a : Act} {w : World} {K : Act → World → Prop} {Q : Exit → Act → World → Prop} {E : Prop}
    (hgd : o.guard = none) (s x : Operand) (t : TypeId) (hop : o.op = Op.call { callee := Callee.builtin Builtin.append, args := #[s, x], argTypes := #[t, t] })
    (e : TypeId) (i : TypeInfo) (z : Value) (k bytes : Nat) (ht : P.underlying t = some (.slice e)) (hi : P.info? e = some i) (hz : i.zero = some z)
    (hsize : i.size = k) (hby : i.bytes = bytes) (hzs : z.cells.size = k) (hk : 0 < k)
    (ao : Option Addr) (n cap : Nat) (xs : List Value) (hs : a.eval s = .slice ao n cap) (h : RowK w e k ao n cap xs)
    (ad : Addr) (c : Nat) (news : List Value) (hx : a.eval x = .slice (some ad) 1 c) (hl : news.length = k) (hnews : ∀ j u, news[j]? = some u → w.cell? (ad.add j) = some u) (h1 : ∀ u ∈ news, u.oneCell' = true)
    (h63 : n + 1 ≤ maxLen) (hbytes : (n + 1) * bytes ≤ 140737488355328)
    (hK : ∀ g o' cap' w', RowK w' e k (some ⟨g, o', none⟩) (n + 1) cap' (xs ++ news) → w.grownBy w' (some g) → ((ao = some ⟨g, o', none⟩ ∧ n < cap) ∨ w.heap.size ≤ g) → K (a.put o.dst (.slice (some ⟨g, o', none⟩) (n + 1) cap')) w') :
    if Region.wanted o (yielded ops a.tmps) = true then Oper.wp P o a w K Q else E := by
  have hw : Region.wanted o (yielded ops a.tmps) = true := by simp [Region.wanted, hgd]
  rw [if_pos hw]
  obtain ⟨g, o', cap', w', hrun, h2, h3, h4⟩ := run_append_rowk (P := P) w t o.type e i z k bytes ht hi hz hsize hby hzs hk ao n cap xs h ad c news hl hnews h1 h63 hbytes
  unfold Oper.wp
  simp [execOp, hop, resolve, invoke, builtin, hs, hx, hrun, Result.andThen]
  exact hK g o' cap' w' h2 h3 h4
theorem wpList_append_rowk {P : Program} {ops : Array Oper} {o : Oper} {rest : List Oper} {Q : Exit → Act → World → Prop} {a : Act} {w : World}
    (hgd : Region.wanted o (yielded ops a.tmps) = true) (s x : Operand) (t : TypeId) (hop : o.op = Op.call { callee := Callee.builtin Builtin.append, args := #[s, x], argTypes := #[t, t] })
    (e : TypeId) (i : TypeInfo) (z : Value) (k bytes : Nat) (ht : P.underlying t = some (.slice e)) (hi : P.info? e = some i) (hz : i.zero = some z)
    (hsize : i.size = k) (hby : i.bytes = bytes) (hzs : z.cells.size = k) (hk : 0 < k)
    (ao : Option Addr) (n cap : Nat) (xs : List Value) (hs : a.eval s = .slice ao n cap) (h : RowK w e k ao n cap xs)
    (ad : Addr) (c : Nat) (news : List Value) (hx : a.eval x = .slice (some ad) 1 c) (hl : news.length = k) (hnews : ∀ j u, news[j]? = some u → w.cell? (ad.add j) = some u) (h1 : ∀ u ∈ news, u.oneCell' = true)
    (h63 : n + 1 ≤ maxLen) (hbytes : (n + 1) * bytes ≤ 140737488355328)
    (hK : ∀ g o' cap' w', RowK w' e k (some ⟨g, o', none⟩) (n + 1) cap' (xs ++ news) → w.grownBy w' (some g) → ((ao = some ⟨g, o', none⟩ ∧ n < cap) ∨ w.heap.size ≤ g) → wpList P ops Q rest (a.put o.dst (.slice (some ⟨g, o', none⟩) (n + 1) cap')) w') :
    wpList P ops Q (o :: rest) a w := by
  refine wpList_step fun K hKK => ?_
  rw [if_pos hgd]
  obtain ⟨g, o', cap', w', hrun, h2, h3, h4⟩ := run_append_rowk (P := P) w t o.type e i z k bytes ht hi hz hsize hby hzs hk ao n cap xs h ad c news hl hnews h1 h63 hbytes
  unfold Oper.wp
  simp [execOp, hop, resolve, invoke, builtin, hs, hx, hrun, Result.andThen]
  exact hKK _ _ (hK g o' cap' w' h2 h3 h4)
theorem patF_snoc (P : List RowN) (q : RowN) (h : q ∉ P) : patF (P ++ [q]) = fun x => if q = x then some P.length else patF P x := by
  funext x
  by_cases hx : q = x
  · subst hx
    simp [patF, List.idxOf_append, h]
  · by_cases hp : x ∈ P
    · simp [patF, hx, hp, List.idxOf_append]
    · have hx' : ¬ x = q := fun e => hx e.symm
      simp [patF, hx, hx', hp]
theorem RowK.below {W U : World} {e : TypeId} {k n cap : Nat} {ao : Option Addr} {xs : List Value} (h : RowK W e k ao n cap xs) (hB : Below W.heap.size W U) : RowK U e k ao n cap xs := h.kept fun a ha => hB.block _ (h.lt ha)
theorem info_ent : ∃ i z, Try.prog.info? 68 = some i ∧ i.zero = some z ∧ i.size = 4 ∧ i.bytes = 16 ∧ z.cells.size = 4 := by
  have h : (Try.prog.info? 68).map (fun i => (i.zero, i.size, i.bytes)) = some (some (.agg #[.int .u32 0, .int .u32 0, .int .u32 0, .int .u8 0]), 4, 16) := by kernel_rfl
  cases hi : Try.prog.info? 68 with
  | none => rw [hi] at h; cases h
  | some i =>
    rw [hi] at h
    simp only [Option.map_some, Option.some.injEq, Prod.mk.injEq] at h
    exact ⟨i, _, rfl, h.1, h.2.1, h.2.2, rfl⟩
theorem info_lst : ∃ i z, Try.prog.info? 70 = some i ∧ i.zero = some z ∧ i.size = 2 ∧ i.bytes = 32 ∧ z.cells.size = 2 := by
  have h : (Try.prog.info? 70).map (fun i => (i.zero, i.size, i.bytes)) = some (some (.agg #[.slice none 0 0, .int .i64 0]), 2, 32) := by kernel_rfl
  cases hi : Try.prog.info? 70 with
  | none => rw [hi] at h; cases h
  | some i =>
    rw [hi] at h
    simp only [Option.map_some, Option.some.injEq, Prod.mk.injEq] at h
    exact ⟨i, _, rfl, h.1, h.2.1, h.2.2, rfl⟩
theorem info_num : ∃ i z, Try.prog.info? 3 = some i ∧ i.zero = some z ∧ i.size = 1 ∧ i.bytes = 8 ∧ z.cells.size = 1 := by
  have h : (Try.prog.info? 3).map (fun i => (i.zero, i.size, i.bytes)) = some (some (.int .i64 0), 1, 8) := by kernel_rfl
  cases hi : Try.prog.info? 3 with
  | none => rw [hi] at h; cases h
  | some i =>
    rw [hi] at h
    simp only [Option.map_some, Option.some.injEq, Prod.mk.injEq] at h
    exact ⟨i, _, rfl, h.1, h.2.1, h.2.2, rfl⟩
/-- What stands in lists, wherever. -/
abbrev viewL (l : List LsD) : List (List Nat × Int) := l.map fun x => (x.xs, x.live)
/-- The patterns and lists behind one more. -/
def entStep (r : RowN) (n : Nat) (s : List RowN × List (List Nat × Int)) (i : Nat) : List RowN × List (List Nat × Int) :=
  if lookN r i ∈ s.1 then (s.1, match s.2[s.1.idxOf (lookN r i)]? with | none => s.2 | some x => s.2.set (s.1.idxOf (lookN r i)) (x.1 ++ [n], x.2)) else (s.1 ++ [lookN r i], s.2 ++ [([n], 0)])
def entF (r : RowN) (n : Nat) (s : List RowN × List (List Nat × Int)) (k : Nat) : List RowN × List (List Nat × Int) := (List.range k).foldl (entStep r n) s
theorem entF_succ (r : RowN) (n : Nat) (s : List RowN × List (List Nat × Int)) (k : Nat) : entF r n s (k + 1) = entStep r n (entF r n s k) k := by
  unfold entF
  rw [List.range_succ, List.foldl_append]
  rfl

/-- Behind the row. -/
def EntA (Gz : GzT) (W0 : World) (S : Nat → Prop) (tb : Nat) (R : List EntN) (num : RowN → Option Nat) (pats : List RowN) (Ls : List LsD) (live d0 d1 d2 : Int) (nb pb : Nat) (la : Option Addr) (lc : Nat) (r : RowN) (n0 : Nat) (wx : World) : Prop :=
  ∃ ra rc, TabM Gz wx (growS S W0 wx) tb (R ++ [(r, 0)]) num pats Ls live d0 d1 d2 ra rc nb pb la lc ∧ Turned S W0 wx ∧ wx.heap[n0]? = some (.cells (rowC r) 34 (0, 0))

/-- Behind so many patterns. -/
def EntL (Gz : GzT) (W0 : World) (S : Nat → Prop) (tb : Nat) (R1 : List EntN) (num1 : RowN → Option Nat) (P : List RowN × List (List Nat × Int)) (m : Nat) (live d0 d1 d2 : Int) (nb pb : Nat) (wx : World) : Prop :=
  ∃ ra rc Ls la lc, TabM Gz wx (growS S W0 wx) tb R1 num1 P.1 Ls live d0 d1 d2 ra rc nb pb la lc ∧ viewL Ls = P.2 ∧ Turned S W0 wx ∧ Ls.length + 6 ≤ 10000000000 + m ∧ ∀ x ∈ Ls, x.xs.length + 6 ≤ 1000000000 + m
/-- Where the list of one more is known. -/
def EntB (Gz : GzT) (W0 : World) (S : Nat → Prop) (tb : Nat) (R1 : List EntN) (num1 : RowN → Option Nat) (P : List RowN × List (List Nat × Int)) (n m : Nat) (live d0 d1 d2 : Int) (nb pb : Nat) (s8 : Value) (wx : World) : Prop :=
  ∃ idx x pats Ls ra rc la lc, s8 = .int .i64 ((idx : Nat) : Int) ∧ TabM Gz wx (growS S W0 wx) tb R1 num1 pats Ls live d0 d1 d2 ra rc nb pb la lc ∧ Ls[idx]? = some x ∧ Turned S W0 wx ∧ pats = P.1 ∧ (viewL Ls).set idx (x.xs ++ [n], x.live) = P.2 ∧ Ls.length + 6 ≤ 10000000000 + m ∧ ∀ x ∈ Ls, x.xs.length + 7 ≤ 1000000000 + m

section
variable {w : World} {Gz : GzT} {S : Nat → Prop} {tb : Nat} {R : List EntN} {num : RowN → Option Nat} {pats : List RowN} {Ls : List LsD} {live d0 d1 d2 : Int} {ra : Option Addr} {rc nb pb : Nat} {la : Option Addr} {lc : Nat}
set_option maxRecDepth 100000 in
set_option maxHeartbeats 4000000 in
theorem tbEnter_any (h : TabM Gz w S tb R num pats Ls live d0 d1 d2 ra rc nb pb la lc) (r : RowN) (hr : okN r) (hnum : num r = none) (hfR : R.length + 1 ≤ 1000000000) (hfL : Ls.length + 6 ≤ 10000000000) (hfE : ∀ x ∈ Ls, x.xs.length + 6 ≤ 1000000000) :
    Calls Try.prog 32 #[tabP tb, rowV r] w fun e w' => e = .returned (.int .i64 (R.length : Int)) ∧ Turned S w w' ∧
      ∃ Ls' ra' rc' la' lc', TabM Gz w' (growS S w w') tb (R ++ [(r, 0)]) (fun q => if r = q then some R.length else num q) (entF r R.length (pats, viewL Ls) 6).1 Ls' live d0 d1 d2 ra' rc' nb pb la' lc' ∧ viewL Ls' = (entF r R.length (pats, viewL Ls) 6).2 := by
  obtain ⟨iE, zE, hiE, hzE, hsE, hbE, hcE⟩ := info_ent
  obtain ⟨n0, hn0⟩ : ∃ n0, n0 = w.heap.size := ⟨_, rfl⟩
  have hc0 := heap_alloc_new w (.cells (rowC r) 34)
  have hb0 := (Below.refl w.heap.size w).alloc (Nat.le_refl _) (.cells (rowC r) 34)
  obtain ⟨W0, hW0⟩ : ∃ W0, W0 = w.alloc (.cells (rowC r) 34) := ⟨_, rfl⟩
  rw [← hW0] at hc0 hb0
  rw [← hn0] at hc0
  have h0 := h.below hb0
  have p0 : W0.cell? ⟨tb, 0, none⟩ = some (.slice ra R.length rc) := cell_in h0.blk rfl
  have c0 : W0.cell? ⟨n0, 0, none⟩ = some (.int .u32 (r.1 : Int)) := cell_in hc0 rfl
  have c1 : W0.cell? ⟨n0, 1, none⟩ = some (.int .u32 (r.2.1 : Int)) := cell_in hc0 rfl
  have c2 : W0.cell? ⟨n0, 2, none⟩ = some (.int .u32 (r.2.2 : Int)) := cell_in hc0 rfl
  have H0 := Lib.hid h0
  have HB0 := Lib.hid hb0
  have HW0 := Lib.hid hW0
  have HN0 := Lib.hid hn0
  have HC0 := Lib.hid hc0
  have HLt := Lib.hid h.lt
  have HIE := Lib.hid hiE
  have HZE := Lib.hid hzE
  have HSE := Lib.hid hsE
  have HBE := Lib.hid hbE
  have HCE := Lib.hid hcE
  have HBa : Hid (Below W0.heap.size W0 (W0.alloc (.cells #[.int .u32 (r.1 : Int), .int .u32 (r.2.1 : Int), .int .u32 (r.2.2 : Int), .int .u8 0] 68)).drew) := Lib.hid ((Below.refl _ _).alloc (Nat.le_refl _) _).drew
  have HNw : Hid (∀ j u, (entC (r, 0))[j]? = some u → (W0.alloc (.cells #[.int .u32 (r.1 : Int), .int .u32 (r.2.1 : Int), .int .u32 (r.2.2 : Int), .int .u8 0] 68)).drew.cell? ((⟨W0.heap.size, 0, none⟩ : Addr).add j) = some u) := Lib.hid (fun j u hu => by
    rw [Addr.add_mid, Nat.zero_add]
    have hu' : ([.int .u32 (r.1 : Int), .int .u32 (r.2.1 : Int), .int .u32 (r.2.2 : Int), .int .u8 0] : List Value)[j]? = some u := hu
    exact cell_in (heap_alloc_new W0 _) (by simpa using hu'))
  have p0a : (W0.alloc (.cells #[.int .u32 (r.1 : Int), .int .u32 (r.2.1 : Int), .int .u32 (r.2.2 : Int), .int .u8 0] 68)).cell? ⟨tb, 0, none⟩ = some (.slice ra R.length rc) := cell_in ((h0.below ((Below.refl _ _).alloc (Nat.le_refl _) _)).blk) rfl
  clear h h0 hb0 hc0 hW0 hn0 hiE hzE hsE hbE hcE
  go_enter Try.func32, Try.ntmps32
  go_upto_region 1 with fail
  rw [← HW0.out, ← HN0.out]
  go_upto_region 2 with fail
  have HS0 : Hid (∀ j, S j → j < n0) := Lib.hid (fun j hj => by rw [HN0.out]; exact HLt.out j hj)
  go_cut [19] (fun s19 wx => EntA Gz W0 S tb R num pats Ls live d0 d1 d2 nb pb la lc r n0 wx)
  case first =>
    go_region_law (refine step_append_rowk rfl (.tmp 19) (.tmp 22) 57 rfl 68 iE zE 4 16 Try.underlying57 HIE.out HZE.out HSE.out HBE.out HCE.out (by decide) ra R.length rc (flatE R) rfl (H0.out.rows.below HBa.out) ⟨W0.heap.size, 0, none⟩ 1 (entC (r, 0)) rfl rfl HNw.out (by simp [Value.oneCell']) (by unfold maxLen; omega) (by omega) ?_
                   intro g1 o1 cap1 U1 hR1 hg1 hor1
                   have hU0 := (grown_kept HBa.out hg1 (H0.out.lt tb H0.out.sT) (by rcases hor1 with ⟨e, _⟩ | e; exact ((H0.out.nes).2.2.1 _ e).1.symm; have := H0.out.lt tb H0.out.sT; have := HBa.out.size; omega)).trans H0.out.blk
                   have u0 := cell_in (j := 0) hU0 rfl
                   have uf : ∀ i, U1.frozen? ⟨tb, i, none⟩ = false := fun i => free_in hU0 i)
    all_goals
      have hA := H0.out.addRow r hr hfR HBa.out hR1 hg1 hor1
      have hn0 : (U1.setCell ⟨tb, 0, none⟩ (.slice (some ⟨g1, o1, none⟩) (R.length + 1) cap1)).heap[n0]? = some (.cells (rowC r) 34 (0, 0)) :=
        (hA.2.block n0 (by have := (Array.getElem?_eq_some_iff.1 HC0.out).1; exact this) (fun e => Nat.lt_irrefl _ (HS0.out n0 e))).trans HC0.out
      go_wp2
      go_meet
      exact ⟨_, _, hA.1.wide (fun j hj => by rcases hj with hj | hj; exact .inl hj; exact .inr ⟨hj.1, by simpa [World.setCell] using hj.2⟩) (fun j hj => by rcases hj with hj | hj; exact hA.1.lt j (.inl hj); exact hj.2), hA.2, hn0⟩
  case rest =>
    obtain ⟨ra1, rc1, hM1, hT1, hn1⟩ := hcut
    have HT1 := Lib.hid hT1
    obtain ⟨ob, hup, hto⟩ := hM1.nums.put hr hnum R.length
    have hup1 := hup wc.drew rfl
    have hM1d := hM1.below (Below.refl _ _).drew
    obtain ⟨U2, hU2⟩ : ∃ U2, U2 = { wc.drew with heap := wc.drew.heap.setIfInBounds nb ob } := ⟨_, rfl⟩
    rw [← hU2] at hup1
    have hnlt : nb < wc.drew.heap.size := hM1.nums.lt
    have hM2 := hM1d.addNum hU2 (hto U2 (by rw [hU2]; exact Array.getElem?_setIfInBounds_self_of_lt hnlt))
    obtain ⟨hs2, hk2⟩ := heap_put hU2
    have hn0nb : n0 ≠ nb := fun e => by
      obtain ⟨es, cl, h1, _⟩ := hM1.nums
      rw [← e, hn1] at h1
      injection h1 with h1
      cases h1
    have hn2 : U2.heap[n0]? = some (.cells (rowC r) 34 (0, 0)) := (hk2 n0 hn0nb).trans hn1
    have ht2 : Turned S W0 U2 := (HT1.out.trans (Turned.of_below (Below.refl _ _).drew)).trans (turned_put hU2 H0.out.sN)
    have hM2 := hM2.wide (S' := growS S W0 U2) (fun j hj => by rcases hj with hj | hj; exact .inl hj; exact .inr ⟨hj.1, by rw [hs2]; exact hj.2⟩) (growS_lt H0.out.lt ht2.size)
    have a1 : wc.cell? ⟨tb, 1, none⟩ = some (.map (some nb)) := cell_in hM1.blk rfl
    have b0 : wc.cell? ⟨n0, 0, none⟩ = some (.int .u32 (r.1 : Int)) := cell_in hn1 rfl
    have b1 : wc.cell? ⟨n0, 1, none⟩ = some (.int .u32 (r.2.1 : Int)) := cell_in hn1 rfl
    have b2 : wc.cell? ⟨n0, 2, none⟩ = some (.int .u32 (r.2.2 : Int)) := cell_in hn1 rfl
    have g1 : U2.cell? ⟨tb, 1, none⟩ = some (.map (some nb)) := cell_in hM2.blk rfl
    have g0 : U2.cell? ⟨n0, 0, none⟩ = some (.int .u32 (r.1 : Int)) := cell_in hn2 rfl
    have gA : U2.cell? ⟨n0, 1, none⟩ = some (.int .u32 (r.2.1 : Int)) := cell_in hn2 rfl
    have gB : U2.cell? ⟨n0, 2, none⟩ = some (.int .u32 (r.2.2 : Int)) := cell_in hn2 rfl
    have HM2 := Lib.hid hM2
    have HT2 := Lib.hid ht2
    clear hM1 hM1d hM2 ht2 hup hto hU2 hs2 hk2 hn1 hn2 hT1 hn0nb hnlt p0 p0a c0 c1 c2
    have hsd : wc.drew.cell? ⟨tb, 1, none⟩ = some (.map (some nb)) ∧ wc.drew.cell? ⟨n0, 0, none⟩ = some (.int .u32 (r.1 : Int)) ∧ wc.drew.cell? ⟨n0, 1, none⟩ = some (.int .u32 (r.2.1 : Int)) ∧ wc.drew.cell? ⟨n0, 2, none⟩ = some (.int .u32 (r.2.2 : Int)) := ⟨a1, b0, b1, b2⟩
    have hsu : U2.cell? ⟨tb, 1, none⟩ = some (.map (some nb)) ∧ U2.cell? ⟨n0, 0, none⟩ = some (.int .u32 (r.1 : Int)) ∧ U2.cell? ⟨n0, 1, none⟩ = some (.int .u32 (r.2.1 : Int)) ∧ U2.cell? ⟨n0, 2, none⟩ = some (.int .u32 (r.2.2 : Int)) := ⟨g1, g0, gA, gB⟩
    go_upto_region 3 with fail
    go_region_held3 (fun W' => W'.cell? ⟨tb, 1, none⟩ = some (.map (some nb)) ∧ W'.cell? ⟨n0, 0, none⟩ = some (.int .u32 (r.1 : Int)) ∧ W'.cell? ⟨n0, 1, none⟩ = some (.int .u32 (r.2.1 : Int)) ∧ W'.cell? ⟨n0, 2, none⟩ = some (.int .u32 (r.2.2 : Int))) ((first | assumption)) (fail)
    clear hsd hsu a1 b0 b1 b2 g1 hup1
    go_wp2_with (go_at_call 40; refine (tbLooks_any r _).mono ?_; rintro e W3 ⟨rfl, hY⟩)
    have hL3 : EntL Gz W0 S tb (R ++ [(r, 0)]) (fun q => if r = q then some R.length else num q) (entF r R.length (pats, viewL Ls) 0) 0 live d0 d1 d2 nb pb W3 :=
      ⟨_, _, _, _, _, (HM2.out.below hY).wide (fun j hj => by rcases hj with hj | hj; exact .inl hj; exact .inr ⟨hj.1, Nat.lt_of_lt_of_le hj.2 hY.size⟩) (growS_lt H0.out.lt (Nat.le_trans HT2.out.size hY.size)), rfl, HT2.out.trans (Turned.of_below hY), by omega, hfE⟩
    have HL3 := Lib.hid hL3
    clear hL3 hY HM2 HT2 HT1 H0 g0 gA gB HBa HNw HC0 HLt HIE HZE HSE HBE HCE
    obtain ⟨n, hn⟩ : ∃ n, n = R.length := ⟨_, rfl⟩
    obtain ⟨P0, hP0⟩ : ∃ P0, P0 = (pats, viewL Ls) := ⟨_, rfl⟩
    rw [← hn, ← hP0] at HL3
    obtain ⟨R1, hR1⟩ : ∃ R1, R1 = R ++ [(r, 0)] := ⟨_, rfl⟩
    obtain ⟨num1, hnum1⟩ : ∃ num1 : RowN → Option Nat, num1 = fun q => if r = q then some n else num q := ⟨_, rfl⟩
    rw [← hR1, ← hnum1] at HL3
    have HFin := Lib.hid (show R1 = R ++ [(r, 0)] ∧ (num1 = fun q => if r = q then some n else num q) ∧ n = R.length ∧ P0 = (pats, viewL Ls) from ⟨hR1, hnum1, hn, hP0⟩)
    have HSW : Hid (∀ j, S j → j < W0.heap.size) := Lib.hid (fun j hj => by have h1 := HS0.out j hj; have h2 := HB0.out.size; rw [HN0.out] at h1; omega)
    obtain ⟨LC, hLC⟩ : ∃ LC, LC = looksC r := ⟨_, rfl⟩
    have hix : ∀ i : Nat, i < 6 → ∀ W, (Instr.index 79 (.agg LC) (.int .i64 (i : Int))).run Try.prog W = .ok (rowV (lookN r i)) W := fun i hi W => by rw [hLC]; exact idx_looks r i hi W
    have HIx := Lib.hid hix
    rw [← hLC, ← hn]
    have hn9 : n ≤ 1000000000 := by omega
    clear hR1 hnum1 hn hP0 hLC hix hM2
    go_loopg [34] 6 (fun gg i wr => ∃ k : Nat, k ≤ 6 ∧ 6 - k ≤ gg ∧ i = .int .i64 (k : Int) ∧ EntL Gz W0 S tb R1 num1 (entF r n P0 k) k live d0 d1 d2 nb pb wr)
    case atStart => exact ⟨0, by omega, by omega, rfl, HL3.out⟩
    case round =>
      obtain ⟨k, hk, hgg, rfl, hL⟩ := hrel
      obtain ⟨raR, rcR, LsR, laR, lcR, hM, hV, hT, hb1, hb2⟩ := hL
      obtain rfl | hk6 : k = 6 ∨ k < 6 := by omega
      · have HM := Lib.hid hM
        have HT := Lib.hid hT
        have HV := Lib.hid hV
        clear hM hT hV
        go_wp2
        go_ret
        obtain ⟨e1, e2, e3, e4⟩ := HFin.out
        refine ⟨by rw [← e3]; rfl, (Turned.of_below HB0.out).trans HT.out, LsR, raR, rcR, laR, lcR, ?_, ?_⟩
        · rw [← e1, ← e3, ← e4, ← e2]
          exact HM.out.wide (fun j hj => by rcases hj with hj | hj; exact .inl hj; exact .inr ⟨Nat.le_trans HB0.out.size hj.1, hj.2⟩) (growS_lt (fun j hj => by have := HS0.out j hj; rw [HN0.out] at this; exact this) (Nat.le_trans HB0.out.size HT.out.size))
        · rw [← e3, ← e4]
          exact HV.out
      · have hix := HIx.out k hk6
        have hStep := entF_succ r n P0 k
        obtain ⟨P, hP⟩ : ∃ P, P = entF r n P0 k := ⟨_, rfl⟩
        rw [← hP] at hStep hM hV
        have HStep := Lib.hid hStep
        have HV := Lib.hid hV
        obtain ⟨lk, hlk⟩ : ∃ lk, lk = lookN r k := ⟨_, rfl⟩
        have hko : okN lk := by rw [hlk]; exact okN_look hr k
        rw [← hlk] at hix
        have HLk := Lib.hid hlk
        obtain ⟨n1, hn1⟩ : ∃ n1, n1 = wr.heap.size := ⟨_, rfl⟩
        obtain ⟨W4, hW4⟩ : ∃ W4, W4 = wr.alloc (.cells (rowC lk) 34) := ⟨_, rfl⟩
        have hb4 : Below wr.heap.size wr W4 := by rw [hW4]; exact (Below.refl _ _).alloc (Nat.le_refl _) _
        have hc4 : W4.heap[n1]? = some (.cells (rowC lk) 34 (0, 0)) := by rw [hW4, hn1]; exact heap_alloc_new wr _
        have hM4 := hM.below hb4
        have hT4 := hT.trans (Turned.of_below (S := S) hb4)
        have HM4 := Lib.hid hM4
        have HT4 := Lib.hid hT4
        have HW4 := Lib.hid hW4
        have HN1 := Lib.hid hn1
        have HSR : Hid (∀ j, growS S W0 wr j → j < n1) := Lib.hid (fun j hj => by rw [hn1]; exact hM.lt j hj)
        have p2 : W4.cell? ⟨tb, 2, none⟩ = some (.map (some pb)) := cell_in hM4.blk rfl
        have k0 : W4.cell? ⟨n1, 0, none⟩ = some (.int .u32 (lk.1 : Int)) := cell_in hc4 rfl
        have k1 : W4.cell? ⟨n1, 1, none⟩ = some (.int .u32 (lk.2.1 : Int)) := cell_in hc4 rfl
        have k2 : W4.cell? ⟨n1, 2, none⟩ = some (.int .u32 (lk.2.2 : Int)) := cell_in hc4 rfl
        have hlu := (hM4.below (Below.refl _ _).drew).pts.look hko
        have dk6 : decide ((k : Int) < 6) = true := by simp; omega
        have hsd : W4.drew = W4.drew := rfl
        have HC4 := Lib.hid hc4
        clear hW4 hn1 hb4 hc4 hM4 hT4 hM hV hT hlk hStep hP
        go_upto_region 7 with fail
        rw [← HW4.out, ← HN1.out]
        obtain ⟨o8, ho8⟩ : ∃ o8, o8 = patF P.1 lk := ⟨_, rfl⟩
        rw [← ho8] at hlu
        obtain ⟨v8, hv8⟩ : ∃ v8, v8 = o8.getD 0 := ⟨_, rfl⟩
        obtain ⟨b9, hb9⟩ : ∃ b9, b9 = o8.isSome := ⟨_, rfl⟩
        rw [← hv8, ← hb9] at hlu
        have HO8 := Lib.hid (show o8 = patF P.1 lk ∧ v8 = o8.getD 0 ∧ b9 = o8.isSome from ⟨ho8, hv8, hb9⟩)
        clear ho8 hv8 hb9
        go_region_held3 (fun W' => W' = W4.drew) ((first | assumption | rfl)) (fail)
        clear hlu hsd
        go_upto_if 47 with fail
        go_cut [8] (fun s8 wx => EntB Gz W0 S tb R1 num1 (entStep r n P k) n (k + 1) live d0 d1 d2 nb pb s8 wx)
        case first =>
          have hlen := HM4.out.lens
          have hs4 : wr.heap.size ≤ W4.drew.heap.size := by rw [HW4.out]; exact ((Below.refl _ _).alloc (Nat.le_refl _) _).drew.size
          obtain ⟨e1, e2, e3⟩ := HO8.out
          rcases o8 with _ | i8
          · have hni : lk ∉ P.1 := fun hh => by
              rw [show patF P.1 lk = some (P.1.idxOf lk) from if_pos hh] at e1
              cases e1
            have hst : entStep r n P k = (P.1 ++ [lk], P.2 ++ [([n], 0)]) := by
              unfold entStep
              rw [← HLk.out, if_neg hni]
            have hb : b9 = false := e3
            have hv : v8 = 0 := e2
            obtain ⟨W5, hW5⟩ : ∃ W5, W5 = W4.drew := ⟨_, rfl⟩
            have hT5 : Turned S W0 W5 := by rw [hW5]; exact HT4.out.trans (Turned.of_below (Below.refl _ _).drew)
            have hM5 : TabM Gz W5 (growS S W0 W5) tb R1 num1 P.1 LsR live d0 d1 d2 raR rcR nb pb laR lcR := by
              rw [hW5]
              exact (HM4.out.below (Below.refl _ _).drew).wide (fun j hj => by rcases hj with hj | hj; exact .inl hj; exact .inr ⟨hj.1, Nat.lt_of_lt_of_le hj.2 hs4⟩) (growS_lt HSW.out (HT4.out.trans (Turned.of_below (Below.refl _ _).drew)).size)
            have hc5 : W5.heap[n1]? = some (.cells (rowC lk) 34 (0, 0)) := by rw [hW5]; exact HC4.out
            have hn1pb : n1 ≠ pb := fun e => by
              have := HSR.out pb HM4.out.sP
              omega
            have hMd := hM5.below (Below.refl _ _).drew
            have hTd : Turned S W0 W5.drew := hT5.trans (Turned.of_below (Below.refl _ _).drew)
            obtain ⟨ob, hup, hto⟩ := hM5.pts.put hko (if_neg hni) LsR.length
            have hup1 := hup W5.drew rfl
            obtain ⟨U2, hU2⟩ : ∃ U2, U2 = { W5.drew with heap := W5.drew.heap.setIfInBounds pb ob } := ⟨_, rfl⟩
            rw [← hU2] at hup1
            have hplt : pb < W5.drew.heap.size := hM5.pts.lt
            have hmp : MapRow U2 pb (patF (P.1 ++ [lk])) := by
              rw [patF_snoc _ _ hni, hlen]
              exact hto U2 (by rw [hU2]; exact Array.getElem?_setIfInBounds_self_of_lt hplt)
            obtain ⟨hs2, hk2⟩ := heap_put hU2
            obtain ⟨m1, m2, m3, m4, m5, m6⟩ := hM5.nes
            have hc2 : U2.heap[n1]? = some (.cells (rowC lk) 34 (0, 0)) := (hk2 n1 hn1pb).trans hc5
            have hUb := (hk2 tb m2).trans hM5.blk
            have hUl : RowK U2 70 2 laR LsR.length lcR (flatLs LsR) := hM5.lsts.kept fun a ha => hk2 _ (m4 a ha).2.2
            have a2 : W5.cell? ⟨tb, 2, none⟩ = some (.map (some pb)) := cell_in hM5.blk rfl
            have a3 : W5.cell? ⟨tb, 3, none⟩ = some (.slice laR LsR.length lcR) := cell_in hM5.blk rfl
            have b0 : W5.cell? ⟨n1, 0, none⟩ = some (.int .u32 (lk.1 : Int)) := cell_in hc5 rfl
            have b1 : W5.cell? ⟨n1, 1, none⟩ = some (.int .u32 (lk.2.1 : Int)) := cell_in hc5 rfl
            have b2 : W5.cell? ⟨n1, 2, none⟩ = some (.int .u32 (lk.2.2 : Int)) := cell_in hc5 rfl
            have g2 : U2.cell? ⟨tb, 2, none⟩ = some (.map (some pb)) := cell_in hUb rfl
            have g3 : U2.cell? ⟨tb, 3, none⟩ = some (.slice laR LsR.length lcR) := cell_in hUb rfl
            have g0 : U2.cell? ⟨n1, 0, none⟩ = some (.int .u32 (lk.1 : Int)) := cell_in hc2 rfl
            have gA : U2.cell? ⟨n1, 1, none⟩ = some (.int .u32 (lk.2.1 : Int)) := cell_in hc2 rfl
            have gB : U2.cell? ⟨n1, 2, none⟩ = some (.int .u32 (lk.2.2 : Int)) := cell_in hc2 rfl
            have hsd : W5.drew.cell? ⟨tb, 2, none⟩ = some (.map (some pb)) ∧ W5.drew.cell? ⟨n1, 0, none⟩ = some (.int .u32 (lk.1 : Int)) ∧ W5.drew.cell? ⟨n1, 1, none⟩ = some (.int .u32 (lk.2.1 : Int)) ∧ W5.drew.cell? ⟨n1, 2, none⟩ = some (.int .u32 (lk.2.2 : Int)) := ⟨a2, b0, b1, b2⟩
            have hsu : U2.cell? ⟨tb, 2, none⟩ = some (.map (some pb)) ∧ U2.cell? ⟨n1, 0, none⟩ = some (.int .u32 (lk.1 : Int)) ∧ U2.cell? ⟨n1, 1, none⟩ = some (.int .u32 (lk.2.1 : Int)) ∧ U2.cell? ⟨n1, 2, none⟩ = some (.int .u32 (lk.2.2 : Int)) := ⟨g2, g0, gA, gB⟩
            obtain ⟨iL, zL, hiL, hzL, hsL, hbL, hcL⟩ := info_lst
            have hBa : Below U2.heap.size U2 (U2.alloc (.cells #[.slice none 0 0, .int .i64 0] 70)) := (Below.refl _ _).alloc (Nat.le_refl _) _
            have hVl := hUl.below hBa
            have g3a : (U2.alloc (.cells #[.slice none 0 0, .int .i64 0] 70)).cell? ⟨tb, 3, none⟩ = some (.slice laR LsR.length lcR) := (hBa.cell (World.block_lt_of_cell? _ _ g3)).trans g3
            have HNw : Hid (∀ j u, (lsC ⟨none, 0, [], 0⟩)[j]? = some u → (U2.alloc (.cells #[.slice none 0 0, .int .i64 0] 70)).cell? ((⟨U2.heap.size, 0, none⟩ : Addr).add j) = some u) := Lib.hid (fun j u hu => by
              rw [Addr.add_mid, Nat.zero_add]
              have hu' : ([.slice none 0 0, .int .i64 0] : List Value)[j]? = some u := hu
              exact cell_in (heap_alloc_new U2 _) (by simpa using hu'))
            have htU : tb < U2.heap.size := by rw [hs2]; exact hMd.lt tb hMd.sT
            have HTU := Lib.hid htU
            have HBa := Lib.hid hBa
            have HVl := Lib.hid hVl
            have HIL := Lib.hid hiL
            have HZL := Lib.hid hzL
            have HSL := Lib.hid hsL
            have HBL := Lib.hid hbL
            have HCL := Lib.hid hcL
            have HMd := Lib.hid hMd
            have HTd := Lib.hid hTd
            have HUb := Lib.hid hUb
            have HM4b := Lib.hid m4
            have HMp := Lib.hid hmp
            have HU2 := Lib.hid hU2
            have HSt := Lib.hid hst
            have HB12 := Lib.hid (And.intro hb1 hb2)
            have HKo := Lib.hid hko
            rw [← hW5]
            clear hst hni hM5 hT5 hc5 hup hto hU2 hs2 hk2 hc2 hUb hUl hMd hTd hmp hn1pb hplt m1 m2 m3 m4 m5 m6 hiL hzL hsL hbL hcL hBa hVl htU e1 e2 e3 hs4 hlen hW5 p2 k0 k1 k2 HC4 HM4 HT4
            subst hb hv
            go_upto_region 10 with fail
            go_region_held3 (fun W' => W'.cell? ⟨tb, 2, none⟩ = some (.map (some pb)) ∧ W'.cell? ⟨n1, 0, none⟩ = some (.int .u32 (lk.1 : Int)) ∧ W'.cell? ⟨n1, 1, none⟩ = some (.int .u32 (lk.2.1 : Int)) ∧ W'.cell? ⟨n1, 2, none⟩ = some (.int .u32 (lk.2.2 : Int))) ((first | assumption)) (fail)
            clear hsd hsu a2 a3 b0 b1 b2 g2 g0 gA gB hup1
            go_upto_region 11 with fail
            go_wp2_with (refine wpList_append_rowk (by rfl) (.tmp 63) (.tmp 65) 58 rfl 70 iL zL 2 32 Try.underlying58 HIL.out HZL.out HSL.out HBL.out HCL.out (by decide) laR LsR.length lcR (flatLs LsR) rfl HVl.out ⟨U2.heap.size, 0, none⟩ 1 (lsC ⟨none, 0, [], 0⟩) rfl rfl HNw.out (by simp [Value.oneCell']) (by unfold maxLen; omega) (by omega) ?_
                         intro g1 o1 cap1 U3 hR3 hg3 hor3
                         have hU3 := (grown_kept HBa.out hg3 HTU.out (by rcases hor3 with ⟨e, _⟩ | e; exact ((HM4b.out) _ e).1.symm; have := HTU.out; have := HBa.out.size; omega)).trans HUb.out
                         have u3 := cell_in (j := 3) hU3 rfl
                         have uf : ∀ i, U3.frozen? ⟨tb, i, none⟩ = false := fun i => free_in hU3 i)
            have hA := HMd.out.addPat lk HKo.out HU2.out HMp.out (by omega) HBa.out hR3 hg3 hor3
            have hT6 := HTd.out.then hA.2
            have hE : EntB Gz W0 S tb R1 num1 (entStep r n P k) n (k + 1) live d0 d1 d2 nb pb (.int .i64 ((LsR.length : Nat) : Int)) (U3.setCell ⟨tb, 3, none⟩ (.slice (some ⟨g1, o1, none⟩) (LsR.length + 1) cap1)) := by
              refine ⟨LsR.length, ⟨none, 0, [], 0⟩, P.1 ++ [lk], LsR ++ [⟨none, 0, [], 0⟩], raR, rcR, some ⟨g1, o1, none⟩, cap1, rfl, ?_, by simp, hT6, by rw [HSt.out], ?_, ?_, fun y hy => ?_⟩
              · exact hA.1.wide (S' := growS S W0 (U3.setCell ⟨tb, 3, none⟩ (.slice (some ⟨g1, o1, none⟩) (LsR.length + 1) cap1))) (fun j hj => growS_then HTd.out.size hA.2.size j (by rcases hj with hj | hj; exact .inl hj; exact .inr ⟨hj.1, by simpa [World.setCell] using hj.2⟩)) (growS_lt HSW.out hT6.size)
              · rw [HSt.out, ← HV.out]
                simp [viewL, List.set_append]
              · have := HB12.out.1
                rw [List.length_append]
                show LsR.length + 1 + 6 ≤ _
                omega
              · rcases List.mem_append.1 hy with hy | hy
                · have := HB12.out.2 y hy
                  omega
                · rw [List.mem_singleton.1 hy]
                  show 0 + 7 ≤ _
                  omega
            have HE := Lib.hid hE
            clear hA hT6 hE
            go_wp2
            go_meet
            exact HE.out
          · have hin : lk ∈ P.1 := by
              by_cases hh : lk ∈ P.1
              · exact hh
              · rw [show patF P.1 lk = none from if_neg hh] at e1
                cases e1
            have hi8 : i8 = P.1.idxOf lk := by
              rw [show patF P.1 lk = some (P.1.idxOf lk) from if_pos hin] at e1
              exact Option.some.inj e1
            have hi9 : i8 < LsR.length := by
              rw [← hlen, hi8]
              exact List.idxOf_lt_length_iff.2 hin
            obtain ⟨x, hx⟩ : ∃ x, LsR[i8]? = some x := ⟨_, List.getElem?_eq_getElem hi9⟩
            have hst : entStep r n P k = (P.1, P.2.set i8 (x.xs ++ [n], x.live)) := by
              unfold entStep
              rw [← HLk.out, if_pos hin, ← hi8, ← HV.out]
              simp [viewL, hx]
            have hb : b9 = true := e3
            have hv : v8 = i8 := e2
            have hM5 := ((HM4.out.below (Below.refl _ _).drew).wide (S' := growS S W0 W4.drew) (fun j hj => by rcases hj with hj | hj; exact .inl hj; exact .inr ⟨hj.1, Nat.lt_of_lt_of_le hj.2 hs4⟩) (growS_lt HSW.out (HT4.out.trans (Turned.of_below (Below.refl _ _).drew)).size))
            have hE : EntB Gz W0 S tb R1 num1 (entStep r n P k) n (k + 1) live d0 d1 d2 nb pb (.int .i64 ((i8 : Nat) : Int)) W4.drew :=
              ⟨i8, x, P.1, LsR, raR, rcR, laR, lcR, rfl, hM5, hx, HT4.out.trans (Turned.of_below (Below.refl _ _).drew), by rw [hst], by rw [hst, HV.out], by omega, fun y hy => by have := hb2 y hy; omega⟩
            have HE := Lib.hid hE
            clear hE hM5 hst hx hi9 hi8 hin e1 e2 e3 hs4 hlen
            subst hb hv
            go_wp2
            go_meet
            exact HE.out
        case rest =>
          obtain ⟨idx, x, patsB, LsB, raB, rcB, laB, lcB, rfl, hMB, hxB, hTB, hPB, hVB, hB1, hB2⟩ := hcut
          obtain ⟨iN, zN, hiN, hzN, hsN, hbN, hcN⟩ := info_num
          have hidx : idx < LsB.length := (List.getElem?_eq_some_iff.1 hxB).1
          have hxm := List.mem_of_getElem? hxB
          obtain ⟨lg, lo, hla, hcs, hfr⟩ := hMB.ptrL (by omega)
          obtain ⟨q0, _⟩ := hcs idx x hxB
          have p3 : wc.cell? ⟨tb, 3, none⟩ = some (.slice laB LsB.length lcB) := cell_in hMB.blk rfl
          rw [hla] at p3
          have hBa : Below wc.heap.size wc (wc.alloc (.cells #[.int .i64 (n : Int)] 3)).drew := ((Below.refl _ _).alloc (Nat.le_refl _) _).drew
          have hBb : Below wc.heap.size wc (wc.alloc (.cells #[.int .i64 (n : Int)] 3)) := (Below.refl _ _).alloc (Nat.le_refl _) _
          have q0a : (wc.alloc (.cells #[.int .i64 (n : Int)] 3)).cell? ⟨lg, lo + idx * 2, none⟩ = some (.slice x.ao x.xs.length x.cap) := (hBb.cell (World.block_lt_of_cell? _ _ q0)).trans q0
          have p3a : (wc.alloc (.cells #[.int .i64 (n : Int)] 3)).drew.cell? ⟨tb, 3, none⟩ = some (.slice (some ⟨lg, lo, none⟩) LsB.length lcB) := (hBa.cell (World.block_lt_of_cell? _ _ p3)).trans p3
          have HNw : Hid (∀ j u, ([.int .i64 (n : Int)] : List Value)[j]? = some u → (wc.alloc (.cells #[.int .i64 (n : Int)] 3)).drew.cell? ((⟨wc.heap.size, 0, none⟩ : Addr).add j) = some u) := Lib.hid (fun j u hu => by
            rw [Addr.add_mid, Nat.zero_add]
            exact cell_in (heap_alloc_new wc _) (by simpa using hu))
          have HBa := Lib.hid hBa
          have HMB := Lib.hid hMB
          have HEa := Lib.hid ((hMB.each idx x hxB).below hBa)
          have HLa := Lib.hid hla
          have HXB := Lib.hid hxB
          have hxl := hB2 x hxm
          have hlgtb : tb ≠ lg := ((hMB.nes).2.2.2.1 _ hla).1.symm
          have HNe : Hid (∀ g1 : Nat, ((∃ o1, x.ao = some ⟨g1, o1, none⟩) ∨ wc.heap.size ≤ g1) → tb ≠ g1 ∧ lg ≠ g1) := Lib.hid (fun g1 h1 => by
            rcases h1 with ⟨o1, h1⟩ | h1
            · have := (hMB.nes).2.2.2.2.2 x hxm _ h1
              exact ⟨this.1.symm, (this.2.2.2.2 _ hla).symm⟩
            · have e1 := hMB.lt tb hMB.sT
              have e2 := hMB.lt lg (hMB.sL _ hla)
              omega)
          have HSt := Lib.hid (show patsB = (entStep r n P k).1 ∧ (viewL LsB).set idx (x.xs ++ [n], x.live) = (entStep r n P k).2 from ⟨hPB, hVB⟩)
          have HTB := Lib.hid hTB
          have HB12 := Lib.hid (And.intro hB1 hB2)
          have HIN := Lib.hid hiN
          have HZN := Lib.hid hzN
          have HSN := Lib.hid hsN
          have HBN := Lib.hid hbN
          have HCN := Lib.hid hcN
          have i0 : (0 : Int) ≤ (idx : Int) := by omega
          have i1 : (idx : Int) < (LsB.length : Int) := by omega
          have hsd : wc.drew.cell? ⟨tb, 3, none⟩ = some (.slice (some ⟨lg, lo, none⟩) LsB.length lcB) := p3
          clear hMB hxB hTB hPB hVB hB1 hB2 hiN hzN hsN hbN hcN hla hcs hBa hBb hxm hfr p2 k0 k1 k2
          go_upto_region 12 with fail
          have p3b : (wc.alloc (.cells #[.int .i64 (n : Int)] 3)).cell? ⟨tb, 3, none⟩ = some (.slice (some ⟨lg, lo, none⟩) LsB.length lcB) := p3a
          refine wp_region_held_drew (S := (fun W' : World => W'.cell? ⟨tb, 3, none⟩ = some (.slice (some ⟨lg, lo, none⟩) LsB.length lcB))) (by kernel_rfl) hsd (fun hHeld => ?_)
          refine wpAnyH_take (i := 0) (v := tabP tb) rfl (by kernel_rfl) (by kernel_rfl) (by kernel_rfl) (fun _ _ _ h => h) (Or.inl ⟨by rfl, fun w hSw => by (try dsimp only at hSw); go_simp⟩) hHeld ?_
          simp only [Act.put, List.setIfInBounds_toArray, List.set_cons_zero, List.set_cons_succ]
          refine wpAnyH_take (i := 1) (v := .pointer (some ⟨tb, 0, none⟩)) rfl (by kernel_rfl) (by kernel_rfl) (by kernel_rfl) (fun _ _ _ h => h) (Or.inl ⟨by rfl, fun w hSw => by (try dsimp only at hSw); go_simp⟩) hHeld ?_
          simp only [Act.put, List.setIfInBounds_toArray, List.set_cons_zero, List.set_cons_succ]
          refine wpAnyH_take (i := 2) (v := .pointer (some ⟨tb, 3, none⟩)) rfl (by kernel_rfl) (by kernel_rfl) (by kernel_rfl) (fun _ _ _ h => h) (Or.inl ⟨by rfl, fun w hSw => by (try dsimp only at hSw); go_simp⟩) hHeld ?_
          simp only [Act.put, List.setIfInBounds_toArray, List.set_cons_zero, List.set_cons_succ]
          refine wpAnyH_take (i := 3) (v := .slice (some ⟨lg, lo, none⟩) LsB.length lcB) rfl (by kernel_rfl) (by kernel_rfl) (by kernel_rfl) (fun _ _ _ h => h) (Or.inl ⟨by rfl, fun w hSw => by (try dsimp only at hSw); go_simp⟩) hHeld ?_
          simp only [Act.put, List.setIfInBounds_toArray, List.set_cons_zero, List.set_cons_succ]
          refine wpAnyH_take (i := 4) (v := .int .i64 (idx : Int)) rfl (by kernel_rfl) (by kernel_rfl) (by kernel_rfl) (fun _ _ _ h => h) (Or.inl ⟨by rfl, fun w hSw => by (try dsimp only at hSw); go_simp⟩) hHeld ?_
          simp only [Act.put, List.setIfInBounds_toArray, List.set_cons_zero, List.set_cons_succ]
          refine wpAnyH_take (i := 5) (v := tabP tb) rfl (by kernel_rfl) (by kernel_rfl) (by kernel_rfl) (fun _ _ _ h => h) (Or.inl ⟨by rfl, fun w hSw => by (try dsimp only at hSw); go_simp⟩) hHeld ?_
          simp only [Act.put, List.setIfInBounds_toArray, List.set_cons_zero, List.set_cons_succ]
          refine wpAnyH_take (i := 6) (v := .pointer (some ⟨tb, 0, none⟩)) rfl (by kernel_rfl) (by kernel_rfl) (by kernel_rfl) (fun _ _ _ h => h) (Or.inl ⟨by rfl, fun w hSw => by (try dsimp only at hSw); go_simp⟩) hHeld ?_
          simp only [Act.put, List.setIfInBounds_toArray, List.set_cons_zero, List.set_cons_succ]
          refine wpAnyH_take (i := 7) (v := .pointer (some ⟨tb, 3, none⟩)) rfl (by kernel_rfl) (by kernel_rfl) (by kernel_rfl) (fun _ _ _ h => h) (Or.inl ⟨by rfl, fun w hSw => by (try dsimp only at hSw); go_simp⟩) hHeld ?_
          simp only [Act.put, List.setIfInBounds_toArray, List.set_cons_zero, List.set_cons_succ]
          refine wpAnyH_take (i := 8) (v := .slice (some ⟨lg, lo, none⟩) LsB.length lcB) rfl (by kernel_rfl) (by kernel_rfl) (by kernel_rfl) (fun _ _ _ h => h) (Or.inl ⟨by rfl, fun w hSw => by (try dsimp only at hSw); go_simp⟩) hHeld ?_
          simp only [Act.put, List.setIfInBounds_toArray, List.set_cons_zero, List.set_cons_succ]
          refine wpAnyH_take (i := 9) (v := .int .i64 (idx : Int)) rfl (by kernel_rfl) (by kernel_rfl) (by kernel_rfl) (fun _ _ _ h => h) (Or.inl ⟨by rfl, fun w hSw => by (try dsimp only at hSw); go_simp⟩) hHeld ?_
          simp only [Act.put, List.setIfInBounds_toArray, List.set_cons_zero, List.set_cons_succ]
          refine wpAnyH_take (i := 10) (v := .pointer (some ⟨lg, lo + idx * 2, none⟩)) rfl (by kernel_rfl) (by kernel_rfl) (by kernel_rfl) (fun _ _ _ h => h) (Or.inl ⟨by rfl, fun w hSw => by (try dsimp only at hSw); go_simp⟩) hHeld ?_
          simp only [Act.put, List.setIfInBounds_toArray, List.set_cons_zero, List.set_cons_succ]
          refine wpAnyH_take (i := 11) (v := .pointer (some ⟨lg, lo + idx * 2, none⟩)) rfl (by kernel_rfl) (by kernel_rfl) (by kernel_rfl) (fun _ _ _ h => h) (Or.inl ⟨by rfl, fun w hSw => by (try dsimp only at hSw); go_simp⟩) hHeld ?_
          simp only [Act.put, List.setIfInBounds_toArray, List.set_cons_zero, List.set_cons_succ]
          refine wpAnyH_take (i := 13) (v := .int .i64 (n : Int)) rfl (by kernel_rfl) (by kernel_rfl) (by kernel_rfl) (fun _ _ _ h => h) (Or.inl ⟨by rfl, fun w hSw => by (try dsimp only at hSw); go_simp⟩) hHeld ?_
          simp only [Act.put, List.setIfInBounds_toArray, List.set_cons_zero, List.set_cons_succ]
          refine wpAnyH_ready (rs := [12, 14]) (by kernel_rfl) (by simp) ?_
          refine AllReadyH.cons rfl (fun K hK => ?_) (AllReadyH.cons rfl (fun K hK => ?_) AllReadyH.nil)
          · go_simp
            refine hK.out _ _ hHeld (fun hHeld => ?_)
            clear hK K
            refine wpAnyH_ready (rs := [14]) (by kernel_rfl) (by simp) ?_
            refine AllReadyH.cons rfl (fun K hK => ?_) AllReadyH.nil
            go_simp
            refine hK.out _ _ p3a (fun hHeld => ?_)
            clear hK K
            refine wpAnyH_ready (rs := [15]) (by kernel_rfl) (by simp) ?_
            refine AllReadyH.cons rfl (fun K hK => ?_) AllReadyH.nil
            refine step_append_rowk rfl (.tmp 81) (.tmp 83) 41 rfl 3 iN zN 1 8 Try.underlying41 HIN.out HZN.out HSN.out HBN.out HCN.out (by decide) x.ao x.xs.length x.cap (intsC x.xs) rfl HEa.out ⟨wc.heap.size, 0, none⟩ 1 [.int .i64 (n : Int)] rfl rfl HNw.out (by simp [Value.oneCell']) (by unfold maxLen; omega) (by omega) ?_
            intro g1 o1 cap1 U1 hR1 hg1 hor1
            have hne := HNe.out g1 (by rcases hor1 with ⟨e, _⟩ | e; exact .inl ⟨_, e⟩; exact .inr (Nat.le_trans HBa.out.size e))
            have u3 : U1.cell? ⟨tb, 3, none⟩ = some (.slice (some ⟨lg, lo, none⟩) LsB.length lcB) := (World.cell?_of_block (a := ⟨tb, 3, none⟩) (grown_kept HBa.out hg1 (HMB.out.lt tb HMB.out.sT) hne.1)).trans p3
            have s0 : U1.cell? ⟨lg, lo + idx * 2, none⟩ = some (.slice x.ao x.xs.length x.cap) := (World.cell?_of_block (a := ⟨lg, lo + idx * 2, none⟩) (grown_kept HBa.out hg1 (HMB.out.lt lg (HMB.out.sL _ HLa.out)) hne.2)).trans q0
            have sf : ∀ i, U1.frozen? ⟨lg, i, none⟩ = false := (fun i => by obtain ⟨c, hc⟩ := HMB.out.lsts.type HLa.out; exact free_in ((grown_kept HBa.out hg1 (HMB.out.lt lg (HMB.out.sL _ HLa.out)) hne.2).trans hc) i)
            have u4 : (U1.setCell ⟨lg, lo + idx * 2, none⟩ (.slice (some ⟨g1, o1, none⟩) (x.xs.length + 1) cap1)).cell? ⟨tb, 3, none⟩ = some (.slice (some ⟨lg, lo, none⟩) LsB.length lcB) := (World.cell?_of_block (a := ⟨tb, 3, none⟩) (Below.heap_setCell _ _ _ _ hlgtb)).trans u3
            refine hK.out _ _ u3 (fun hHeld => ?_)
            clear hK K
            refine wpAnyH_take (i := 16) (v := .pointer (some ⟨lg, lo + idx * 2, none⟩)) rfl (by kernel_rfl) (by kernel_rfl) (by kernel_rfl) (fun _ _ _ h => h) (Or.inl ⟨by rfl, fun w hSw => by (try dsimp only at hSw); go_simp⟩) hHeld ?_
            simp only [Act.put, List.setIfInBounds_toArray, List.set_cons_zero, List.set_cons_succ]
            refine wpAnyH_take (i := 17) (v := .pointer (some ⟨lg, lo + idx * 2, none⟩)) rfl (by kernel_rfl) (by kernel_rfl) (by kernel_rfl) (fun _ _ _ h => h) (Or.inl ⟨by rfl, fun w hSw => by (try dsimp only at hSw); go_simp⟩) hHeld ?_
            simp only [Act.put, List.setIfInBounds_toArray, List.set_cons_zero, List.set_cons_succ]
            refine wpAnyH_ready (rs := [18]) (by kernel_rfl) (by simp) ?_
            refine AllReadyH.cons rfl (fun K hK => ?_) AllReadyH.nil
            go_simp
            refine hK.out _ _ u4 (fun hHeld => ?_)
            clear hK K
            refine wpAnyH_done (by kernel_rfl) ?_ _
            have hA := HMB.out.addIdx HXB.out n (by omega) HLa.out HBa.out hR1 hg1 hor1
            have hT5 := HTB.out.then hA.2
            have hres : EntL Gz W0 S tb R1 num1 (entF r n P0 (k + 1)) (k + 1) live d0 d1 d2 nb pb (U1.setCell ⟨lg, lo + idx * 2, none⟩ (.slice (some ⟨g1, o1, none⟩) (x.xs.length + 1) cap1)) := by
              refine ⟨raB, rcB, LsB.set idx ⟨some ⟨g1, o1, none⟩, cap1, x.xs ++ [n], x.live⟩, laB, lcB, ?_, ?_, hT5, by rw [List.length_set]; exact HB12.out.1, fun y hy => ?_⟩
              · have := hA.1.wide (S' := growS S W0 (U1.setCell ⟨lg, lo + idx * 2, none⟩ (.slice (some ⟨g1, o1, none⟩) (x.xs.length + 1) cap1))) (fun j hj => growS_then HTB.out.size hA.2.size j (by rcases hj with hj | hj; exact .inl hj; exact .inr ⟨hj.1, by simpa [World.setCell] using hj.2⟩)) (growS_lt HSW.out hT5.size)
                rw [HSt.out.1, ← HStep.out] at this
                exact this
              · rw [HStep.out, ← HSt.out.2]
                unfold viewL
                rw [List.map_set]
              · rcases List.mem_or_eq_of_mem_set hy with hy | rfl
                · have := HB12.out.2 y hy
                  omega
                · show (x.xs ++ [n]).length + 6 ≤ _
                  rw [List.length_append]
                  show x.xs.length + 1 + 6 ≤ _
                  omega
            have HRes := Lib.hid hres
            clear hA hT5 hres
            go_wp2
            go_roundg (6 - (k + 1))
            case measure => omega
            case rel => exact ⟨k + 1, by omega, Nat.le_refl _, by go_num, HRes.out⟩
          · go_simp
            refine hK.out _ _ p3a (fun hHeld => ?_)
            clear hK K
            refine wpAnyH_ready (rs := [12]) (by kernel_rfl) (by simp) ?_
            refine AllReadyH.cons rfl (fun K hK => ?_) AllReadyH.nil
            go_simp
            refine hK.out _ _ p3a (fun hHeld => ?_)
            clear hK K
            refine wpAnyH_ready (rs := [15]) (by kernel_rfl) (by simp) ?_
            refine AllReadyH.cons rfl (fun K hK => ?_) AllReadyH.nil
            refine step_append_rowk rfl (.tmp 81) (.tmp 83) 41 rfl 3 iN zN 1 8 Try.underlying41 HIN.out HZN.out HSN.out HBN.out HCN.out (by decide) x.ao x.xs.length x.cap (intsC x.xs) rfl HEa.out ⟨wc.heap.size, 0, none⟩ 1 [.int .i64 (n : Int)] rfl rfl HNw.out (by simp [Value.oneCell']) (by unfold maxLen; omega) (by omega) ?_
            intro g1 o1 cap1 U1 hR1 hg1 hor1
            have hne := HNe.out g1 (by rcases hor1 with ⟨e, _⟩ | e; exact .inl ⟨_, e⟩; exact .inr (Nat.le_trans HBa.out.size e))
            have u3 : U1.cell? ⟨tb, 3, none⟩ = some (.slice (some ⟨lg, lo, none⟩) LsB.length lcB) := (World.cell?_of_block (a := ⟨tb, 3, none⟩) (grown_kept HBa.out hg1 (HMB.out.lt tb HMB.out.sT) hne.1)).trans p3
            have s0 : U1.cell? ⟨lg, lo + idx * 2, none⟩ = some (.slice x.ao x.xs.length x.cap) := (World.cell?_of_block (a := ⟨lg, lo + idx * 2, none⟩) (grown_kept HBa.out hg1 (HMB.out.lt lg (HMB.out.sL _ HLa.out)) hne.2)).trans q0
            have sf : ∀ i, U1.frozen? ⟨lg, i, none⟩ = false := (fun i => by obtain ⟨c, hc⟩ := HMB.out.lsts.type HLa.out; exact free_in ((grown_kept HBa.out hg1 (HMB.out.lt lg (HMB.out.sL _ HLa.out)) hne.2).trans hc) i)
            have u4 : (U1.setCell ⟨lg, lo + idx * 2, none⟩ (.slice (some ⟨g1, o1, none⟩) (x.xs.length + 1) cap1)).cell? ⟨tb, 3, none⟩ = some (.slice (some ⟨lg, lo, none⟩) LsB.length lcB) := (World.cell?_of_block (a := ⟨tb, 3, none⟩) (Below.heap_setCell _ _ _ _ hlgtb)).trans u3
            refine hK.out _ _ u3 (fun hHeld => ?_)
            clear hK K
            refine wpAnyH_take (i := 16) (v := .pointer (some ⟨lg, lo + idx * 2, none⟩)) rfl (by kernel_rfl) (by kernel_rfl) (by kernel_rfl) (fun _ _ _ h => h) (Or.inl ⟨by rfl, fun w hSw => by (try dsimp only at hSw); go_simp⟩) hHeld ?_
            simp only [Act.put, List.setIfInBounds_toArray, List.set_cons_zero, List.set_cons_succ]
            refine wpAnyH_take (i := 17) (v := .pointer (some ⟨lg, lo + idx * 2, none⟩)) rfl (by kernel_rfl) (by kernel_rfl) (by kernel_rfl) (fun _ _ _ h => h) (Or.inl ⟨by rfl, fun w hSw => by (try dsimp only at hSw); go_simp⟩) hHeld ?_
            simp only [Act.put, List.setIfInBounds_toArray, List.set_cons_zero, List.set_cons_succ]
            refine wpAnyH_ready (rs := [18]) (by kernel_rfl) (by simp) ?_
            refine AllReadyH.cons rfl (fun K hK => ?_) AllReadyH.nil
            go_simp
            refine hK.out _ _ u4 (fun hHeld => ?_)
            clear hK K
            refine wpAnyH_done (by kernel_rfl) ?_ _
            have hA := HMB.out.addIdx HXB.out n (by omega) HLa.out HBa.out hR1 hg1 hor1
            have hT5 := HTB.out.then hA.2
            have hres : EntL Gz W0 S tb R1 num1 (entF r n P0 (k + 1)) (k + 1) live d0 d1 d2 nb pb (U1.setCell ⟨lg, lo + idx * 2, none⟩ (.slice (some ⟨g1, o1, none⟩) (x.xs.length + 1) cap1)) := by
              refine ⟨raB, rcB, LsB.set idx ⟨some ⟨g1, o1, none⟩, cap1, x.xs ++ [n], x.live⟩, laB, lcB, ?_, ?_, hT5, by rw [List.length_set]; exact HB12.out.1, fun y hy => ?_⟩
              · have := hA.1.wide (S' := growS S W0 (U1.setCell ⟨lg, lo + idx * 2, none⟩ (.slice (some ⟨g1, o1, none⟩) (x.xs.length + 1) cap1))) (fun j hj => growS_then HTB.out.size hA.2.size j (by rcases hj with hj | hj; exact .inl hj; exact .inr ⟨hj.1, by simpa [World.setCell] using hj.2⟩)) (growS_lt HSW.out hT5.size)
                rw [HSt.out.1, ← HStep.out] at this
                exact this
              · rw [HStep.out, ← HSt.out.2]
                unfold viewL
                rw [List.map_set]
              · rcases List.mem_or_eq_of_mem_set hy with hy | rfl
                · have := HB12.out.2 y hy
                  omega
                · show (x.xs ++ [n]).length + 6 ≤ _
                  rw [List.length_append]
                  show x.xs.length + 1 + 6 ≤ _
                  omega
            have HRes := Lib.hid hres
            clear hA hT5 hres
            go_wp2
            go_roundg (6 - (k + 1))
            case measure => omega
            case rel => exact ⟨k + 1, by omega, Nat.le_refl _, by go_num, HRes.out⟩
end
end Go.Proofs.Ytnmimagcmmdolaa
