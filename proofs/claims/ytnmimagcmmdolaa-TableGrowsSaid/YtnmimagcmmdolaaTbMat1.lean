/-
  CONTRACT OF what table's Match hands back, as an iterator over a table that may change meanwhile.
-/
import Derived.Test.YtnmimagcmmdolaaTbMatch
namespace Go.Proofs.Ytnmimagcmmdolaa
open Go.RowKit Go.Shelf
set_option linter.unusedVariables false
set_option linter.unusedSimpArgs false
attribute [local go_sem] Oper.semAt_some

abbrev MatE := Nat × RowN
abbrev encM (x : MatE) : Array Value := #[.int .i64 (x.1 : Int), rowV x.2]
/-- What has come, the numbers up to some place having been looked at: each by its state then. -/
inductive ScanR (Rof : List MatE → List EntN) (b : Nat) : List Nat → List MatE → Prop
  | nil : ScanR Rof b [] []
  | skip {ip : List Nat} {op : List MatE} {n : Nat} : ScanR Rof b ip op → (∀ x, (Rof op)[n]? = some x → andB x.2 b = 0) → ScanR Rof b (ip ++ [n]) op
  | take {ip : List Nat} {op : List MatE} {n : Nat} {r : RowN} {u : Nat} : ScanR Rof b ip op → (Rof op)[n]? = some (r, u) → andB u b ≠ 0 → ScanR Rof b (ip ++ [n]) (op ++ [(n, r)])
def nextM (Rof : List MatE → List EntN) (b : Nat) (ns : List Nat) (op : List MatE) (x : MatE) (op' : List MatE) : Prop :=
  op' = op ++ [x] ∧ ∃ ip, ScanR Rof b ip op ∧ ip ++ [x.1] <+: ns ∧ ∃ u, (Rof op)[x.1]? = some (x.2, u) ∧ andB u b ≠ 0
abbrev TMat (B tb : Nat) (Rof : List MatE → List EntN) : GzT → List MatE → (Nat → Prop) → World → Prop := fun g op S W => TabI B g W S tb (Rof op)
/-- What Match has caught. -/
def MatchQ (mb tb : Nat) (q : RowN) (lo hi : Int) (b : Nat) (W : World) : Prop :=
  W.cell? ⟨mb, 0, none⟩ = some (tabP tb) ∧ (W.cell? ⟨mb + 1, 0, none⟩ = some (.int .u32 (q.1 : Int)) ∧ W.cell? ⟨mb + 1, 1, none⟩ = some (.int .u32 (q.2.1 : Int)) ∧ W.cell? ⟨mb + 1, 2, none⟩ = some (.int .u32 (q.2.2 : Int))) ∧
    W.cell? ⟨mb + 2, 0, none⟩ = some (.int .i64 lo) ∧ W.cell? ⟨mb + 3, 0, none⟩ = some (.int .i64 hi) ∧ W.cell? ⟨mb + 4, 0, none⟩ = some (.int .u8 (b : Int))
abbrev lbM (mb : Nat) : Array Value := #[.pointer (some ⟨mb, 0, none⟩), .pointer (some ⟨mb + 1, 0, none⟩), .pointer (some ⟨mb + 2, 0, none⟩), .pointer (some ⟨mb + 3, 0, none⟩), .pointer (some ⟨mb + 4, 0, none⟩)]
theorem MatchQ.kept {mb tb : Nat} {q : RowN} {lo hi : Int} {b : Nat} {W U : World} (h : MatchQ mb tb q lo hi b W) (hk : ∀ k, mb ≤ k → k < mb + 5 → U.heap[k]? = W.heap[k]?) : MatchQ mb tb q lo hi b U := by
  obtain ⟨h0, ⟨h1, h2, h3⟩, h4, h5, h6⟩ := h
  exact ⟨(World.cell?_of_block (a := ⟨mb, 0, none⟩) (hk mb (by omega) (by omega))).trans h0,
    ⟨(World.cell?_of_block (a := ⟨mb + 1, 0, none⟩) (hk (mb + 1) (by omega) (by omega))).trans h1, (World.cell?_of_block (a := ⟨mb + 1, 1, none⟩) (hk (mb + 1) (by omega) (by omega))).trans h2, (World.cell?_of_block (a := ⟨mb + 1, 2, none⟩) (hk (mb + 1) (by omega) (by omega))).trans h3⟩,
    (World.cell?_of_block (a := ⟨mb + 2, 0, none⟩) (hk (mb + 2) (by omega) (by omega))).trans h4, (World.cell?_of_block (a := ⟨mb + 3, 0, none⟩) (hk (mb + 3) (by omega) (by omega))).trans h5, (World.cell?_of_block (a := ⟨mb + 4, 0, none⟩) (hk (mb + 4) (by omega) (by omega))).trans h6⟩
theorem MatchQ.own {mb tb : Nat} {q : RowN} {lo hi : Int} {b : Nat} {W U : World} (h : MatchQ mb tb q lo hi b W) {row : Option Nat} (hg : W.grownBy U row) (hr : ∀ r, row = some r → ∃ o : Obj, W.heap[r]? = some o ∧ o.isCells = false) : MatchQ mb tb q lo hi b U := by
  obtain ⟨h0, ⟨h1, h2, h3⟩, h4, h5, h6⟩ := h
  exact ⟨cell_kept h0 hg hr, ⟨cell_kept h1 hg hr, cell_kept h2 hg hr, cell_kept h3 hg hr⟩, cell_kept h4 hg hr, cell_kept h5 hg hr, cell_kept h6 hg hr⟩
theorem room_of_none {F : Fence} (hd : F.depth = none) (k : Nat) : F.room k := fun d h => by rw [hd] at h; cases h
theorem yield_any {F : Fence} (hd : F.depth = none) {m : Nat} (m' l' : Nat) {P : Program} {l : Nat} {args : Array Value} {W : World} {R : Ending → World → Prop} (h : YieldAt F m P l args W R) : YieldAt (F.inRound l') m' P l args W R := by
  obtain ⟨fn, tmps, assign, body, hy, h1, h2⟩ := h
  exact ⟨fn, tmps, assign, body, hy, h1, fun c cs _ => h2 c cs (room_of_none hd _)⟩
theorem match_calls (tb : Nat) (q : RowN) (lo hi : Int) (b : Nat) (w : World) : Calls Try.prog 16 #[tabP tb, rowV q, .int .i64 lo, .int .i64 hi, .int .u8 (b : Int)] w fun e w' =>
    e = .returned (.func (.func 34) #[] (lbM w.heap.size)) ∧ Below w.heap.size w w' ∧ w'.heap.size = w.heap.size + 5 ∧ MatchQ w.heap.size tb q lo hi b w' := by
  have s1 : (w.alloc (.cells #[tabP tb] 24)).heap.size = w.heap.size + 1 := World.size_alloc _ _
  have s2 : ((w.alloc (.cells #[tabP tb] 24)).alloc (.cells (rowC q) 34)).heap.size = w.heap.size + 2 := by rw [World.size_alloc, s1]
  have s3 : (((w.alloc (.cells #[tabP tb] 24)).alloc (.cells (rowC q) 34)).alloc (.cells #[.int .i64 lo] 3)).heap.size = w.heap.size + 3 := by rw [World.size_alloc, s2]
  have s4 : ((((w.alloc (.cells #[tabP tb] 24)).alloc (.cells (rowC q) 34)).alloc (.cells #[.int .i64 lo] 3)).alloc (.cells #[.int .i64 hi] 3)).heap.size = w.heap.size + 4 := by rw [World.size_alloc, s3]
  have HEnd : Hid (∀ U : World, U = ((((w.alloc (.cells #[tabP tb] 24)).alloc (.cells (rowC q) 34)).alloc (.cells #[.int .i64 lo] 3)).alloc (.cells #[.int .i64 hi] 3)).alloc (.cells #[.int .u8 (b : Int)] 35) → Below w.heap.size w U ∧ U.heap.size = w.heap.size + 5 ∧ MatchQ w.heap.size tb q lo hi b U) := Lib.hid (fun U hU => by
    have a0 := heap_alloc_new w (.cells #[tabP tb] 24)
    have a1 := heap_alloc_new (w.alloc (.cells #[tabP tb] 24)) (.cells (rowC q) 34)
    have a2 := heap_alloc_new ((w.alloc (.cells #[tabP tb] 24)).alloc (.cells (rowC q) 34)) (.cells #[.int .i64 lo] 3)
    have a3 := heap_alloc_new (((w.alloc (.cells #[tabP tb] 24)).alloc (.cells (rowC q) 34)).alloc (.cells #[.int .i64 lo] 3)) (.cells #[.int .i64 hi] 3)
    have a4 := heap_alloc_new ((((w.alloc (.cells #[tabP tb] 24)).alloc (.cells (rowC q) 34)).alloc (.cells #[.int .i64 lo] 3)).alloc (.cells #[.int .i64 hi] 3)) (.cells #[.int .u8 (b : Int)] 35)
    rw [s1] at a1
    rw [s2] at a2
    rw [s3] at a3
    rw [s4] at a4
    have b4 : ∀ k, k < w.heap.size + 4 → U.heap[k]? = ((((w.alloc (.cells #[tabP tb] 24)).alloc (.cells (rowC q) 34)).alloc (.cells #[.int .i64 lo] 3)).alloc (.cells #[.int .i64 hi] 3)).heap[k]? := fun k hk => by rw [hU]; exact Below.heap_alloc _ _ _ (by rw [s4]; exact hk)
    have b3 : ∀ k, k < w.heap.size + 3 → U.heap[k]? = (((w.alloc (.cells #[tabP tb] 24)).alloc (.cells (rowC q) 34)).alloc (.cells #[.int .i64 lo] 3)).heap[k]? := fun k hk => (b4 k (by omega)).trans (Below.heap_alloc _ _ _ (by rw [s3]; exact hk))
    have b2 : ∀ k, k < w.heap.size + 2 → U.heap[k]? = ((w.alloc (.cells #[tabP tb] 24)).alloc (.cells (rowC q) 34)).heap[k]? := fun k hk => (b3 k (by omega)).trans (Below.heap_alloc _ _ _ (by rw [s2]; exact hk))
    have b1 : ∀ k, k < w.heap.size + 1 → U.heap[k]? = (w.alloc (.cells #[tabP tb] 24)).heap[k]? := fun k hk => (b2 k (by omega)).trans (Below.heap_alloc _ _ _ (by rw [s1]; exact hk))
    have hs : U.heap.size = w.heap.size + 5 := by rw [hU, World.size_alloc, s4]
    have c1 := (b2 _ (by omega)).trans a1
    refine ⟨?_, hs, cell_in ((b1 _ (by omega)).trans a0) rfl, ⟨cell_in c1 rfl, cell_in c1 rfl, cell_in c1 rfl⟩, cell_in ((b3 _ (by omega)).trans a2) rfl, cell_in ((b4 _ (by omega)).trans a3) rfl, cell_in (by rw [hU]; exact a4) rfl⟩
    rw [hU]
    exact (((((Below.refl _ w).alloc (Nat.le_refl _) _).alloc (by rw [s1]; omega) _).alloc (by rw [s2]; omega) _).alloc (by rw [s3]; omega) _).alloc (by rw [s4]; omega) _)
  clear s1 s2 s3 s4
  go_enter Try.func16, Try.ntmps16
  go_wp2
  go_ret
  exact ⟨by simp, HEnd.out _ rfl⟩
theorem grown_of_below {A C : World} (h : Below A.heap.size A C) : A.grownBy C none := ⟨h.os, h.tape, h.output, h.size, fun k hk _ => h.block k hk⟩
theorem and_none (b : Nat) : andB 0 b = 0 := by
  unfold andB bits
  have a : IntKind.u8.bits = 8 := rfl
  have c : IntKind.u8.signed = false := rfl
  simp [IntKind.wrap, a, c]
/-- Between two of the inner rounds. -/
def InM (B mb tb my n1 n2 : Nat) (q : RowN) (lo hi : Int) (b l : Nat) (Rof : List MatE → List EntN) (Loc : Nat → Prop) (Gz' : GzT) (J : List MatE → (Nat → Prop) → World → Prop) (ip : List Nat) (S : Nat → Prop) (Wx : World) : Prop :=
  ∃ op, ScanR Rof b ip op ∧ J op S Wx ∧ TabI B Gz' Wx S tb (Rof op) ∧ MatchQ mb tb q lo hi b Wx ∧ Wx.cell? ⟨my, 0, none⟩ = some (.func (.yield l) #[] #[]) ∧ n2 ≤ Wx.heap.size ∧ ∀ j, S j ∨ Loc j → ¬ ((mb ≤ j ∧ j < mb + 5) ∨ (n1 ≤ j ∧ j < n2))
set_option maxRecDepth 100000 in
set_option maxHeartbeats 4000000 in
theorem match_seq (n : Nat) (hn : 5 ≤ n) (B mb tb : Nat) (q : RowN) (hq : okN q) (lo hi : Int) (b : Nat) (hb : b < 256) (Rof : List MatE → List EntN) (S0 Loc : Nat → Prop) (w : World) (hBw : B ≤ w.heap.size) (hQ : MatchQ mb tb q lo hi b w) (hmb : mb + 5 ≤ w.heap.size)
    (hS0 : ∀ j, S0 j ∨ Loc j → j < w.heap.size ∧ ¬ (mb ≤ j ∧ j < mb + 5)) :
    SeqT Fence.wide n Try.prog 34 (lbM mb) encM (TMat B tb Rof) (nextM Rof b (candR (Rof []) q lo hi)) (fun op => ScanR Rof b (candR (Rof []) q lo hi) op) gz0 [] S0 Loc w := by
  intro l J Jx W hW hJ hJx hY h0 hT0
  have hQW := hQ.kept (U := W) fun k h1 h2 => hW.block k (by omega)
  have hWs := hW.size
  obtain ⟨my, hmy⟩ : ∃ my, my = W.heap.size := ⟨_, rfl⟩
  have hc0 := heap_alloc_new W (.cells #[.func (.yield l) #[] #[]] 72)
  have hb0 := (Below.refl W.heap.size W).alloc (Nat.le_refl _) (.cells #[.func (.yield l) #[] #[]] 72)
  have hs0 : (W.alloc (.cells #[.func (.yield l) #[] #[]] 72)).heap.size = W.heap.size + 1 := World.size_alloc _ _
  obtain ⟨W0, hW0⟩ : ∃ W0, W0 = W.alloc (.cells #[.func (.yield l) #[] #[]] 72) := ⟨_, rfl⟩
  rw [← hW0, ← hmy] at hc0
  rw [← hW0] at hb0 hs0
  have hQ0 := hQW.kept (U := W0) fun k h1 h2 => hb0.block k (by omega)
  have hT1 := hT0.below hb0
  have HM := Lib.hid (hT1.matched q hq lo hi)
  have hj0 : J [] S0 W0 := by rw [hW0]; exact hJ.alloc _ h0
  have HQ0 := Lib.hid hQ0
  obtain ⟨q0, ⟨q1, q2, q3⟩, q4, q5, q6⟩ := hQ0
  have HY := Lib.hid hY
  have HW0 := Lib.hid hW0
  have HMy := Lib.hid hmy
  clear hY hW0 hmy
  refine callsIn_of_wp_marks Try.func34 rfl trivial (wpIn_wide.2 ?_) rfl
  simp only [Try.ntmps34, List.size_toArray, List.length_cons, List.length_nil, Nat.reduceAdd, Nat.reduceSub, Array.replicate_succ, Array.replicate_zero, List.push_toArray, List.append_toArray, List.nil_append, List.cons_append]
  go_upto_region 1 with fail
  rw [← HW0.out, ← HMy.out]
  go_wp2_with (go_at_call 35; refine HM.out.mono ?_; rintro e w2 ⟨gf, lb, Q, Gz', rfl, hb2, hT2, hGz, hI⟩)
  refine (wpIn_wide (n := n)).1 ?_
  have hs2 := hb2.size
  have h3n : 1 ≤ n - 1 - 1 := by omega
  have hgW : W.grownBy w2 none := grown_of_below (hb0.trans (hb2.mono (by omega)))
  have hpriv0 : ∀ j, S0 j ∨ Loc j → ¬ ((mb ≤ j ∧ j < mb + 5) ∨ (W.heap.size ≤ j ∧ j < w2.heap.size)) := fun j hj h => by
    obtain ⟨h1, h2⟩ := hS0 j hj
    rcases h with h | h
    · exact h2 h
    · omega
  have hyc : w2.cell? ⟨my, 0, none⟩ = some (.func (.yield l) #[] #[]) := (hb2.cell (p := ⟨my, 0, none⟩) (by show my < _; rw [hs0, HMy.out]; omega)).trans (cell_in hc0 rfl)
  refine wpIn_rangeT (F := Fence.wide) (n := n) rfl (by omega) (gf := gf) (lb := lb) rfl trivial hI.ent (hI.seq (n - 1) (by omega) S0 Loc w2) (Below.refl _ _) (fun _ => rfl) ?ownT
    (InM B mb tb my W.heap.size w2.heap.size q lo hi b l Rof Loc Gz' J)
    ?ownI (fun c Wx => c = .ret ∧ Jx Wx) ?ownX (fun j hj => by have := (hS0 j (.inr hj)).1; omega) (fun j hj => by have := (hS0 j (.inl hj)).1; omega)
    ⟨[], .nil, hJ [] S0 W0 w2 none hj0 (grown_of_below hb2) (fun r e => by cases e), hT2, HQ0.out.kept (fun k h1 h2 => hb2.block k (by omega)), hyc, Nat.le_refl _, hpriv0⟩ hI.q
    (fun x a' _ => a' = { tmps := #[.func (.yield l) #[] #[], .pointer (some ⟨mb, 0, none⟩), .pointer (some ⟨mb + 1, 0, none⟩), .pointer (some ⟨mb + 2, 0, none⟩), .pointer (some ⟨mb + 3, 0, none⟩), .pointer (some ⟨mb + 4, 0, none⟩), .pointer (some ⟨my, 0, none⟩), .int .i64 (x : Int), undef, undef, tabP tb, rowV q, .int .i64 lo, .int .i64 hi, .func (.func gf) #[] lb, .int .i64 (x : Int), undef, undef, undef, undef, undef, undef, undef, undef, undef, undef, undef, undef, undef, undef, undef, undef, undef], defers := [] })
    (fun _ _ _ _ _ _ _ hs _ _ => hs) ?assign ?body ?done ?stop
  case ownT => exact fun _ st S A C row hq hg hr => hI.own A C row hq hg (fun r e => (hr r e).2)
  case ownI =>
    rintro ip S A C row ⟨op, h1, h2, h3, h4, h5, h6, h7⟩ hg hr
    exact ⟨op, h1, hJ op S A C row h2 hg (fun r e => ⟨by have := (hr r e).1; omega, (hr r e).2⟩), h3.own hg (fun r e => ⟨by have := (hr r e).1; omega, (hr r e).2⟩), h4.own hg (fun r e => (hr r e).2), cell_kept h5 hg (fun r e => (hr r e).2), Nat.le_trans h6 hg.size, h7⟩
  case ownX =>
    rintro c st S A C row ⟨h1, h2⟩ hg hr
    exact ⟨h1, hJx () (fun _ => True) A C row h2 hg (fun r e => ⟨by have := (hr r e).1; omega, (hr r e).2⟩)⟩
  case assign =>
    intro l' x Wx K hle hK
    gi_wp2
    exact hK _ _ (Below.refl _ _) rfl
  case body =>
    rintro l' g ip x ip' S a' Wx hl' ⟨rr, hrr⟩ hSl ⟨op, hsc, hj, htab, hmq, hmyc, hsz, hpr⟩ hQx ⟨rfl, hpre⟩ rfl
    dsimp only
    obtain ⟨⟨r, u⟩, hg⟩ : ∃ y, y = getE (Rof op) (x : Int) := ⟨_, rfl⟩
    have HG := Lib.hid (htab.getE (x : Int))
    rw [← hg] at HG
    have hu : u < 256 := by
      have : u = (getE (Rof op) (x : Int)).2 := by rw [← hg]
      rw [this]
      unfold getE
      rw [if_pos (by omega), Int.toNat_natCast, List.getD_eq_getElem?_getD]
      cases hx : (Rof op)[x]? with
      | none => exact Nat.zero_lt_succ _
      | some y => exact (htab.okR y (List.mem_of_getElem? hx)).2
    have hget : andB u b ≠ 0 → (Rof op)[x]? = some (r, u) := fun hne => by
      unfold getE at hg
      rw [if_pos (by omega), Int.toNat_natCast, List.getD_eq_getElem?_getD] at hg
      cases hx : (Rof op)[x]? with
      | none =>
        rw [hx] at hg
        injection hg with _ hg
        rw [hg] at hne
        exact absurd (and_none b) hne
      | some y =>
        rw [hx] at hg
        rw [hg]
        rfl
    obtain ⟨hand, hand2⟩ := andB_of hu hb
    obtain ⟨p0, ⟨p1, p2, p3⟩, p4, p5, p6⟩ := hmq
    have HMq : Hid (MatchQ mb tb q lo hi b Wx) := Lib.hid ⟨p0, ⟨p1, p2, p3⟩, p4, p5, p6⟩
    have HCells : Hid (∀ W3, Below Wx.heap.size Wx W3 → (W3.alloc (.cells #[.int .u32 (r.1 : Int), .int .u32 (r.2.1 : Int), .int .u32 (r.2.2 : Int)] 34)).cell? ⟨mb + 4, 0, none⟩ = some (.int .u8 (b : Int)) ∧ (W3.alloc (.cells #[.int .u32 (r.1 : Int), .int .u32 (r.2.1 : Int), .int .u32 (r.2.2 : Int)] 34)).cell? ⟨my, 0, none⟩ = some (.func (.yield l) #[] #[])) := Lib.hid (fun W3 h3 => by
      have h4 := h3.alloc h3.size (.cells #[.int .u32 (r.1 : Int), .int .u32 (r.2.1 : Int), .int .u32 (r.2.2 : Int)] 34)
      exact ⟨(h4.cell (p := ⟨mb + 4, 0, none⟩) (World.block_lt_of_cell? _ ⟨mb + 4, 0, none⟩ p6)).trans p6, (h4.cell (p := ⟨my, 0, none⟩) (World.block_lt_of_cell? _ ⟨my, 0, none⟩ hmyc)).trans hmyc⟩)
    have hWx := htab.lt
    have hkeepQ : ∀ (Wy : World) (S' : Nat → Prop) (R' : List EntN), (∀ k, k < w2.heap.size → ((mb ≤ k ∧ k < mb + 5) ∨ (W.heap.size ≤ k ∧ k < w2.heap.size)) → Wy.heap[k]? = Wx.heap[k]?) → TabI B Gz' Wy S' tb R' → Q Wy ∧ MatchQ mb tb q lo hi b Wy ∧ Wy.cell? ⟨my, 0, none⟩ = some (.func (.yield l) #[] #[]) := fun Wy S' R' hk hT =>
      ⟨hI.keep Wx Wy S' R' hQx (fun k h1 h2 => hk k h2 (.inr ⟨by omega, h2⟩)) hT, HMq.out.kept (fun k h1 h2 => hk k (by omega) (.inl ⟨h1, h2⟩)), (World.cell?_of_block (a := ⟨my, 0, none⟩) (hk my (by have := HMy.out; omega) (.inr (by have := HMy.out; omega)))).trans hmyc⟩
    by_cases hz : andB u b = 0
    · -- it is passed over
      have e1 : bits .and .u8 (u : Int) (b : Int) = 0 := by rw [hand, hz]; rfl
      have HEnd : Hid (∀ W3, Below Wx.heap.size Wx W3 → GoesT (TIn Q) (InM B mb tb my W.heap.size w2.heap.size q lo hi b l Rof Loc Gz' J) (fun c Wx => c = .ret ∧ Jx Wx) Loc w2.heap.size g (ip ++ [x]) S Wx .normal ⟨#[], []⟩ W3) := Lib.hid (fun W3 h3 => by
        have hT3 := htab.below h3
        obtain ⟨a1, a2, a3⟩ := hkeepQ W3 S (Rof op) (fun k hk _ => h3.block k (by omega)) hT3
        refine ⟨Turned.of_below h3, S, ⟨op, .skip hsc (fun y hy => ?_), hJ op S Wx W3 none hj (grown_of_below h3) (fun r e => by cases e), hT3, a2, a3, by have := h3.size; omega, hpr⟩, a1, fun j hj => .inl hj⟩
        have : y = (r, u) := by
          rw [hg]
          unfold getE
          rw [if_pos (by omega), Int.toNat_natCast, List.getD_eq_getElem?_getD, hy]
          rfl
        rw [this]
        exact hz)
      clear hget hand hand2 hj htab hg hu hkeepQ hQx hsc hpre hz
      gi_wp2_with (refine ⟨trivial, ?_⟩; gi_at_call 25; refine (CallsIn.inRound l' (callsIn_wide.2 HG.out)).mono ?_; rintro e W3 ⟨rfl, hb3⟩; obtain ⟨z1, z2⟩ := HCells.out _ hb3; replace hb3 := Lib.hid hb3)
      refine ⟨fun _ h => (by cases h), ?_⟩
      gi_wp2
      exact HEnd.out _ (hb3.out.alloc hb3.out.size _)
    · have e1 : (bits .and .u8 (u : Int) (b : Int) != 0) = true := by rw [hand, bne_iff_ne]; omega
      have HNx : Hid (∀ W3, Below Wx.heap.size Wx W3 → YieldAt (Fence.wide.inRound l') (n - 1 - 1 - 1) Try.prog l #[.int .i64 (x : Int), .agg #[.int .u32 (r.1 : Int), .int .u32 (r.2.1 : Int), .int .u32 (r.2.2 : Int)]] (W3.alloc (.cells #[.int .u32 (r.1 : Int), .int .u32 (r.2.1 : Int), .int .u32 (r.2.2 : Int)] 34)) fun e W' =>
          (e = .returned (.bool true) ∧ GoesT (TIn Q) (InM B mb tb my W.heap.size w2.heap.size q lo hi b l Rof Loc Gz' J) (fun c Wx => c = .ret ∧ Jx Wx) Loc w2.heap.size g (ip ++ [x]) S Wx .normal ⟨#[], []⟩ W') ∨ (e = .returned (.bool false) ∧ GoesT (TIn Q) (InM B mb tb my W.heap.size w2.heap.size q lo hi b l Rof Loc Gz' J) (fun c Wx => c = .ret ∧ Jx Wx) Loc w2.heap.size g (ip ++ [x]) S Wx .ret ⟨#[], []⟩ W')) := Lib.hid (fun W3 h3 => by
        have h4 := h3.alloc h3.size (.cells #[.int .u32 (r.1 : Int), .int .u32 (r.2.1 : Int), .int .u32 (r.2.2 : Int)] 34)
        have hgx := hget hz
        have hlx := grown_of_below h4
        have hy := HY.out Gz' op (x, r) (op ++ [(x, r)]) S _ (hJ op S Wx _ none hj hlx (fun r e => by cases e)) (htab.below h4) ⟨rfl, ip, hsc, hpre, u, hgx, hz⟩
        refine yield_any rfl _ l' (hy.mono ?_)
        rintro e W' (⟨rfl, S', hj', hT', hTu, hS'⟩ | ⟨rfl, hx', hTu⟩)
        · left
          have hTu2 : Turned (bothS S Loc) Wx W' := (Turned.of_below h4).trans hTu
          obtain ⟨a1, a2, a3⟩ := hkeepQ W' S' _ (fun k hk hp => hTu2.block k (by omega) (fun hj => hpr k hj hp)) hT'
          have h4s := h4.size
          refine ⟨rfl, hTu2, S', ⟨op ++ [(x, r)], .take hsc hgx hz, hj', hT', a2, a3, by have := hTu2.size; omega, fun j hj hp => ?_⟩, a1, fun j hj => ?_⟩
          · rcases hj with hj | hj
            · rcases hS' j hj with h5 | h5
              · exact hpr j (.inl h5) hp
              · omega
            · exact hpr j (.inr hj) hp
          · rcases hS' j hj with h5 | h5
            · exact .inl h5
            · exact .inr (by omega)
        · right
          exact ⟨rfl, ((Turned.of_below h4).x.trans hTu).mono (by omega), rfl, hx'⟩)
      clear hget hand hand2 hj htab hg hu hkeepQ hQx hsc hpre hz
      gi_wp2_with (refine ⟨trivial, ?_⟩; gi_at_call 25; refine (CallsIn.inRound l' (callsIn_wide.2 HG.out)).mono ?_; rintro e W3 ⟨rfl, hb3⟩; obtain ⟨z1, z2⟩ := HCells.out _ hb3; obtain ⟨fn, tmps, assign, body, hy, hR⟩ := HNx.out _ hb3; replace hR := Lib.hid hR; replace hb3 := Lib.hid hb3)
      refine hR.out.mono ?_
      rintro e W' (⟨rfl, hg1⟩ | ⟨rfl, hg1⟩)
      · replace hg1 := Lib.hid hg1
        gi_wp2
        exact hg1.out
      · replace hg1 := Lib.hid hg1
        gi_wp2
        exact hg1.out
  case done =>
    rintro D ip S Wx hD rfl ⟨op, hsc, hj, htab, hmq, hmyc, hsz, hpr⟩ hQx hSD hK
    gi_wp2
    have hrow : ∀ r, some D = some r → W.heap.size ≤ r ∧ ∃ o : Obj, Wx.heap[r]? = some o ∧ o.isCells = false := fun r e => by cases e; exact ⟨by omega, _, hK, rfl⟩
    have hj' := hJ op S Wx _ (some D) hj (grownBy_putObj' Wx D (.deferred none)) hrow
    have hT' := (htab.own (grownBy_putObj' Wx D (.deferred none)) (fun r e => ⟨by have := (hrow r e).1; omega, (hrow r e).2⟩)).less (Gz' := gz0) (fun g i v h => h.elim)
    refine ⟨by simp, .inl ⟨_, _, rfl, run_takeDeferred hK, ?_⟩⟩
    exact ⟨_, results_none rfl _ _ _, ⟨_, rfl⟩, .inl ⟨op, S, hsc, hj', hT'⟩⟩
  case stop =>
    rintro D c Wx hD ⟨rfl, hx⟩ hK
    gi_wp2
    have hrow : ∀ r, some D = some r → W.heap.size ≤ r ∧ ∃ o : Obj, Wx.heap[r]? = some o ∧ o.isCells = false := fun r e => by cases e; exact ⟨by omega, _, hK, rfl⟩
    have hx' := hJx () (fun _ => True) Wx _ (some D) hx (grownBy_putObj' Wx D (.deferred none)) hrow
    refine ⟨by simp, .inl ⟨_, _, rfl, run_takeDeferred hK, ?_⟩⟩
    exact ⟨_, results_none rfl _ _ _, ⟨_, rfl⟩, .inr hx'⟩
end Go.Proofs.Ytnmimagcmmdolaa
