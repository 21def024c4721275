/-
  CONTRACT OF the law's matches.
-/
import Derived.Test.YtnmimagcmmdolaaTbMat1
import Derived.Test.YtnmimagcmmdolaaTbRef3
import Derived.Test.YtnmimagcmmdolaaQuietR
namespace Go.Proofs.Ytnmimagcmmdolaa
open Go.RowKit Go.Shelf
set_option linter.unusedVariables false
set_option linter.unusedSimpArgs false
attribute [local go_sem] Oper.semAt_some

/-- Of a table that stays as it is, a scan tells just those that are not out. -/
def lvB (R : List EntN) (b n : Nat) : Bool := match R[n]? with
  | some x => andB x.2 b != 0
  | none => false
theorem scan_const {R : List EntN} {b : Nat} {ip : List Nat} {op : List MatE} (h : ScanR (fun _ => R) b ip op) : op.map (·.1) = ip.filter (lvB R b) := by
  induction h with
  | nil => rfl
  | @skip ip op n h hs ih =>
    rw [List.filter_append, ih]
    have : lvB R b n = false := by
      unfold lvB
      cases hx : R[n]? with
      | none => rfl
      | some x => simp [hs x hx]
    simp [List.filter_cons, this]
  | @take ip op n r u h hx hne ih =>
    rw [List.filter_append, List.map_append, ih]
    have : lvB R b n = true := by
      unfold lvB
      rw [hx]
      simp [hne]
    simp [List.filter_cons, this]
theorem matR_cand (R : List EntN) (q : RowN) (lo hi : Int) (b : Nat) : matR R q lo hi b = (candR R q lo hi).filter (lvB R b) := by
  unfold matR mtK candR
  rw [List.filter_filter]
  apply List.filter_congr
  intro n hn
  rw [List.mem_range] at hn
  obtain ⟨x, hx⟩ : ∃ x, R[n]? = some x := ⟨_, List.getElem?_eq_getElem hn⟩
  unfold mtB lvB
  rw [hx, getD_rows hx]
  dsimp only
  cases decide (lo ≤ (n : Int)) <;> cases decide ((n : Int) < hi) <;> cases (andB x.2 b != 0) <;> cases fitB q x.1 <;> rfl
/-- What comes next is the next one told. -/
theorem next_at {R : List EntN} {q : RowN} {lo hi : Int} {b : Nat} {op : List MatE} {x : MatE} {op' : List MatE} (h : nextM (fun _ => R) b (candR R q lo hi) op x op') : op' = op ++ [x] ∧ (matR R q lo hi b)[op.length]? = some x.1 ∧ ∃ u, R[x.1]? = some (x.2, u) := by
  obtain ⟨h1, ip, hs, hp, u, hu, hne⟩ := h
  refine ⟨h1, ?_, u, hu⟩
  obtain ⟨t, ht⟩ := hp
  have hlv : lvB R b x.1 = true := by unfold lvB; rw [hu]; simp [hne]
  have hl : op.length = (ip.filter (lvB R b)).length := by rw [← scan_const hs, List.length_map]
  rw [matR_cand, ← ht, List.filter_append, List.filter_append, hl]
  rw [List.getElem?_append_left (by simp [List.filter_cons, hlv])]
  rw [List.getElem?_append_right (Nat.le_refl _)]
  simp [List.filter_cons, hlv]
theorem done_len {R : List EntN} {q : RowN} {lo hi : Int} {b : Nat} {op : List MatE} (h : ScanR (fun _ => R) b (candR R q lo hi) op) : op.length = (matR R q lo hi b).length := by
  rw [matR_cand, ← scan_const h, List.length_map]
theorem row_neq (a : RowN) (w : World) : (binOp .neq 34 (rowV a) (rowV a)).run Try.prog w = .ok (.bool false) w := by
  have h := row_eql a a w
  simp only [binOp] at h ⊢
  cases he : (Op.equal 34 (rowV a) (rowV a)).run Try.prog w with
  | ok v w' =>
    simp [he] at h
    simp [he, h]
  | halt c w' => simp [he] at h
theorem turned_drewN {S : Nat → Prop} {w W : World} (h : Turned S w W) (k : Nat) : Turned S w (W.drewN k) := ⟨h.os, h.tape, h.output, h.size, h.block⟩
theorem run_func_nil8 (fn : Fn) (first cap : Array Value) (w : World) : (binOp .eql 50 (.func fn first cap) .nilFunc).run Try.prog w = .ok (.bool false) w := by kernel_rfl
/-- What stands all along. -/
structure Stands (B : Nat) (w : World) (S Q : Nat → Prop) (tb wb : Nat) (R : List EntN) (q : RowN) (lo hi : Int) (b n0 m1 : Nat) (ao : Option Addr) (cap : Nat) (ml : List Nat) (U : World) : Prop where
  c0 : U.cell? ⟨n0, 0, none⟩ = some (refP wb)
  res : U.heap[n0 + 2]? = some (.cells #[.bool false] 4 (0, 0))
  c13 : U.cell? ⟨m1, 0, none⟩ = some (.slice ao ml.length cap)
  mq : MatchQ (m1 + 1) tb q lo hi b U
  tab : TabI B gz0 U S tb R
  ref : RefI U Q wb R
  nums : RowK U 3 1 ao ml.length cap (intsC ml)
  bel : Below w.heap.size w U
theorem Stands.below {B : Nat} {w : World} {S Q : Nat → Prop} {tb wb : Nat} {R : List EntN} {q : RowN} {lo hi : Int} {b n0 m1 : Nat} {ao : Option Addr} {cap : Nat} {ml : List Nat} {U V : World} (h : Stands B w S Q tb wb R q lo hi b n0 m1 ao cap ml U) (hm : m1 + 6 ≤ U.heap.size) (hk : Below U.heap.size U V) : Stands B w S Q tb wb R q lo hi b n0 m1 ao cap ml V :=
  ⟨cellB hk h.c0, (hk.block _ (Array.getElem?_eq_some_iff.1 h.res).1).trans h.res, cellB hk h.c13, h.mq.kept (fun k h1 h2 => hk.block k (by omega)), h.tab.below hk, h.ref.below hk, h.nums.below hk, h.bel.trans (hk.mono h.bel.size)⟩
set_option maxRecDepth 100000 in
set_option maxHeartbeats 4000000 in
theorem matches_any {B : Nat} {w : World} {S Q : Nat → Prop} {tb wb : Nat} {R : List EntN} (hT : TabI B gz0 w S tb R) (hRf : RefI w Q wb R) (hBw : B ≤ w.heap.size) (q : RowN) (hq : okN q) (lo hi : Int) (b : Nat) (hb : b < 256) (hR : R.length ≤ 1000000) :
    Calls Try.prog 13 #[tabP tb, refP wb, rowV q, .int .i64 lo, .int .i64 hi, .int .u8 (b : Int)] w fun e w' => e = .returned (.bool true) ∧ Below w.heap.size w w' := by
  obtain ⟨n0, hn0⟩ : ∃ n0, n0 = w.heap.size := ⟨_, rfl⟩
  -- the three first blocks
  have s1 : (w.alloc (.cells #[refP wb] 26)).heap.size = w.heap.size + 1 := World.size_alloc _ _
  have s2 : ((w.alloc (.cells #[refP wb] 26)).alloc (.cells (rowC q) 34)).heap.size = w.heap.size + 2 := by rw [World.size_alloc, s1]
  have a0 := heap_alloc_new w (.cells #[refP wb] 26)
  have a1 := heap_alloc_new (w.alloc (.cells #[refP wb] 26)) (.cells (rowC q) 34)
  have a2 := heap_alloc_new ((w.alloc (.cells #[refP wb] 26)).alloc (.cells (rowC q) 34)) (.cells #[.bool false] 4)
  rw [s1] at a1
  rw [s2] at a2
  obtain ⟨W0, hW0⟩ : ∃ W0, W0 = ((w.alloc (.cells #[refP wb] 26)).alloc (.cells (rowC q) 34)).alloc (.cells #[.bool false] 4) := ⟨_, rfl⟩
  have hb0 : Below w.heap.size w W0 := by
    rw [hW0]
    exact ((((Below.refl _ w).alloc (Nat.le_refl _) _).alloc (by rw [s1]; omega) _).alloc (by rw [s2]; omega) _)
  have hs0 : W0.heap.size = n0 + 3 := by rw [hW0, World.size_alloc, s2, hn0]
  have d0 : W0.heap[n0]? = some (.cells #[refP wb] 26 (0, 0)) := by
    rw [hW0, hn0]
    exact ((Below.heap_alloc _ _ _ (by rw [s2]; omega)).trans (Below.heap_alloc _ _ _ (by rw [s1]; omega))).trans a0
  have d1 : W0.heap[n0 + 1]? = some (.cells (rowC q) 34 (0, 0)) := by
    rw [hW0, hn0]
    exact (Below.heap_alloc _ _ _ (by rw [s2]; omega)).trans a1
  have d2 : W0.heap[n0 + 2]? = some (.cells #[.bool false] 4 (0, 0)) := by
    rw [hW0, hn0]
    exact a2
  have HRef : Hid (∀ U, Below W0.heap.size W0 U → U.cell? ⟨n0, 0, none⟩ = some (refP wb) ∧ U.cell? ⟨n0 + 1, 0, none⟩ = some (.int .u32 (q.1 : Int)) ∧ U.cell? ⟨n0 + 1, 1, none⟩ = some (.int .u32 (q.2.1 : Int)) ∧ U.cell? ⟨n0 + 1, 2, none⟩ = some (.int .u32 (q.2.2 : Int)) ∧ U.heap[n0 + 2]? = some (.cells #[.bool false] 4 (0, 0)) ∧ Below w.heap.size w U) := Lib.hid (fun U hU => by
    have k0 := (hU.block n0 (by omega)).trans d0
    have k1 := (hU.block (n0 + 1) (by omega)).trans d1
    have k2 := (hU.block (n0 + 2) (by omega)).trans d2
    exact ⟨cell_in k0 rfl, cell_in k1 rfl, cell_in k1 rfl, cell_in k1 rfl, k2, hb0.trans (hU.mono (by omega))⟩)
  have HM := Lib.hid ((hRf.below hb0).match_ q lo hi b hb hR)
  have HMa : Hid (∀ U, Calls Try.prog 16 #[tabP tb, rowV q, .int .i64 lo, .int .i64 hi, .int .u8 (b : Int)] U fun e w' => e = .returned (.func (.func 34) #[] (lbM U.heap.size)) ∧ Below U.heap.size U w' ∧ w'.heap.size = U.heap.size + 5 ∧ MatchQ U.heap.size tb q lo hi b w') := Lib.hid (fun U => match_calls tb q lo hi b U)
  obtain ⟨z0, z1, z2, z3, z4, z5⟩ := HRef.out W0 (Below.refl _ _)
  have HW0 := Lib.hid hW0
  have HN0 := Lib.hid hn0
  have HS0 := Lib.hid hs0
  have HT := Lib.hid hT
  have HRf := Lib.hid hRf
  clear a0 a1 a2 s1 s2 hb0 hs0 d0 d1 d2 hW0 hn0 hT hRf z4 z5
  refine (callsIn_wide (n := 9)).1 (callsIn_of_wp_marks Try.func13 rfl trivial (wpIn_wide.2 ?_) rfl)
  simp only [Try.ntmps13, List.size_toArray, List.length_cons, List.length_nil, Nat.reduceAdd, Nat.reduceSub, Array.replicate_succ, Array.replicate_zero, List.push_toArray, List.append_toArray, List.nil_append, List.cons_append]
  go_upto_region 1 with fail
  rw [← HW0.out, ← HN0.out]
  have hfn := run_func_nil8
  obtain ⟨ml, hml⟩ : ∃ ml, ml = matR R q lo hi b := ⟨_, rfl⟩
  rw [← hml] at HM
  have HMl := Lib.hid hml
  clear hml
  go_wp2_with (first
    | (go_at_call 11; refine HM.out.mono ?_; rintro e w1 ⟨v, rfl, ⟨ao, cap, rfl, hnr, hna⟩, hb1⟩; obtain ⟨x0, x1, x2, x3, x4, x5⟩ := HRef.out (w1.alloc (.cells #[.slice ao ml.length cap] 41)) (hb1.alloc hb1.size _); have x13 := heap_alloc_new w1 (.cells #[.slice ao ml.length cap] 41); have hnr' := Lib.hid hnr; have hs1 : Hid ((w1.alloc (.cells #[.slice ao ml.length cap] 41)).heap.size = w1.heap.size + 1) := Lib.hid (World.size_alloc _ _); replace x5 := Lib.hid x5; replace hb1 := Lib.hid hb1; replace x13 := Lib.hid x13; replace x4 := Lib.hid x4; clear hnr)
    | (go_at_call 16; refine (HMa.out _).mono ?_; rintro e w2 ⟨rfl, hb2, hs2, hmq⟩; rw [hs1.out] at hs2 hmq ⊢; replace hb2 := Lib.hid hb2; replace hs2 := Lib.hid hs2; replace hmq := Lib.hid hmq))
  -- LOOP
  obtain ⟨m1, hm1⟩ : ∃ m1, m1 = w1.heap.size := ⟨_, rfl⟩
  rw [← hm1] at hs1 hs2 hmq ⊢
  have hs2' : w2.heap.size = m1 + 6 := by rw [hs2.out]
  have hSt0 : Stands B w S Q tb wb R q lo hi b n0 m1 ao cap ml w2 := by
    have e1 := x13.out
    rw [← hm1] at e1
    have hW1s : (w1.alloc (.cells #[.slice ao ml.length cap] 41)).heap.size = m1 + 1 := hs1.out
    have h2 := hb2.out
    have hbw : Below w.heap.size w w2 := x5.out.trans (h2.mono x5.out.size)
    refine ⟨cellB h2 x0, (h2.block _ (Array.getElem?_eq_some_iff.1 x4.out).1).trans x4.out, (h2.cell (p := ⟨m1, 0, none⟩) (by show m1 < _; rw [hW1s]; omega)).trans (cell_in e1 rfl), hmq.out, HT.out.below hbw, HRf.out.below hbw, ?_, hbw⟩
    exact (hnr'.out.below ((Below.refl _ w1).alloc (Nat.le_refl _) _)).below h2
  have hn0s : n0 = w.heap.size := HN0.out
  have hw0m : n0 + 3 ≤ m1 := by rw [hm1, ← HS0.out]; exact hb1.out.size
  have HSt := Lib.hid hSt0
  have HS2 := Lib.hid hs2'
  have HNs := Lib.hid hn0s
  have HWm := Lib.hid hw0m
  have HM1 := Lib.hid hm1
  clear hs2' hSt0 hn0s hw0m hm1 hs1 hs2 hmq hb1 hb2 hnr' hna x13 x4 x5 x0 x1 x2 x3 z0 z1 z2 z3 HRef HM HMa hfn
  refine wp_loop_ghost_k (fun g a wr => ∃ (k : Nat) (Ds : List Nat) (u16 u17 u18 u33 u34 u35 u36 u37 u38 u39 u40 u41 u42 u43 u44 u45 u46 u47 u48 u49 u50 u51 u52 u53 u54 u55 u56 u57 u58 u59 u60 u61 u62 u63 u64 u65 u66 u67 u68 : Value), k ≤ 2 ∧ 2 - k ≤ g ∧ Ds.length = k ∧ Ds.Nodup ∧ a = { tmps := #[tabP tb, refP wb, rowV q, .int .i64 lo, .int .i64 hi, .int .u8 (b : Int), undef, (.pointer (some ⟨n0, 0, none⟩)), (.pointer (some ⟨n0 + 1, 0, none⟩)), undef, undef, undef, (.pointer (some ⟨n0 + 1 + 1, 0, none⟩)), (.pointer (some ⟨m1, 0, none⟩)), (.func (.func 34) #[] (lbM (m1 + 1))), .int .i64 (k : Int), u16, u17, u18, refP wb, (.agg #[.int .u32 (q.1 : Int), .int .u32 (q.2.1 : Int), .int .u32 (q.2.2 : Int)]), .int .i64 lo, .int .i64 hi, .int .u8 (b : Int), .slice ao ml.length cap, tabP tb, (.agg #[.int .u32 (q.1 : Int), .int .u32 (q.2.1 : Int), .int .u32 (q.2.2 : Int)]), .int .i64 lo, .int .i64 hi, .int .u8 (b : Int), (.func (.func 34) #[] (lbM (m1 + 1))), (.func (.func 34) #[] (lbM (m1 + 1))), .bool false, u33, u34, u35, u36, u37, u38, u39, u40, u41, u42, u43, u44, u45, u46, u47, u48, u49, u50, u51, u52, u53, u54, u55, u56, u57, u58, u59, u60, u61, u62, u63, u64, u65, u66, u67, u68], defers := Ds.map fun D => { target := .collected D, args := #[] } } ∧ Below w2.heap.size w2 wr ∧ ∀ D ∈ Ds, w2.heap.size ≤ D ∧ wr.heap[D]? = some (.deferred (some []))) 2
    ⟨0, [], undef, undef, undef, undef, undef, undef, undef, undef, undef, undef, undef, undef, undef, undef, undef, undef, undef, undef, undef, undef, undef, undef, undef, undef, undef, undef, undef, undef, undef, undef, undef, undef, undef, undef, undef, undef, undef, undef, undef, by omega, by omega, rfl, List.nodup_nil, rfl, Below.refl _ _, fun D hD => absurd hD (by simp)⟩ ?round
  case round =>
    intro gk a wr hrel J K hJ hK
    obtain ⟨k, Ds, u16, u17, u18, u33, u34, u35, u36, u37, u38, u39, u40, u41, u42, u43, u44, u45, u46, u47, u48, u49, u50, u51, u52, u53, u54, u55, u56, u57, u58, u59, u60, u61, u62, u63, u64, u65, u66, u67, u68, hk, hg, hDl, hDn, rfl, hbr, hDs⟩ := hrel
    dsimp only
    have hst := HSt.out.below (by rw [HS2.out]; exact Nat.le_refl _) hbr
    have HStr := Lib.hid hst
    have HBr := Lib.hid hbr
    have HDs := Lib.hid hDs
    have HDn := Lib.hid hDn
    have HDl := Lib.hid hDl
    clear hst hbr hDs hDn hDl
    by_cases hk2 : k < 2
    · have e1 : decide ((k : Int) < 2) = true := by simp; omega
      have s16 : (wr.alloc (.cells #[.int .i64 0] 3)).heap.size = wr.heap.size + 1 := World.size_alloc _ _
      have d16 := heap_alloc_new wr (.cells #[.int .i64 0] 3)
      have hba := (Below.refl wr.heap.size wr).alloc (Nat.le_refl _) (.cells #[.int .i64 0] 3)
      obtain ⟨wx, hwx⟩ : ∃ wx, wx = wr.alloc (.cells #[.int .i64 0] 3) := ⟨_, rfl⟩
      rw [← hwx] at s16 d16 hba
      obtain ⟨b16, hb16⟩ : ∃ b16, b16 = wr.heap.size := ⟨_, rfl⟩
      rw [← hb16] at d16
      have HWx := Lib.hid hwx
      have HB16 := Lib.hid hb16
      have HSx := Lib.hid s16
      have HBa := Lib.hid hba
      clear hwx hb16 s16 hba
      go_upto_region 9 with fail
      rw [← HWx.out, ← HB16.out]
      go_upto_region 9 with fail
      go_wp2
      refine (wpIn_wide (n := 9)).1 ?_
      have hbx : Below w2.heap.size w2 wx := HBr.out.trans (HBa.out.mono HBr.out.size)
      have hstx := HSt.out.below (by rw [HS2.out]; exact Nat.le_refl _) hbx
      have hwS : w.heap.size + 9 ≤ w2.heap.size := by have := HS2.out; have := HNs.out; have := HWm.out; omega
      have hb16 : w2.heap.size ≤ b16 ∧ b16 < wx.heap.size := by rw [HSx.out, HB16.out]; have := HBr.out.size; omega
      have hSlt := HT.out.lt
      have hQlt := HRf.out.lt
      have h3n : 1 ≤ 9 - 1 - 1 := by omega
      have hsq := match_seq (9 - 1) (by omega) B (m1 + 1) tb q hq lo hi b hb (fun _ => R) S (fun j => j = b16) wx (by omega) hstx.mq (by have := HS2.out; omega) (fun j hj => by
        rcases hj with hj | hj
        · have := hSlt j hj; have := HNs.out; have := HWm.out; omega
        · subst hj; have := HS2.out; omega)
      have HSq := Lib.hid hsq
      clear hsq
      refine wpIn_rangeT (F := Fence.wide) (n := 9) rfl (by omega) (gf := 34) (lb := lbM (m1 + 1)) rfl trivial (enters_of Try.func34 (by kernel_rfl) rfl) HSq.out (Below.refl _ _) (fun _ => rfl) ?ownT
        (fun op S' Wx => (∀ j, S' j → j < w.heap.size) ∧ Below w2.heap.size w2 Wx ∧ Wx.cell? ⟨b16, 0, none⟩ = some (.int .i64 ((op.length : Nat) : Int)) ∧ Wx.frozen? ⟨b16, 0, none⟩ = false ∧ ∀ D ∈ Ds, Wx.heap[D]? = some (.deferred (some []))) ?ownI (fun _ _ => False) ?ownX (fun j hj => by subst hj; exact hb16.2) (fun j hj => by have := hSlt j hj; omega)
        ⟨hSlt, hbx, cell_in d16 rfl, free_in d16 0, fun D hD => (HBa.out.block D (Array.getElem?_eq_some_iff.1 (HDs.out D hD).2).1).trans (HDs.out D hD).2⟩ hstx.tab
        (fun x a' Wx => ∃ br, br ≠ b16 ∧ (Wx.cell? ⟨br, 0, none⟩ = some (.int .u32 (x.2.1 : Int)) ∧ Wx.cell? ⟨br, 1, none⟩ = some (.int .u32 (x.2.2.1 : Int)) ∧ Wx.cell? ⟨br, 2, none⟩ = some (.int .u32 (x.2.2.2 : Int))) ∧ a' = { tmps := #[tabP tb, refP wb, rowV q, .int .i64 lo, .int .i64 hi, .int .u8 (b : Int), undef, (.pointer (some ⟨n0, 0, none⟩)), (.pointer (some ⟨n0 + 1, 0, none⟩)), undef, undef, undef, (.pointer (some ⟨n0 + 1 + 1, 0, none⟩)), (.pointer (some ⟨m1, 0, none⟩)), (.func (.func 34) #[] (lbM (m1 + 1))), .int .i64 (k : Int), .pointer (some ⟨b16, 0, none⟩), .int .i64 (x.1 : Int), .pointer (some ⟨br, 0, none⟩), refP wb, (.agg #[.int .u32 (q.1 : Int), .int .u32 (q.2.1 : Int), .int .u32 (q.2.2 : Int)]), .int .i64 lo, .int .i64 hi, .int .u8 (b : Int), .slice ao ml.length cap, tabP tb, (.agg #[.int .u32 (q.1 : Int), .int .u32 (q.2.1 : Int), .int .u32 (q.2.2 : Int)]), .int .i64 lo, .int .i64 hi, .int .u8 (b : Int), (.func (.func 34) #[] (lbM (m1 + 1))), (.func (.func 34) #[] (lbM (m1 + 1))), .bool false, .int .i64 (k : Int), .bool true, u35, u36, (.func (.func 34) #[] (lbM (m1 + 1))), .int .i64 (x.1 : Int), .agg #[.int .u32 (x.2.1 : Int), .int .u32 (x.2.2.1 : Int), .int .u32 (x.2.2.2 : Int)], u40, u41, u42, u43, u44, u45, u46, u47, u48, u49, u50, u51, u52, u53, u54, u55, u56, u57, u58, u59, u60, u61, u62, u63, u64, u65, u66, u67, u68], defers := [] }) ?ownA ?assign ?body ?done ?stop
      case ownT => exact fun g st S' A C row hq hg hr => hq.own hg (fun r e => ⟨by have := (hr r e).1; omega, (hr r e).2⟩)
      case ownI =>
        rintro op S' A C row ⟨h1, h2, h3, h4, h5⟩ hg hr
        refine ⟨h1, ⟨hg.os.trans h2.os, hg.tape.trans h2.tape, hg.output.trans h2.output, Nat.le_trans h2.size hg.size, fun j hj => (hg.block j (by have := h2.size; omega) (fun e => by have := (hr _ e.symm).1; omega)).trans (h2.block j hj)⟩, cell_kept h3 hg (fun r e => (hr r e).2), (frozen_kept h3 hg (fun r e => (hr r e).2)).trans h4, fun D hD => ?_⟩
        have hDl : D < wx.heap.size := Nat.lt_of_lt_of_le (Array.getElem?_eq_some_iff.1 (HDs.out D hD).2).1 HBa.out.size
        exact (hg.block D (Array.getElem?_eq_some_iff.1 (h5 D hD)).1 (fun e => by have := (hr _ e.symm).1; omega)).trans (h5 D hD)
      case ownX => exact fun c st S' A C row h hg hr => h.elim
      case ownA =>
        rintro x a' st S' A C row ⟨br, h1, ⟨h2, h3, h4⟩, h5⟩ hg hr
        exact ⟨br, h1, ⟨cell_kept h2 hg (fun r e => (hr r e).2), cell_kept h3 hg (fun r e => (hr r e).2), cell_kept h4 hg (fun r e => (hr r e).2)⟩, h5⟩
      case assign =>
        intro l x Wx Kx hle hKx
        dsimp only
        gi_wp2
        have hcr := heap_alloc_new Wx (.cells #[.int .u32 (x.2.1 : Int), .int .u32 (x.2.2.1 : Int), .int .u32 (x.2.2.2 : Int)] 34)
        exact hKx _ _ ((Below.refl _ _).alloc (Nat.le_refl _) _) ⟨Wx.heap.size, by omega, ⟨cell_in hcr rfl, cell_in hcr rfl, cell_in hcr rfl⟩, rfl⟩
      case body =>
        rintro l g op x op' S' a' Wx hl ⟨rr, hrr⟩ hSl ⟨h1, h2, h3, h4, h5⟩ hTx hnx ⟨br, hbr1, ⟨r0, r1, r2⟩, rfl⟩
        obtain ⟨rfl, hat, u, hu⟩ := next_at hnx
        rw [← HMl.out] at hat
        obtain ⟨y, z⟩ := x
        dsimp only at *
        have hsX := HSt.out.below (by rw [HS2.out]; exact Nat.le_refl _) h2
        have hyl := (List.getElem?_eq_some_iff.1 hu).1
        have hol := (List.getElem?_eq_some_iff.1 hat).1
        have hml2 : ml.length ≤ R.length := by rw [HMl.out]; exact mtK_len _ _ _ _ _ _
        obtain ⟨gm, om, hao, hcm, _⟩ := hsX.nums.at_ (by omega)
        have x13 := hsX.c13
        rw [hao] at x13
        have xm := hcm op.length (.int .i64 (y : Int)) (by unfold intsC; rw [List.getElem?_map, hat]; rfl)
        have x0 := hsX.c0
        obtain ⟨ra, rc, ba, bc, hrm⟩ := hsX.ref
        obtain ⟨gr, or, g2, o2, hra, _, hcs, _⟩ := hrm.at_ (by omega)
        obtain ⟨y0, y1, y2, _⟩ := hcs y _ hu
        dsimp only at y0 y1 y2
        have xw : Wx.cell? ⟨wb, 0, none⟩ = some (.slice (some ⟨gr, or, none⟩) R.length rc) := by rw [← hra]; exact cell_in hrm.blk rfl
        have hrn := row_neq z
        have hTx' := Lib.hid hTx
        have H1 := Lib.hid h1
        have H2 := Lib.hid h2
        have H5 := Lib.hid h5
        have t0 : decide ((op.length : Int) ≥ (ml.length : Int)) = false := by simp; omega
        have t0' : decide ((ml.length : Int) ≤ (op.length : Int)) = false := by simp; omega
        have t0n : decide (ml.length ≤ op.length) = false := by simp; omega
        have j0 : (0 : Int) ≤ (op.length : Int) := by omega
        have j1 : (op.length : Int) < (ml.length : Int) := by omega
        have j2 : (0 : Int) ≤ (y : Int) := by omega
        have j3 : (y : Int) < (R.length : Int) := by omega
        have j4 : op.length + 1 ≤ 1000000001 := by omega
        have HOp : Hid ((op ++ [(y, z)]).length = op.length + 1) := Lib.hid (by rw [List.length_append]; rfl)
        have HB := Lib.hid hb16
        have HTL : Hid (∀ j, S' j → j < Wx.heap.size) := Lib.hid hTx.lt
        have HDb : Hid (∀ D ∈ Ds, D ≠ b16) := Lib.hid (fun D hD e => by
          have := (Array.getElem?_eq_some_iff.1 (HDs.out D hD).2).1
          rw [e, HB16.out] at this
          omega)
        clear hnx hat hu hsX hyl hol hml2 hao hcm hra hcs hrm hTx h1 h2 h5 hbx hstx hSlt hQlt hwS hb16 d16
        generalize op.length = m at *
        gi_upto_region 12 with fail
        refine wpIn_region_quietR (by kernel_rfl) (by kernel_rfl) (by kernel_rfl) ?_
        repeat (gi_big_quiet_step (fail))
        refine wpQuietIn_nil ?_
        rintro _ ⟨nq, rfl⟩
        gi_wp2
        have hTu : Turned (bothS S' (fun j => j = b16)) Wx ((Wx.drewN nq).setCell ⟨b16, 0, none⟩ (.int .i64 ((m : Int) + 1))) := (turned_drewN (Turned.refl) nq).trans (Turned.set (a := ⟨b16, 0, none⟩) (.inr rfl) _)
        have hBe : Below w2.heap.size Wx ((Wx.drewN nq).setCell ⟨b16, 0, none⟩ (.int .i64 ((m : Int) + 1))) := (below_drewN (Below.refl _ _) nq).setCell (p := ⟨b16, 0, none⟩) HB.out.1 _
        refine ⟨hTu, S', ⟨H1.out, H2.out.trans hBe, ?_, ?_, fun D hD => ?_⟩, ?_, fun j hj => .inl hj⟩
        · rw [HOp.out]
          exact World.cell?_setCell_same' _ _ _ (by rw [show (Wx.drewN nq).cell? ⟨b16, 0, none⟩ = Wx.cell? ⟨b16, 0, none⟩ from rfl, h3]; rfl)
        · rw [World.frozen?_setCell]; exact h4
        · exact (Below.heap_setCell _ _ _ _ (HDb.out D hD)).trans (H5.out D hD)
        · have hS2 : ∀ j, S' j → j ≠ b16 := fun j hj e => by
            have := H1.out j hj
            have := HB.out.1
            have := HS2.out
            have := HNs.out
            have := HWm.out
            omega
          exact hTx'.out.kept hTu.size (fun j hj => Below.heap_setCell _ _ _ _ (hS2 j hj))
      case done =>
        rintro D op S' Wx hD hdn ⟨h1, h2, h3, h4, h5⟩ hTx hSD hK2
        have hlen := done_len hdn
        rw [← HMl.out] at hlen
        have hsX := HSt.out.below (by rw [HS2.out]; exact Nat.le_refl _) h2
        have x13 := hsX.c13
        rw [hlen] at h3
        have HK1 : Hid ((Value.int .i64 ((k : Int) + 1)) = .int .i64 ((k + 1 : Nat) : Int)) := Lib.hid (by simp)
        have HD3 : Hid (∀ D' ∈ D :: Ds, w2.heap.size ≤ D' ∧ Wx.heap[D']? = some (.deferred (some []))) := Lib.hid (fun D' hD' => by
          rcases List.mem_cons.1 hD' with rfl | hD'
          · exact ⟨by omega, hK2⟩
          · exact ⟨(HDs.out D' hD').1, h5 D' hD'⟩)
        have HN3 : Hid ((D :: Ds).Nodup) := Lib.hid (List.nodup_cons.2 ⟨fun hm => by
          have := (Array.getElem?_eq_some_iff.1 (HDs.out D hm).2).1
          have := HSx.out
          omega, HDn.out⟩)
        have H2 := Lib.hid h2
        have i3 : k + 1 ≤ 3 := by omega
        clear hsX h5 hTx hSD h1 h2 hdn hbx hstx hSlt hQlt hwS hb16 d16
        go_wp2
        rw [HK1.out]
        exact Handed.intro (2 - (k + 1)) (by omega) (hJ _ _ _ ⟨k + 1, D :: Ds, _, _, _, _, _, _, _, _, _, _, _, _, _, _, _, _, _, _, _, _, _, _, _, _, _, _, _, _, _, _, _, _, _, _, _, _, _, _, _, by omega, Nat.le_refl _, by rw [List.length_cons, HDl.out], HN3.out, rfl, H2.out, HD3.out⟩)
      case stop =>
        rintro D c Wx hD h hK2
        exact h.elim
    · have e1 : decide ((k : Int) < 2) = false := by simp; omega
      obtain ⟨D2, D1, rfl⟩ : ∃ D2 D1, Ds = [D2, D1] := by
        have := HDl.out
        match Ds, this with
        | [D2, D1], _ => exact ⟨D2, D1, rfl⟩
        | [], h => simp at h; omega
        | [_], h => simp at h; omega
        | _ :: _ :: _ :: _, h => simp at h; omega
      have x2 : wr.cell? ⟨n0 + 1 + 1, 0, none⟩ = some (.bool false) := cell_in HStr.out.res rfl
      have f2 : ∀ i, wr.frozen? ⟨n0 + 1 + 1, i, none⟩ = false := fun i => free_in HStr.out.res i
      have d2 := HDs.out D2 (by simp)
      have d1 := HDs.out D1 (by simp)
      have hne : D1 ≠ D2 := fun e => by
        have := HDn.out
        rw [e] at this
        simp at this
      have hnD : n0 + 2 < w2.heap.size := by have := HS2.out; have := HWm.out; omega
      have hwn : w.heap.size ≤ n0 + 2 := by rw [HNs.out]; omega
      have HE : Hid ((wr.setCell ⟨n0 + 1 + 1, 0, none⟩ (.bool true)).heap[D2]? = some (.deferred (some [])) ∧ ((wr.setCell ⟨n0 + 1 + 1, 0, none⟩ (.bool true)).putObj D2 (.deferred none)).heap[D1]? = some (.deferred (some [])) ∧ (((wr.setCell ⟨n0 + 1 + 1, 0, none⟩ (.bool true)).putObj D2 (.deferred none)).putObj D1 (.deferred none)).cell? ⟨n0 + 1 + 1, 0, none⟩ = some (.bool true) ∧ Below w.heap.size w (((wr.setCell ⟨n0 + 1 + 1, 0, none⟩ (.bool true)).putObj D2 (.deferred none)).putObj D1 (.deferred none))) := Lib.hid (by
        have k2 : (wr.setCell ⟨n0 + 1 + 1, 0, none⟩ (.bool true)).heap[D2]? = some (.deferred (some [])) := (Below.heap_setCell _ _ _ _ (show D2 ≠ n0 + 1 + 1 by omega)).trans d2.2
        have k1 : (wr.setCell ⟨n0 + 1 + 1, 0, none⟩ (.bool true)).heap[D1]? = some (.deferred (some [])) := (Below.heap_setCell _ _ _ _ (show D1 ≠ n0 + 1 + 1 by omega)).trans d1.2
        have k1' := (World.putObj_heap_other (w := wr.setCell ⟨n0 + 1 + 1, 0, none⟩ (.bool true)) (o := .deferred none) hne).trans k1
        have c0 := World.cell?_setCell_same' wr ⟨n0 + 1 + 1, 0, none⟩ (.bool true) (by rw [x2]; rfl)
        have c1 := cell_kept c0 (grownBy_putObj' _ D2 (.deferred none)) (fun r e => by cases e; exact ⟨_, k2, rfl⟩)
        have c2 := cell_kept c1 (grownBy_putObj' _ D1 (.deferred none)) (fun r e => by cases e; exact ⟨_, k1', rfl⟩)
        have hb1 := HStr.out.bel.setCell (p := ⟨n0 + 1 + 1, 0, none⟩) (show w.heap.size ≤ n0 + 1 + 1 by omega) (.bool true)
        have hwl := HSt.out.bel.size
        have hwr := HBr.out.size
        have d21 := d2.1
        have d11 := d1.1
        exact ⟨k2, k1', c2, (hb1.trans (grown_below (grownBy_putObj' _ D2 (.deferred none)) hb1.size (by omega))).trans (grown_below (grownBy_putObj' _ D1 (.deferred none)) (by have := hb1.size; simp; omega) (by omega))⟩)
      clear d1 d2 hne hnD hwn
      go_wp2
      refine ⟨by simp, .inl ⟨_, _, rfl, run_takeDeferred HE.out.1, ?_⟩⟩
      refine ⟨by simp, .inl ⟨_, _, rfl, run_takeDeferred HE.out.2.1, ?_⟩⟩
      refine ⟨.bool true, ?_, rfl, HE.out.2.2.2⟩
      have hc5 := HE.out.2.2.1
      simp [results, Try.f13, go_sem, hc5]
end Go.Proofs.Ytnmimagcmmdolaa
