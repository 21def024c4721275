/-
  WHAT THE PROOF STANDS ON, a part of it: UnVals, UnApp.
-/
import Derived.Test.YtjbfjglomonanaaU7
import Derived.Test.YtjbfjglomonanaaU4
import Derived.Shelf.Abstract
import Derived.Shelf.RegionOpen
import Derived.OwnWalkIn
import Derived.TacticsInMore
import Derived.LoopNIn
import Derived.LoopIn
import Derived.Test.YtjbfjglomonanaaU2
import Derived.Maps.AppendAt
import Derived.RangeFuncGives
/-
  CONTRACT OF slices.Values AT NUMBERS OF 32 BITS, as an iterator.
-/

namespace Go.Proofs.Ytjbfjglomonanaa
open Go.RowKit Go.Shelf
set_option linter.unusedVariables false
set_option linter.unusedSimpArgs false
attribute [local go_sem] Oper.semAt_some

abbrev encU1 (k : Nat) : Array Value := #[Value.int .u32 (k : Int)]
def nextIn (ns : List Nat) (ip : List Nat) (k : Nat) (ip' : List Nat) : Prop := ip' = ip ++ [k] ∧ ip ++ [k] <+: ns
abbrev TIn (Q : World → Prop) : Unit → List Nat → (Nat → Prop) → World → Prop := fun _ _ _ W => Q W
set_option maxRecDepth 100000 in
set_option maxHeartbeats 4000000 in
theorem values_calls (ao : Option Addr) (len cap : Nat) (w : World) : Calls Try.prog 30 #[.slice ao len cap] w fun e w' =>
    e = .returned (.func (.func 38) #[] #[.pointer (some ⟨w.heap.size, 0, none⟩)]) ∧ w' = w.alloc (.cells #[.slice ao len cap] 33) := by
  go_enter Try.func30, Try.ntmps30
  go_wp2
  go_ret
  exact ⟨rfl, rfl⟩
/-- The slice in the box, and its numbers. -/
def ValsQ (b : Nat) (ao : Option Addr) (len cap : Nat) (ns : List Nat) (W : World) : Prop :=
  W.cell? ⟨b, 0, none⟩ = some (.slice ao len cap) ∧ len = ns.length ∧ (0 < len → ∃ g o, ao = some ⟨g, o, none⟩ ∧ ∀ j k : Nat, ns[j]? = some k → W.cell? ⟨g, o + j, none⟩ = some (.int .u32 (k : Int)))
theorem take_next {ns : List Nat} {k m : Nat} (h : ns[k]? = some m) : ns.take k ++ [m] = ns.take (k + 1) := by
  rw [List.take_add_one, h]
  rfl
set_option maxRecDepth 100000 in
set_option maxHeartbeats 4000000 in
theorem values_seq (n : Nat) (hn : 1 ≤ n) (b : Nat) (ao : Option Addr) (len cap : Nat) (ns : List Nat) (hl : ns.length ≤ 1000000000000) (S0 Loc : Nat → Prop) (w : World) :
    SeqT Fence.wide n Try.prog 38 #[.pointer (some ⟨b, 0, none⟩)] encU1 (TIn (ValsQ b ao len cap ns)) (nextIn ns) (fun ip => ip = ns) () [] S0 Loc w := by
  intro l J Jx W hW hJ hJx hY h0 hT0
  refine callsIn_of_wp Try.func38 rfl trivial ?_ rfl
  simp only [Try.ntmps38, List.size_toArray, List.length_cons, List.length_nil, Nat.reduceAdd, Nat.reduceSub, Array.replicate_succ, Array.replicate_zero, List.push_toArray, List.append_toArray, List.nil_append, List.cons_append]
  obtain ⟨q1, q2, q3⟩ := hT0
  have HY := Lib.hid hY
  have HQ : Hid (ValsQ b ao len cap ns W) := Lib.hid ⟨q1, q2, q3⟩
  have HL : Hid (len = ns.length) := Lib.hid q2
  clear hY q2 q3
  gi_wp2
  gi_loopw [7] (fun i wr => ∃ (k : Nat) (S : Nat → Prop), k ≤ len ∧ i = .int .i64 (k : Int) ∧ J (ns.take k) S wr ∧ ValsQ b ao len cap ns wr)
    (fun i _ => len - (intOf i).toNat)
  case atStart => exact ⟨0, S0, Nat.zero_le _, rfl, h0, HQ.out⟩
  case round =>
    obtain ⟨k, S, hk, rfl, hJs, hq⟩ := hrel
    by_cases hlt : k < len
    · obtain ⟨g, o, rfl, hcs⟩ := hq.2.2 (by omega)
      obtain ⟨m, hm⟩ : ∃ m, ns[k]? = some m := ⟨_, List.getElem?_eq_getElem (by rw [← HL.out]; exact hlt)⟩
      have hc := hcs k m hm
      obtain ⟨fn, tmps, assign, body, hy, hR⟩ := HY.out () (ns.take k) m (ns.take (k + 1)) S wr hJs hq ⟨(take_next hm).symm, by rw [take_next hm]; exact List.take_prefix _ _⟩
      change (Instr.yield l #[Value.int .u32 (m : Int)]).run Try.prog wr = _ at hy
      have e1 : decide ((k : Int) < (len : Int)) = true := by simp; omega
      have i0 : (0 : Int) ≤ (k : Int) := by omega
      have i1 : (k : Int) < (len : Int) := by omega
      have i2 : (k : Int) < 1000000000000 := by have := HL.out; omega
      have HR := Lib.hid hR
      have HQ2 := Lib.hid hq
      have HLt := Lib.hid hlt
      clear hR hq hlt hk hcs hm
      gi_wp2
      refine HR.out.mono ?_
      rintro e W3 (⟨rfl, S', hJ3, hq3, hT3, hS3⟩ | ⟨rfl, hJx3, _⟩)
      · gi_wp2
        go_roundw
        case rel => exact ⟨k + 1, S', by have := HLt.out; omega, by simp, hJ3, hq3⟩
        case measure =>
          have := HLt.out
          simp [intOf]
          omega
      · gi_wp2
        refine bodyPost_ret (results_none rfl _ _ _) rfl ?_
        exact ⟨⟨_, rfl⟩, .inr hJx3⟩
    · obtain rfl : k = len := by omega
      have HQ2 := Lib.hid hq
      clear hq hlt hk
      gi_wp2
      go_end0
      exact ⟨⟨_, rfl⟩, .inl ⟨_, S, by rw [HL.out, List.take_length], hJs, HQ2.out⟩⟩
end Go.Proofs.Ytjbfjglomonanaa

/-
  CONTRACT OF slices.AppendSeq AT NUMBERS OF 32 BITS, behind slices.Values: a new slice of the same numbers.
-/

namespace Go.Proofs.Ytjbfjglomonanaa
open Go.RowKit Go.Shelf
set_option linter.unusedVariables false
set_option linter.unusedSimpArgs false
attribute [local go_sem] Oper.semAt_some

theorem wpListIn_append_rowk {F : Fence} {n : Nat} {P : Program} {w : World} {ops : Array Oper} {rest : List Oper} {o : Oper} {a : Act} {Q : Exit → Act → World → Prop}
    (hg : o.guard = none) (s x : Operand) (t : TypeId) (hop : o.op = Op.call { callee := Callee.builtin Builtin.append, args := #[s, x], argTypes := #[t, t] })
    (e : TypeId) (i : TypeInfo) (z : Value) (k bytes : Nat) (ht : P.underlying t = some (.slice e)) (hi : P.info? e = some i) (hz : i.zero = some z)
    (hsize : i.size = k) (hby : i.bytes = bytes) (hzs : z.cells.size = k) (hk : 0 < k)
    (ao : Option Addr) (m cap : Nat) (xs : List Value) (hs : a.eval s = .slice ao m cap) (h : RowK w e k ao m cap xs)
    (ad : Addr) (c : Nat) (news : List Value) (hx : a.eval x = .slice (some ad) 1 c) (hl : news.length = k) (hnews : ∀ j u, news[j]? = some u → w.cell? (ad.add j) = some u) (h1 : ∀ u ∈ news, u.oneCell' = true)
    (h63 : m + 1 ≤ maxLen) (hbytes : (m + 1) * bytes ≤ 140737488355328)
    (hK : ∀ g o' cap' w', RowK w' e k (some ⟨g, o', none⟩) (m + 1) cap' (xs ++ news) → w.grownBy w' (some g) → ((ao = some ⟨g, o', none⟩ ∧ m < cap) ∨ w.heap.size ≤ g) → wpListIn F n P ops Q rest (a.put o.dst (.slice (some ⟨g, o', none⟩) (m + 1) cap')) w') :
    wpListIn F n P ops Q (o :: rest) a w := by
  refine wpListIn_plain hg fun K hK' => ?_
  obtain ⟨g, o', cap', w', hrun, h2, h3, h4⟩ := run_append_rowk (P := P) w t o.type e i z k bytes ht hi hz hsize hby hzs hk ao m cap xs h ad c news hl hnews h1 h63 hbytes
  unfold Oper.wpIn
  refine ⟨?_, ?_⟩
  · simp [Oper.about, hop, resolve, Target.leads, Sem.run_pure]
  · rw [Oper.semAt_plain F _ _ (by rw [hop]; intro c hc'; cases hc')]
    simp [execOp, hop, resolve, invoke, builtin, hs, hx, hrun, Result.andThen]
    exact hK' _ _ (hK g o' cap' w' h2 h3 h4)
abbrev u32C (ns : List Nat) : List Value := ns.map fun k : Nat => Value.int .u32 (k : Int)
theorem ValsQ.own {b : Nat} {ao : Option Addr} {len cap : Nat} {ns : List Nat} {W U : World} {row : Option Nat} (h : ValsQ b ao len cap ns W) (hg : W.grownBy U row) (hr : ∀ r, row = some r → ∃ o : Obj, W.heap[r]? = some o ∧ o.isCells = false) : ValsQ b ao len cap ns U := by
  obtain ⟨h1, h2, h3⟩ := h
  refine ⟨cell_kept h1 hg hr, h2, fun hl => ?_⟩
  obtain ⟨g, o, e, hc⟩ := h3 hl
  exact ⟨g, o, e, fun j k hj => cell_kept (hc j k hj) hg hr⟩
theorem ValsQ.below {b : Nat} {ao : Option Addr} {len cap : Nat} {ns : List Nat} {W U : World} (h : ValsQ b ao len cap ns W) (hB : Below W.heap.size W U) : ValsQ b ao len cap ns U := by
  obtain ⟨h1, h2, h3⟩ := h
  have key : ∀ {a : Addr} {v : Value}, W.cell? a = some v → U.cell? a = some v := fun {a v} hc => (hB.cell (p := a) (World.block_lt_of_cell? W a hc)).trans hc
  refine ⟨key h1, h2, fun hl => ?_⟩
  obtain ⟨g, o, e, hc⟩ := h3 hl
  exact ⟨g, o, e, fun j k hj => key (hc j k hj)⟩
theorem grown_belowU {B : Nat} {W w1 : World} {g : Nat} (h : W.grownBy w1 (some g)) (hB : B ≤ W.heap.size) (hg : B ≤ g) : Below B W w1 :=
  ⟨h.os, h.tape, h.output, h.size, fun k hk => h.block k (by omega) (fun e => by injection e with e; omega)⟩
theorem info_u32 : ∃ i, Try.prog.info? 23 = some i ∧ i.zero = some (.int .u32 0) ∧ i.size = 1 ∧ i.bytes = 4 := by
  have h : (Try.prog.info? 23).map (fun i => (i.zero, i.size, i.bytes)) = some (some (.int .u32 0), 1, 4) := by kernel_rfl
  cases hi : Try.prog.info? 23 with
  | none => rw [hi] at h; cases h
  | some i =>
    rw [hi] at h
    simp only [Option.map_some, Option.some.injEq, Prod.mk.injEq] at h
    exact ⟨i, rfl, h.1, h.2.1, h.2.2⟩
set_option maxRecDepth 100000 in
set_option maxHeartbeats 4000000 in
theorem appU_any {w : World} {bq : Nat} {ao : Option Addr} {len cap : Nat} {ns : List Nat} (hQ : ValsQ bq ao len cap ns w) (hl : ns.length ≤ 1000000) :
    Calls Try.prog 43 #[.slice none 0 0, .func (.func 38) #[] #[.pointer (some ⟨bq, 0, none⟩)]] w fun e w' =>
      ∃ (ao' : Option Addr) (cap' : Nat), e = .returned (.slice ao' ns.length cap') ∧ RowK w' 23 1 ao' ns.length cap' (u32C ns) ∧ (∀ a, ao' = some a → w.heap.size ≤ a.block) ∧ Below w.heap.size w w' := by
  obtain ⟨b2, hb2⟩ : ∃ b2, b2 = w.heap.size := ⟨_, rfl⟩
  have HQ := Lib.hid hQ
  have s1 : (w.alloc (.cells #[.slice none 0 0] 33)).heap.size = w.heap.size + 1 := World.size_alloc _ _
  have d1 := heap_alloc_new w (.cells #[.slice none 0 0] 33)
  have hba := (Below.refl w.heap.size w).alloc (Nat.le_refl _) (.cells #[.slice none 0 0] 33)
  obtain ⟨wx, hwx⟩ : ∃ wx, wx = w.alloc (.cells #[.slice none 0 0] 33) := ⟨_, rfl⟩
  rw [← hwx] at s1 d1 hba
  rw [← hb2] at d1
  have HWx := Lib.hid hwx
  have HB2 := Lib.hid hb2
  have HS1 := Lib.hid s1
  have HBa := Lib.hid hba
  have HD1 := Lib.hid d1
  clear hwx hb2 s1 hba d1 hQ
  obtain ⟨i0, hi, hz0, hz1, hz2⟩ := info_u32
  refine (callsIn_wide (n := 9)).1 (callsIn_of_wp_marks Try.func43 rfl trivial (wpIn_wide.2 ?_) rfl)
  simp only [Try.ntmps43, List.size_toArray, List.length_cons, List.length_nil, Nat.reduceAdd, Nat.reduceSub, Array.replicate_succ, Array.replicate_zero, List.push_toArray, List.append_toArray, List.nil_append, List.cons_append]
  go_upto_region 1 with fail
  rw [← HWx.out, ← HB2.out]
  go_wp2
  refine (wpIn_wide (n := 9)).1 ?_
  have hsq := values_seq (9 - 1) (by omega) bq ao len cap ns (by omega) (fun _ => False) (fun j => j = b2) wx
  refine wpIn_rangeT (F := Fence.wide) (n := 9) rfl (by omega) (gf := 38) (lb := #[.pointer (some ⟨bq, 0, none⟩)]) rfl trivial (enters_of Try.func38 (by kernel_rfl) rfl) hsq (Below.refl _ _) (fun _ => rfl) ?ownT
    (fun ip S' Wx => (∃ (ao1 : Option Addr) (cap1 : Nat), Wx.heap[b2]? = some (.cells #[.slice ao1 ip.length cap1] 33 (0, 0)) ∧ RowK Wx 23 1 ao1 ip.length cap1 (u32C ip) ∧ (∀ a, ao1 = some a → S' a.block ∧ a.block ≠ b2)) ∧ Below w.heap.size w Wx ∧ (∀ j, S' j → b2 ≤ j)) ?ownI (fun _ _ => False) ?ownX (fun j hj => by subst hj; rw [HS1.out, HB2.out]; omega) (fun j hj => hj.elim)
    ⟨⟨none, 0, HD1.out, ⟨rfl, .inl ⟨rfl, rfl, rfl⟩⟩, fun a h => by cases h⟩, HBa.out, fun j hj => hj.elim⟩ (HQ.out.below HBa.out)
    (fun x a' Wx => a' = { tmps := #[.slice none 0 0, .func (.func 38) #[] #[.pointer (some ⟨bq, 0, none⟩)], .pointer (some ⟨b2, 0, none⟩), undef, .slice none 0 0, .int .u32 (x : Int), .func (.func 38) #[] #[.pointer (some ⟨bq, 0, none⟩)], .int .u32 (x : Int), undef, undef, undef, undef, undef], defers := [] }) ?ownA ?assign ?body ?done ?stop
  case ownT => exact fun g st S' A C row hq hg hr => hq.own hg (fun r e => (hr r e).2)
  case ownI =>
    rintro ip S' A C row ⟨⟨ao1, cap1, h1, h2, h3⟩, h4, h5⟩ hg hr
    have hbs := h4.size
    have hb2s := HB2.out
    have hne : ∀ j cur e, A.heap[j]? = some (.cells cur e (0, 0)) → row ≠ some j := fun j cur e hj he => by
      obtain ⟨_, o, ho, hc⟩ := hr j he
      rw [hj] at ho
      cases ho
      cases hc
    refine ⟨⟨ao1, cap1, (hg.block _ (Array.getElem?_eq_some_iff.1 h1).1 (fun e => hne _ _ _ h1 e.symm)).trans h1, h2.kept (fun a ha => by
      obtain ⟨cur, hc⟩ := h2.type ha
      exact hg.block _ (h2.lt ha) (fun e => hne _ _ _ hc e.symm)), h3⟩, ⟨hg.os.trans h4.os, hg.tape.trans h4.tape, hg.output.trans h4.output, Nat.le_trans h4.size hg.size, fun j hj => (hg.block j (by omega) (fun e => by have := (hr _ e.symm).1; have := HS1.out; omega)).trans (h4.block j hj)⟩, h5⟩
  case ownX => exact fun c st S' A C row h hg hr => h.elim
  case ownA => exact fun x a' st S' A C row h hg hr => h
  case assign =>
    intro l x Wx Kx hle hKx
    dsimp only
    gi_wp2
    exact hKx _ _ (Below.refl _ _) rfl
  case body =>
    rintro l g ip x ip' S' a' Wx hl2 ⟨rr, hrr⟩ hSl ⟨⟨ao1, cap1, h1, h2, h3⟩, h4, h5⟩ hTx ⟨rfl, hpre⟩ rfl
    have hc := cell_in (j := 0) h1 rfl
    have hf := free_in h1 0
    have hlen : ip.length + 1 ≤ 1000000 := by have := hpre.length_le; simp at this; omega
    have hbl : b2 < Wx.heap.size := (Array.getElem?_eq_some_iff.1 h1).1
    have hra := h2.below ((Below.refl _ Wx).alloc (Nat.le_refl _) (.cells #[.int .u32 (x : Int)] 23))
    have H1 := Lib.hid h1
    have H2 := Lib.hid h2
    have H3 := Lib.hid h3
    have H4 := Lib.hid h4
    have H5 := Lib.hid h5
    have HRa := Lib.hid hra
    clear h1 h2 h3 h4 h5 hra hpre
    gi_wp2_with (first
      | (gi_at_builtin; refine wpListIn_append_rowk rfl _ _ 33 rfl 23 i0 (.int .u32 0) 1 4 Try.underlying33 hi hz0 hz1 hz2 rfl (by decide) ao1 ip.length cap1 (u32C ip) rfl HRa.out ⟨Wx.heap.size, 0, none⟩ 1 [.int .u32 (x : Int)] rfl rfl (cell_one_new _ _ _) (by simp [Value.oneCell']) (by unfold maxLen; omega) (by omega) ?_; intro g' o' cap' w3 hrow3 hg3 hpl3
         have hgb : g' ≠ b2 := fun e => by
           rcases hpl3 with ⟨h, _⟩ | h
           · exact (H3.out _ h).2 e
           · rw [World.size_alloc] at h; omega
         have hv3 : w3.heap[b2]? = some (.cells #[.slice ao1 ip.length cap1] 33 (0, 0)) := (hg3.block b2 (by rw [World.size_alloc]; omega) (fun e => hgb (by injection e with e; exact e.symm))).trans ((Below.heap_alloc _ _ _ hbl).trans H1.out)
         have hc3 := cell_in (j := 0) hv3 rfl
         have hf3 := free_in hv3 0
         skip)
      | gi_in)
    have hg4 : S' g' ∨ Wx.heap.size ≤ g' := by
      rcases hpl3 with ⟨h, _⟩ | h
      · exact .inl (H3.out _ h).1
      · rw [World.size_alloc] at h
        exact .inr (by omega)
    have hg5 : b2 ≤ g' := by
      rcases hg4 with h | h
      · exact H5.out _ h
      · omega
    have hb2s := HB2.out
    have hTu : Turned (bothS S' (fun j => j = b2)) Wx (w3.setCell ⟨b2, 0, none⟩ (.slice (some ⟨g', o', none⟩) (ip.length + 1) cap')) :=
      ((Turned.of_below ((Below.refl Wx.heap.size Wx).alloc (Nat.le_refl _) (.cells #[.int .u32 (x : Int)] 23))).trans (Turned.grown hg3 (by
        rcases hpl3 with ⟨h, _⟩ | h
        · exact .inl (.inl (H3.out _ h).1)
        · exact .inr h))).trans (Turned.set (a := ⟨b2, 0, none⟩) (.inr rfl) _)
    have hBe : Below w.heap.size Wx (w3.setCell ⟨b2, 0, none⟩ (.slice (some ⟨g', o', none⟩) (ip.length + 1) cap')) := hTu.below H4.out.size (fun j hj => by
      rcases hj with hj | hj
      · have := H5.out j hj; omega
      · omega)
    have hBf := H4.out.trans hBe
    refine ⟨hTu, fun j => S' j ∨ j = g', ⟨⟨some ⟨g', o', none⟩, cap', ?_, ?_, ?_⟩, hBf, ?_⟩, HQ.out.below hBf, ?_⟩
    · rw [List.length_append]
      exact heap_setCell_same w3 b2 0 _ _ _ hv3
    · rw [List.length_append, show u32C (ip ++ [x]) = u32C ip ++ [Value.int .u32 (x : Int)] by simp [u32C]]
      exact hrow3.kept (fun a ha => by cases ha; exact Below.heap_setCell _ _ _ _ hgb)
    · intro a ha
      cases ha
      exact ⟨.inr rfl, hgb⟩
    · intro j hj
      rcases hj with hj | hj
      · exact H5.out j hj
      · omega
    · intro j hj
      rcases hj with hj | hj
      · exact .inl hj
      · rw [hj]; exact hg4
  case done =>
    rintro D ip S' Wx hD hip ⟨⟨ao1, cap1, h1, h2, h3⟩, h4, h5⟩ hTx hSD hK2
    have hc := cell_in (j := 0) h1 rfl
    have hf := free_in h1 0
    have hs1 := HS1.out
    have hb2s := HB2.out
    have hrow : RowK (Wx.putObj D (.deferred none)) 23 1 ao1 ns.length cap1 (u32C ns) := by
      rw [← hip]
      exact h2.kept (fun a ha => World.putObj_heap_other (fun e => by
        obtain ⟨cur, hc⟩ := h2.type ha
        rw [e] at hc
        rw [hK2] at hc
        cases hc))
    have hbel : Below w.heap.size w (Wx.putObj D (.deferred none)) := h4.trans (grown_belowU (grownBy_putObj' _ D (.deferred none)) h4.size (by omega))
    have hlow : ∀ a, ao1 = some a → w.heap.size ≤ a.block := fun a ha => by have := h5 _ (h3 a ha).1; omega
    rw [hip] at hc
    have HR := Lib.hid hrow
    have HBf := Lib.hid hbel
    have HLo := Lib.hid hlow
    clear h1 h2 h3 h4 h5 hrow hbel hlow hTx hSD hs1 hb2s
    go_wp2
    refine ⟨by simp, .inl ⟨_, _, rfl, run_takeDeferred hK2, ?_⟩⟩
    refine ⟨.slice ao1 ns.length cap1, by simp [results, Try.f43, go_sem], ao1, cap1, rfl, HR.out, HLo.out, HBf.out⟩
  case stop =>
    rintro D c Wx hD h hK2
    exact h.elim
end Go.Proofs.Ytjbfjglomonanaa

