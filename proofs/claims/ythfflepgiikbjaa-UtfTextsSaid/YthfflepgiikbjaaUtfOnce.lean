/-
  THE CONTRACT OF the law's once: where it is given just the runes that come, it says yes, wherever it leaves.
-/
import Derived.Test.YthfflepgiikbjaaUtfRunesRef
namespace Go.Proofs.Ythfflepgiikbjaa
open Go.RowKit Go.Shelf
open Utf
attribute [local go_sem] Oper.semAt_some

/-- A slice value that holds the runes rs with their places. -/
def WantAt (W : World) (v : Value) (n0 : Nat) (rs : List RuneAt) : Prop :=
  ∃ a cap, v = .slice a rs.length cap ∧ (rs = [] ∨ ∃ g, a = some ⟨g, 0, none⟩ ∧ g < n0 ∧ ∀ i (h : i < rs.length), W.cell? ⟨g, i * 2, none⟩ = some (.int .i64 (rs[i].1.1 : Int)) ∧ W.cell? ⟨g, i * 2 + 1, none⟩ = some (.int .i64 rs[i].1.2))

theorem wantAt_of {w : World} {B : Nat} {v : Value} {rs : List RuneAt} (h : w.ownsRow B 49 2 v rs.length (flat rs)) : WantAt w v w.heap.size rs := by
  have h' := h
  obtain ⟨hl, ⟨rfl, h0⟩ | ⟨g, cap, cur, rfl, hg, hb, hle, _, hc, ht⟩⟩ := h
  · exact ⟨none, 0, by rw [h0], .inl (List.eq_nil_of_length_eq_zero h0)⟩
  · refine ⟨some ⟨g, 0, none⟩, cap, rfl, .inr ⟨g, rfl, (Array.getElem?_eq_some_iff.1 hb).1, ?_⟩⟩
    intro i hi
    have h1 := h'.cellAt (i * 2) (by omega)
    have h2 := h'.cellAt (i * 2 + 1) (by omega)
    obtain ⟨f1, f2⟩ := flat_get rs i hi
    rw [h1, h2, show i * 2 = 2 * i by omega]
    exact ⟨f1, f2⟩

theorem prefix_snoc {pre rs : List RuneAt} {x : RuneAt} (h : pre <+: rs) : pre ++ [x] <+: rs ↔ ∃ hk : pre.length < rs.length, rs[pre.length] = x := by
  obtain ⟨t, rfl⟩ := h
  rw [List.prefix_append_right_inj]
  cases t with
  | nil => simp
  | cons y t => simp [eq_comm]

theorem run_func_nil (fn : Fn) (first cap : Array Value) (w : World) : (binOp .eql 54 (.func fn first cap) .nilFunc).run Try.prog w = .ok (.bool false) w := by kernel_rfl

set_option maxRecDepth 100000 in
set_option maxHeartbeats 4000000 in
theorem once_in (n : Nat) (hn : 3 ≤ n) (s : ByteArray) (hs : s.size ≤ 9000) (v : Value) (most : Int) (w : World) (hv : WantAt w v w.heap.size (allR (bs s))) :
    CallsIn Fence.wide n Try.prog 18 #[.string s, v, .int .i64 most] w fun e W' => e = .returned (.bool true) ∧ Below w.heap.size w W' := by
  have h1 : 1 ≤ n := by omega
  obtain ⟨a, cap, rfl, hw⟩ := hv
  have hfn := run_func_nil
  refine callsIn_of_wp_marks Try.func18 rfl trivial ?_ rfl
  simp only [Try.ntmps18, List.size_toArray, List.length_cons, List.length_nil, Nat.reduceAdd, Nat.reduceSub, Array.replicate_succ, Array.replicate_zero, List.push_toArray, List.append_toArray, List.nil_append, List.cons_append]
  gi_wp2_with (refine ⟨trivial, ?_⟩; gi_at_call 24; refine (runes_in Fence.wide (n - 1) trivial rfl _ _).mono ?_; rintro e w' ⟨rfl, rfl⟩)
  have bN := Boxed.new ((((w.alloc (.cells #[.slice a (allR (bs s)).length cap] 35)).alloc (.cells #[.int .i64 most] 3)).alloc (.cells #[.bool false] 4)).alloc (.cells #[.int .i64 0] 3)) 9 (.string s)
  simp only [World.size_alloc] at bN
  have b0 := ((((Boxed.new (w) 35 (.slice a (allR (bs s)).length cap)).alloc (.cells #[.int .i64 most] 3)).alloc (.cells #[.bool false] 4)).alloc (.cells #[.int .i64 0] 3)).alloc (.cells #[.string s] 9)
  have b1 := (((Boxed.new ((w).alloc (.cells #[.slice a (allR (bs s)).length cap] 35)) 3 (.int .i64 most)).alloc (.cells #[.bool false] 4)).alloc (.cells #[.int .i64 0] 3)).alloc (.cells #[.string s] 9)
  have b2 := ((Boxed.new (((w).alloc (.cells #[.slice a (allR (bs s)).length cap] 35)).alloc (.cells #[.int .i64 most] 3)) 4 (.bool false)).alloc (.cells #[.int .i64 0] 3)).alloc (.cells #[.string s] 9)
  have b3 := (Boxed.new ((((w).alloc (.cells #[.slice a (allR (bs s)).length cap] 35)).alloc (.cells #[.int .i64 most] 3)).alloc (.cells #[.bool false] 4)) 3 (.int .i64 0)).alloc (.cells #[.string s] 9)
  simp only [World.size_alloc] at b1 b2 b3
  have hB0 : Below w.heap.size w (((((w.alloc (.cells #[.slice a (allR (bs s)).length cap] 35)).alloc (.cells #[.int .i64 most] 3)).alloc (.cells #[.bool false] 4)).alloc (.cells #[.int .i64 0] 3)).alloc (.cells #[.string s] 9)) :=
    (((((Below.refl _ w).alloc (Nat.le_refl _) _).alloc (by simp) _).alloc (by simp; omega) _).alloc (by simp; omega) _).alloc (by simp; omega) _
  refine wpIn_rangeFunc_ownG rfl h1 (gf := 26) (lb := #[.pointer (some ⟨w.heap.size + 1 + 1 + 1 + 1, 0, none⟩)]) rfl trivial (enters_of Try.func26 (by kernel_rfl) rfl)
    (runes_stops (n - 1) (by omega) (w.heap.size + 1 + 1 + 1 + 1) s (by omega) _ bN) keeps_t (keeps_b (by simp)) (Below.refl _ _) (fun _ => rfl)
    (fun pre W => (pre <+: allR (bs s) ∧ W.cell? ⟨w.heap.size, 0, none⟩ = some (.slice a (allR (bs s)).length cap) ∧ W.cell? ⟨w.heap.size + 1, 0, none⟩ = some (.int .i64 most) ∧
      (W.cell? ⟨w.heap.size + 1 + 1, 0, none⟩ = some (.bool false) ∧ W.frozen? ⟨w.heap.size + 1 + 1, 0, none⟩ = false) ∧ (W.cell? ⟨w.heap.size + 1 + 1 + 1, 0, none⟩ = some (.int .i64 (pre.length : Nat)) ∧ W.frozen? ⟨w.heap.size + 1 + 1 + 1, 0, none⟩ = false)) ∧ Below w.heap.size w W)
    (fun c pre W => (c = .ret ∧ ((W.cell? ⟨w.heap.size + 1 + 1, 0, none⟩ = some (.bool true)) ∨ (W.cell? ⟨w.heap.size + 1 + 1, 0, none⟩ = some (.bool false) ∧ ¬ pre <+: allR (bs s)))) ∧ Below w.heap.size w W)
    (OwnFrom.and (Own.from (fun s A B row hs hg hr => ⟨hs.1, cell_kept hs.2.1 hg hr, cell_kept hs.2.2.1 hg hr, ⟨cell_kept hs.2.2.2.1.1 hg hr, (frozen_kept hs.2.2.2.1.1 hg hr).trans hs.2.2.2.1.2⟩, ⟨cell_kept hs.2.2.2.2.1 hg hr, (frozen_kept hs.2.2.2.2.1 hg hr).trans hs.2.2.2.2.2⟩⟩) _) (ownFrom_below (Nat.le_refl _) (by simp; omega)))
    (fun c => OwnFrom.and (Own.from (fun s A B row hs hg hr => ⟨hs.1, hs.2.elim (fun h => .inl (cell_kept h hg hr)) (fun h => .inr ⟨cell_kept h.1 hg hr, h.2⟩)⟩) _) (ownFrom_below (Nat.le_refl _) (by simp; omega)))
    ⟨⟨List.nil_prefix, b0.cell, b1.cell, ⟨b2.cell, b2.frozen⟩, ⟨b3.cell, b3.frozen⟩⟩, hB0⟩
    (fun x => { tmps := #[.string s, .slice a (allR (bs s)).length cap, .int .i64 most, undef, .pointer (some ⟨w.heap.size, 0, none⟩), .pointer (some ⟨w.heap.size + 1, 0, none⟩), .pointer (some ⟨w.heap.size + 1 + 1, 0, none⟩), .pointer (some ⟨w.heap.size + 1 + 1 + 1, 0, none⟩), .func (.func 26) #[] #[.pointer (some ⟨w.heap.size + 1 + 1 + 1 + 1, 0, none⟩)], .int .i64 (x.1.1 : Int), .int .i64 x.1.2, .string s, .func (.func 26) #[] #[.pointer (some ⟨w.heap.size + 1 + 1 + 1 + 1, 0, none⟩)], .func (.func 26) #[] #[.pointer (some ⟨w.heap.size + 1 + 1 + 1 + 1, 0, none⟩)], .bool false, .func (.func 26) #[] #[.pointer (some ⟨w.heap.size + 1 + 1 + 1 + 1, 0, none⟩)], .int .i64 (x.1.1 : Int), .int .i64 x.1.2, undef, undef, undef, undef, undef, undef, undef, undef, undef, undef, undef, undef, undef, undef, undef, undef, undef, undef, undef, undef, undef, undef, undef, undef, undef, undef, undef, undef, undef, undef, undef], defers := [] }) ?assign ?body ?done ?stop
  case assign =>
    intro l x W K hK
    gi_wp2
    exact hK
  case body =>
    rintro l pre x W ⟨⟨hpre, c0, c1, ⟨c2, f2⟩, ⟨c3, f3⟩⟩, hB⟩ hlen
    have HP := Lib.hid hpre
    have HN := Lib.hid (prefix_snoc (x := x) hpre)
    clear hpre
    have hlb : (allR (bs s)).length ≤ 9000 := Nat.le_trans (restR_length _ _ _) (by rw [bs_length]; exact hs)
    by_cases hk : pre.length < (allR (bs s)).length
    · obtain ⟨g, rfl, hg, hcs⟩ : ∃ g, a = some ⟨g, 0, none⟩ ∧ g < w.heap.size ∧ ∀ i (h : i < (allR (bs s)).length), w.cell? ⟨g, i * 2, none⟩ = some (.int .i64 ((allR (bs s))[i].1.1 : Int)) ∧ w.cell? ⟨g, i * 2 + 1, none⟩ = some (.int .i64 (allR (bs s))[i].1.2) := by
        rcases hw with h | h
        · rw [h] at hk; simp at hk
        · exact h
      obtain ⟨q1, q2⟩ := hcs _ hk
      replace q1 := (hB.cell (p := ⟨g, pre.length * 2, none⟩) hg).trans q1
      replace q2 := (hB.cell (p := ⟨g, pre.length * 2 + 1, none⟩) hg).trans q2
      clear hcs hw
      generalize hy : (allR (bs s))[pre.length] = y at *
      have HY := Lib.hid hy
      clear hy
      by_cases e1 : x.1.1 = y.1.1
      · by_cases e2 : x.1.2 = y.1.2
        · obtain rfl : x = y := Subtype.ext (Prod.ext e1 e2)
          have HQ := Lib.hid (HN.out.2 ⟨hk, HY.out⟩)
          clear e1 e2
          by_cases hmq : most = (pre.length : Int) + 1
          · have hme : (((pre.length : Int) + 1) == most) = true := by rw [beq_iff_eq]; omega
            clear hmq
            gi_wp2
            exact ⟨((KeepsOthers.setCell _ _ _).trans (KeepsOthers.setCell _ _ _)).from _, ⟨rfl, .inl (World.cell?_setCell_same' _ _ _ (by rw [World.cell?_setCell_other _ _ _ _ (by simp), c2]; rfl))⟩, (hB.setCell (p := ⟨w.heap.size + 1 + 1 + 1, 0, none⟩) (by simp; omega) _).setCell (p := ⟨w.heap.size + 1 + 1, 0, none⟩) (by simp; omega) _⟩
          · have hme : (((pre.length : Int) + 1) == most) = false := by rw [beq_eq_false_iff_ne]; omega
            clear hmq
            gi_wp2
            refine ⟨(KeepsOthers.setCell _ _ _).from _, Below.heap_setCell _ _ _ _ (by simp), ⟨HQ.out, ?_, ?_, ⟨?_, ?_⟩, ⟨?_, ?_⟩⟩, hB.setCell (p := ⟨w.heap.size + 1 + 1 + 1, 0, none⟩) (by simp; omega) _⟩
            · rw [World.cell?_setCell_other _ _ _ _ (by simp)]; exact c0
            · rw [World.cell?_setCell_other _ _ _ _ (by simp)]; exact c1
            · rw [World.cell?_setCell_other _ _ _ _ (by simp)]; exact c2
            · rw [World.frozen?_setCell]; exact f2
            · rw [List.length_append]; exact World.cell?_setCell_same' _ _ _ (by rw [c3]; rfl)
            · rw [World.frozen?_setCell]; exact f3
        · have hne1 : ((x.1.1 : Int) != (y.1.1 : Int)) = false := by rw [bne_eq_false_iff_eq, e1]
          have hne : (x.1.2 != y.1.2) = true := by rw [bne_iff_ne]; exact e2
          have HE := Lib.hid e2
          clear e1 e2
          gi_wp2
          exact ⟨(KeepsOthers.setCell _ _ _).from _, ⟨rfl, .inr ⟨World.cell?_setCell_same' _ _ _ (by rw [c2]; rfl), fun h => by obtain ⟨_, e⟩ := HN.out.1 h; exact HE.out (by rw [← e, HY.out])⟩⟩, hB.setCell (p := ⟨w.heap.size + 1 + 1, 0, none⟩) (by simp; omega) _⟩
      · have hne : ((x.1.1 : Int) != (y.1.1 : Int)) = true := by rw [bne_iff_ne]; omega
        have HE := Lib.hid e1
        clear e1
        gi_wp2
        exact ⟨(KeepsOthers.setCell _ _ _).from _, ⟨rfl, .inr ⟨World.cell?_setCell_same' _ _ _ (by rw [c2]; rfl), fun h => by obtain ⟨_, e⟩ := HN.out.1 h; exact HE.out (by rw [← e, HY.out])⟩⟩, hB.setCell (p := ⟨w.heap.size + 1 + 1, 0, none⟩) (by simp; omega) _⟩
    · have hk2 : (allR (bs s)).length ≤ pre.length := by omega
      have HK := Lib.hid hk
      clear hk
      gi_wp2
      exact ⟨(KeepsOthers.setCell _ _ _).from _, ⟨rfl, .inr ⟨World.cell?_setCell_same' _ _ _ (by rw [c2]; rfl), fun h => HK.out (HN.out.1 h).1⟩⟩, hB.setCell (p := ⟨w.heap.size + 1 + 1, 0, none⟩) (by simp; omega) _⟩
  case done =>
    rintro D ys W hD rfl ⟨⟨_, c0, c1, ⟨c2, f2⟩, ⟨c3, f3⟩⟩, hB⟩ hK
    gi_wp2
    have hK' := (KeepsOthers.setCell W ⟨w.heap.size + 1 + 1, 0, none⟩ (.bool true)).same D _ hK rfl
    refine ⟨by simp, .inl ⟨_, _, rfl, run_takeDeferred hK', ?_⟩⟩
    have hc5 := cell_kept (World.cell?_setCell_same' W ⟨w.heap.size + 1 + 1, 0, none⟩ (.bool true) (by rw [c2]; rfl)) (grownBy_putObj' _ D (.deferred none)) (fun r e => by cases e; exact ⟨_, hK', rfl⟩)
    refine ⟨.bool true, ?_, rfl, (hB.setCell (p := ⟨w.heap.size + 1 + 1, 0, none⟩) (by simp; omega) _).trans (belowK_b (w := w) (Nat.le_refl _) _ D _ _ (by simp at hD; omega) hK' rfl rfl)⟩
    simp [results, Try.f18, go_sem, hc5]
  case stop =>
    rintro D c pre W hD hpre ⟨⟨rfl, hc⟩, hB⟩ hK
    have hc2 : W.cell? ⟨w.heap.size + 1 + 1, 0, none⟩ = some (.bool true) := by
      rcases hc with h | ⟨_, h⟩
      · exact h
      · exact (h hpre).elim
    clear hc
    gi_wp2
    refine ⟨by simp, .inl ⟨_, _, rfl, run_takeDeferred hK, ?_⟩⟩
    have hc5 := cell_kept hc2 (grownBy_putObj' _ D (.deferred none)) (fun r e => by cases e; exact ⟨_, hK, rfl⟩)
    refine ⟨.bool true, ?_, rfl, hB.trans (belowK_b (w := w) (Nat.le_refl _) W D _ _ (by simp at hD; omega) hK rfl rfl)⟩
    simp [results, Try.f18, go_sem, hc5]
end Go.Proofs.Ythfflepgiikbjaa
