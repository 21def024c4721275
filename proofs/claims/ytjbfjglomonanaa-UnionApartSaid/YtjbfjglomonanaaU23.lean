/-
  WHAT THE PROOF STANDS ON, a part of it: UnJoin.
-/
import Derived.Test.YtjbfjglomonanaaU22
import Derived.Deep.DeepCutAuto
/-
  CONTRACT OF Join.
-/

namespace Go.Proofs.Ytjbfjglomonanaa
open Go.RowKit
set_option linter.unusedVariables false
set_option linter.unusedSimpArgs false

section
variable {w W : World} {S : Nat → Prop} {pb nb cb : Nat} {A : PartA} {cl : Nat → Option ClD}
theorem JoinS.make (h : PartI w S pb nb cb A cl) (hk : Below w.heap.size w W) (x y : Nat) {c9 c11 : ClD} {g9 g11 : Nat} (ht : ToldR W w.heap.size A cl x c9)
    (b9 : W.heap[g9]? = some (.cells #[.int .u32 (c9.least : Int), .slice c9.ao c9.len c9.cap] 50 (0, 0)))
    (b11 : W.heap[g11]? = some (.cells #[.int .u32 (c11.least : Int), .slice c11.ao c11.len c11.cap] 50 (0, 0)))
    (n9 : w.heap.size ≤ g9) (n911 : g9 ≠ g11) :
    JoinS w W S pb nb cb g9 g11 A cl cl (lookA A x).1 (lookA A y).1 c9 c9 c11 (lookA A x).2.2 A.nm := by
  have h1 := h.below hk
  exact {
    blk := h1.mem.blk
    b9 := b9
    b11 := b11
    names := h1.mem.names
    cliques := h1.mem.cliques
    lists := fun q _ _ => h1.lists q
    row := ht.2.2.1
    tur := Turned.of_below hk
    ap9 := fun q c h2 h3 h4 a a' h5 h6 => by
      rcases ht.2.2.2 with ⟨_, h7⟩ | ⟨_, h7⟩
      · have := h7 a' h6
        have := h.lt _ ((h4 ▸ h.lists q).at_ h5)
        omega
      · exact h.apart q _ c c9 h2 h4 h7 a a' h5 h6
    in9 := fun a ha => by
      rcases ht.2.2.2 with ⟨_, h7⟩ | ⟨_, h7⟩
      · exact .inr (h7 a ha)
      · exact .inl ((h7 ▸ h.lists _).at_ ha)
    ne := h.ne
    n9 := n9
    n911 := n911
    p9 := fun e => by have := h.lt pb h.sP; omega
    sN := h.sN
    sC := h.sC
    sP := h.sP
    lt := h.lt
    keep := fun p v hs => (hk.cell (p := p) (World.block_lt_of_cell? w p hs.1)).trans hs.1 }
set_option maxRecDepth 100000 in
set_option maxHeartbeats 4000000 in
theorem join_any (h : PartI w S pb nb cb A cl) (hA : InvA A) (hf : ∀ x, (lookA A x).2.2.length ≤ 100000) (a b : Nat) : Calls Try.prog 8 #[.pointer (some ⟨pb, 0, none⟩), .int .u32 (a : Int), .int .u32 (b : Int)] w fun e w' =>
    e = .returned (.tuple #[.int .u32 ((joinA A a b).2.1 : Int), .bool (joinA A a b).2.2]) ∧ Turned S w w' ∧ ∃ cl', PartI w' (growS S w w') pb nb cb (joinA A a b).1 cl' ∧ ∀ p v, Safe w cl p v → Safe w' cl' p v := by
  have c1 : w.cell? ⟨pb, 1, none⟩ = some (.map (some cb)) := cell_in h.mem.blk rfl
  have HI := Lib.hid (isNone_some c1)
  have HSame : Hid (∃ cl', PartI w (growS S w w) pb nb cb A cl' ∧ ∀ p v, Safe w cl p v → Safe w cl' p v) := Lib.hid ⟨cl, h.wide (fun j hj => .inl hj) (fun j hj => by
    rcases hj with hj | hj
    · exact h.lt j hj
    · exact hj.2), fun p v hs => hs⟩
  by_cases ha : a = 0
  · have e1 : ((a : Int) == 0) = true := by rw [beq_iff_eq]; omega
    have he : joinA A a b = (A, 0, false) := by unfold joinA; rw [if_pos (.inl ha)]
    rw [he]
    clear h hA hf he ha
    go_enter Try.func8, Try.ntmps8
    go_wp2_with (go_at_call 18; refine HI.out.mono ?_; rintro e w' ⟨rfl, rfl⟩)
    go_ret2
    exact ⟨rfl, Turned.refl, HSame.out⟩
  by_cases hb : b = 0
  · have e1 : ((a : Int) == 0) = false := by rw [beq_eq_false_iff_ne]; omega
    have e2 : ((b : Int) == 0) = true := by rw [beq_iff_eq]; omega
    have he : joinA A a b = (A, 0, false) := by unfold joinA; rw [if_pos (.inr hb)]
    rw [he]
    clear h hA hf he ha hb
    go_enter Try.func8, Try.ntmps8
    go_wp2_with (go_at_call 18; refine HI.out.mono ?_; rintro e w' ⟨rfl, rfl⟩)
    go_ret2
    exact ⟨rfl, Turned.refl, HSame.out⟩
  have e1 : ((a : Int) == 0) = false := by rw [beq_eq_false_iff_ne]; omega
  have e2 : ((b : Int) == 0) = false := by rw [beq_eq_false_iff_ne]; omega
  have HCa := Lib.hid (clique_any h a)
  have HCb : Hid (∀ U, Below w.heap.size w U → _) := Lib.hid (fun U (hU : Below w.heap.size w U) => clique_any (h.below hU) b)
  have H := Lib.hid h
  have HA := Lib.hid hA
  have HF := Lib.hid hf
  have HJ : Hid (joinA A a b = if (lookA A a).1 = (lookA A b).1 then (A, (lookA A a).2.1, false)
    else if (lookA A a).2.2.length < (lookA A b).2.2.length then (mergeA A (lookA A b).1 (lookA A b).2.1 (lookA A b).2.2 (lookA A a).1 (lookA A a).2.1 (lookA A a).2.2, min (lookA A b).2.1 (lookA A a).2.1, true)
    else (mergeA A (lookA A a).1 (lookA A a).2.1 (lookA A a).2.2 (lookA A b).1 (lookA A b).2.1 (lookA A b).2.2, min (lookA A a).2.1 (lookA A b).2.1, true)) := Lib.hid (by
    unfold joinA
    rw [if_neg (fun h => h.elim ha hb)])
  have HA0 := Lib.hid ha
  have HB0 := Lib.hid hb
  clear h hA hf ha hb
  have hzl := zero_cl
  have hfl := run_least
  go_enter Try.func8, Try.ntmps8
  go_upto_region 3 with (go_at_call 18; refine HI.out.mono ?_; rintro e w' ⟨rfl, hw⟩; obtain rfl := hw.symm)
  go_upto_region 4 with (go_at_call 19; refine HCa.out.mono ?_; rintro e w1 ⟨⟨la, aoa, lena, capa⟩, rfl, h1, h2⟩; replace h1 := Lib.hid h1; replace h2 := Lib.hid h2)
  -- WAYS
  have hb1 : Below w.heap.size w (w1.alloc (.cells #[.int .u32 (la : Int), .slice aoa lena capa] 50)) := h2.out.alloc h2.out.size _
  obtain ⟨W2, hW2⟩ : ∃ W2, W2 = w1.alloc (.cells #[.int .u32 (la : Int), .slice aoa lena capa] 50) := ⟨_, rfl⟩
  obtain ⟨g9, hg9e⟩ : ∃ g9, g9 = w1.heap.size := ⟨_, rfl⟩
  rw [← hW2, ← hg9e]
  rw [← hW2] at hb1
  have HW2 := Lib.hid hW2
  have HG9 := Lib.hid hg9e
  have HCb2 := Lib.hid (HCb.out W2 hb1)
  have HB1 := Lib.hid hb1
  clear hW2 hg9e hb1
  go_upto_region 5 with (go_at_call 19; refine HCb2.out.mono ?_; rintro e w2 ⟨⟨lb, aob, lenb, capb⟩, rfl, h3, h4⟩; replace h3 := Lib.hid h3; replace h4 := Lib.hid h4)
  obtain ⟨W4, hW4⟩ : ∃ W4, W4 = w2.alloc (.cells #[.int .u32 (lb : Int), .slice aob lenb capb] 50) := ⟨_, rfl⟩
  obtain ⟨g11, hg11e⟩ : ∃ g11, g11 = w2.heap.size := ⟨_, rfl⟩
  rw [← hW4, ← hg11e]
  have hb4a : Below W2.heap.size W2 W4 := by rw [hW4]; exact h4.out.alloc h4.out.size _
  have hb4 : Below w.heap.size w W4 := HB1.out.trans (hb4a.mono HB1.out.size)
  have x9 : W2.heap[g9]? = some (.cells #[.int .u32 (la : Int), .slice aoa lena capa] 50 (0, 0)) := by rw [HW2.out, HG9.out]; exact heap_alloc_new _ _
  have b9 : W4.heap[g9]? = some (.cells #[.int .u32 (la : Int), .slice aoa lena capa] 50 (0, 0)) := (hb4a.block _ (Array.getElem?_eq_some_iff.1 x9).1).trans x9
  have b11 : W4.heap[g11]? = some (.cells #[.int .u32 (lb : Int), .slice aob lenb capb] 50 (0, 0)) := by rw [hW4, hg11e]; exact heap_alloc_new _ _
  have hTa : ToldR W4 w.heap.size A cl a ⟨la, aoa, lena, capa⟩ := by
    have : ToldR W2 w.heap.size A cl a ⟨la, aoa, lena, capa⟩ := by
      have hh := h1.out
      rw [HW2.out]
      exact hh.below ((Below.refl _ _).alloc (Nat.le_refl _) _)
    exact this.below hb4a
  have hTb : ToldR W4 w.heap.size A cl b ⟨lb, aob, lenb, capb⟩ := by
    have hh := h3.out
    have h5 : ToldR W4 W2.heap.size A cl b ⟨lb, aob, lenb, capb⟩ := by rw [hW4]; exact hh.below ((Below.refl _ _).alloc (Nat.le_refl _) _)
    exact ⟨h5.1, h5.2.1, h5.2.2.1, h5.2.2.2.imp (fun h6 => ⟨h6.1, fun x hx => Nat.le_trans HB1.out.size (h6.2 x hx)⟩) id⟩
  have hg9 : w.heap.size ≤ g9 := by rw [HG9.out]; exact h2.out.size
  have hg11 : w.heap.size ≤ g11 := by rw [hg11e]; exact Nat.le_trans HB1.out.size h4.out.size
  have hg911 : g9 ≠ g11 := by
    have h6 := (Array.getElem?_eq_some_iff.1 x9).1
    have h7 := h4.out.size
    rw [hg11e]
    omega
  have HB4 := Lib.hid hb4
  clear hW4 hg11e hb4a hb4 x9
  have y90 : W4.cell? ⟨g9, 0, none⟩ = some (.int .u32 (la : Int)) := cell_in b9 rfl
  have y91 : W4.cell? ⟨g9, 1, none⟩ = some (.slice aoa lena capa) := cell_in b9 rfl
  have y110 : W4.cell? ⟨g11, 0, none⟩ = some (.int .u32 (lb : Int)) := cell_in b11 rfl
  have y111 : W4.cell? ⟨g11, 1, none⟩ = some (.slice aob lenb capb) := cell_in b11 rfl
  by_cases hnm : (lookA A a).1 = (lookA A b).1
  · have e5 : (((lookA A a).1 : Int) == ((lookA A b).1 : Int)) = true := by rw [beq_iff_eq, hnm]
    have HEnd : Hid ((la : Int) = ((joinA A a b).2.1 : Int) ∧ (joinA A a b).2.2 = false ∧ Turned S w W4 ∧ ∃ cl', PartI W4 (growS S w W4) pb nb cb (joinA A a b).1 cl' ∧ ∀ p v, Safe w cl p v → Safe W4 cl' p v) := Lib.hid (by
      rw [HJ.out, if_pos hnm]
      refine ⟨by have := hTa.1; dsimp only at *; omega, rfl, Turned.of_below HB4.out, cl, (H.out.below HB4.out).wide (fun j hj => .inl hj) (fun j hj => ?_), fun p v hs => ⟨(HB4.out.cell (p := p) (World.block_lt_of_cell? w p hs.1)).trans hs.1, hs.2⟩⟩
      rcases hj with hj | hj
      · exact Nat.lt_of_lt_of_le (H.out.lt j hj) HB4.out.size
      · exact hj.2)
    clear hnm hTa hTb b9 b11
    go_wp2
    go_ret2
    exact ⟨by rw [HEnd.out.1, HEnd.out.2.1]; rfl, HEnd.out.2.2.1, HEnd.out.2.2.2⟩
  · have e5 : (((lookA A a).1 : Int) == ((lookA A b).1 : Int)) = false := by rw [beq_eq_false_iff_ne]; omega
    by_cases hlt : (lookA A a).2.2.length < (lookA A b).2.2.length
    · have e6 : decide ((lena : Int) < (lenb : Int)) = true := decide_eq_true (by have := hTa.2.1; have := hTb.2.1; dsimp only at *; omega)
      have e7 : decide (lena < lenb) = true := decide_eq_true (by have := hTa.2.1; have := hTb.2.1; dsimp only at *; omega)
      have hg119 : g11 ≠ g9 := fun e => hg911 e.symm
      have fz9 : ∀ i, W4.frozen? ⟨g9, i, none⟩ = false := fun i => free_in b9 i
      have fz11 : ∀ i, W4.frozen? ⟨g11, i, none⟩ = false := fun i => free_in b11 i
      have HEx : Hid (∀ W5 : World, W5 = (((W4.setCell ⟨g9, 0, none⟩ (.int .u32 (lb : Int))).setCell ⟨g9, 1, none⟩ (.slice aob lenb capb)).setCell ⟨g11, 0, none⟩ (.int .u32 (la : Int))).setCell ⟨g11, 1, none⟩ (.slice aoa lena capa) →
          W5.heap[g9]? = some (.cells #[.int .u32 (lb : Int), .slice aob lenb capb] 50 (0, 0)) ∧ W5.heap[g11]? = some (.cells #[.int .u32 (la : Int), .slice aoa lena capa] 50 (0, 0)) ∧ Below w.heap.size w W5 ∧ ToldR W5 w.heap.size A cl a ⟨la, aoa, lena, capa⟩ ∧ ToldR W5 w.heap.size A cl b ⟨lb, aob, lenb, capb⟩) := Lib.hid (by
        rintro W5 rfl
        have s1 : (W4.setCell ⟨g9, 0, none⟩ (.int .u32 (lb : Int))).heap[g9]? = _ := heap_setCell_same _ g9 0 _ _ _ b9
        have s2 : ((W4.setCell ⟨g9, 0, none⟩ (.int .u32 (lb : Int))).setCell ⟨g9, 1, none⟩ (.slice aob lenb capb)).heap[g9]? = _ := heap_setCell_same _ g9 1 _ _ _ s1
        have t2 : ((W4.setCell ⟨g9, 0, none⟩ (.int .u32 (lb : Int))).setCell ⟨g9, 1, none⟩ (.slice aob lenb capb)).heap[g11]? = _ := (Below.heap_setCell _ _ _ _ hg119).trans ((Below.heap_setCell _ _ _ _ hg119).trans b11)
        have t3 : (((W4.setCell ⟨g9, 0, none⟩ (.int .u32 (lb : Int))).setCell ⟨g9, 1, none⟩ (.slice aob lenb capb)).setCell ⟨g11, 0, none⟩ (.int .u32 (la : Int))).heap[g11]? = _ := heap_setCell_same _ g11 0 _ _ _ t2
        have t4 : ((((W4.setCell ⟨g9, 0, none⟩ (.int .u32 (lb : Int))).setCell ⟨g9, 1, none⟩ (.slice aob lenb capb)).setCell ⟨g11, 0, none⟩ (.int .u32 (la : Int))).setCell ⟨g11, 1, none⟩ (.slice aoa lena capa)).heap[g11]? = _ := heap_setCell_same _ g11 1 _ _ _ t3
        have k : ∀ j, j ≠ g9 → j ≠ g11 → ((((W4.setCell ⟨g9, 0, none⟩ (.int .u32 (lb : Int))).setCell ⟨g9, 1, none⟩ (.slice aob lenb capb)).setCell ⟨g11, 0, none⟩ (.int .u32 (la : Int))).setCell ⟨g11, 1, none⟩ (.slice aoa lena capa)).heap[j]? = W4.heap[j]? := fun j h8 h9 => (Below.heap_setCell _ _ _ _ h9).trans ((Below.heap_setCell _ _ _ _ h9).trans ((Below.heap_setCell _ _ _ _ h8).trans (Below.heap_setCell _ _ _ _ h8)))
        have kt : ∀ {x : Nat} {c : ClD}, ToldR W4 w.heap.size A cl x c → ToldR ((((W4.setCell ⟨g9, 0, none⟩ (.int .u32 (lb : Int))).setCell ⟨g9, 1, none⟩ (.slice aob lenb capb)).setCell ⟨g11, 0, none⟩ (.int .u32 (la : Int))).setCell ⟨g11, 1, none⟩ (.slice aoa lena capa)) w.heap.size A cl x c := fun {x c} h => ⟨h.1, h.2.1, h.2.2.1.kept fun y hy => k _ (h.2.2.1.noCells b9 (by decide) y hy) (h.2.2.1.noCells b11 (by decide) y hy), h.2.2.2⟩
        have hs : ∀ (X : World) (g : Nat), w.heap.size ≤ g → Below w.heap.size w X → ∀ i v, Below w.heap.size w (X.setCell ⟨g, i, none⟩ v) := fun X g hg hX i v => hX.trans ((Turned.set (S := fun k => k = g) (w := X) (a := ⟨g, i, none⟩) rfl v).below hX.size (fun k hk => by rw [hk]; exact hg))
        exact ⟨(Below.heap_setCell _ _ _ _ hg911).trans ((Below.heap_setCell _ _ _ _ hg911).trans s2), t4, hs _ _ hg11 (hs _ _ hg11 (hs _ _ hg9 (hs _ _ hg9 HB4.out 0 _) 1 _) 0 _) 1 _, kt hTa, kt hTb⟩)
      have hg9 := Lib.hid hg9
      have HNe := Lib.hid hnm
      have HLt := Lib.hid hlt
      clear hTa hTb b9 b11 hg11 hnm hlt
      go_upto_region 10 with fail
      obtain ⟨W5, hW5e⟩ : ∃ W5, W5 = (((W4.setCell ⟨g9, 0, none⟩ (.int .u32 (lb : Int))).setCell ⟨g9, 1, none⟩ (.slice aob lenb capb)).setCell ⟨g11, 0, none⟩ (.int .u32 (la : Int))).setCell ⟨g11, 1, none⟩ (.slice aoa lena capa) := ⟨_, rfl⟩
      rw [← hW5e]
      obtain ⟨x9, x11, xb, xa, xc⟩ := HEx.out W5 hW5e
      have hb9 := Lib.hid x9
      have hb11 := Lib.hid x11
      have HW5 := Lib.hid xb
      have hT9 := Lib.hid xc
      have hT11 := Lib.hid xa
      have hg911 := Lib.hid hg911
      clear hW5e x9 x11 xb xa xc y90 y91 y110 y111 fz9 fz11 hg119
      have HJ0 : Hid (JoinS w W5 S pb nb cb g9 g11 A cl cl (lookA A b).1 (lookA A a).1 (⟨lb, aob, lenb, capb⟩ : ClD) (⟨lb, aob, lenb, capb⟩ : ClD) (⟨la, aoa, lena, capa⟩ : ClD) (lookA A b).2.2 A.nm) := Lib.hid (JoinS.make H.out HW5.out b a hT9.out hb9.out hb11.out hg9.out hg911.out)
      have HT11 := hT11
      have HT9 := hT9
      clear hT9 hT11 hb9 hb11 hg9 hg911
      obtain ⟨n, hn⟩ : ∃ n, n = (lookA A b).1 := ⟨_, rfl⟩
      obtain ⟨o, ho⟩ : ∃ o, o = (lookA A a).1 := ⟨_, rfl⟩
      obtain ⟨l2, hl2⟩ : ∃ l2, l2 = (lookA A a).2.2 := ⟨_, rfl⟩
      rw [← hn, ← ho] at HJ0
      rw [← hn, ← ho]
      have hlen2 : lena = l2.length := by rw [hl2]; exact HT11.out.2.1
      have hle2 : l2.length ≤ 100000 := by rw [hl2]; exact HF.out _
      have hrow2 : RowK W5 23 1 aoa lena capa (u32C l2) := by rw [hl2]; exact HT11.out.2.2.1
      have HN := Lib.hid hn
      have HO := Lib.hid ho
      have HL2 := Lib.hid hl2
      have HRow2 := Lib.hid hrow2
      have HLen2 := Lib.hid hlen2
      clear hn ho hl2 hrow2
      have k0 : W5.cell? ⟨pb, 0, none⟩ = some (.map (some nb)) := cell_in HJ0.out.blk rfl
      obtain ⟨W6, hup, hm6, ht6⟩ := HJ0.out.names.put1 (P := Try.prog) Try.underlying45 Try.underlying23 n n
      have HJ1 := Lib.hid (HJ0.out.name hm6 ht6)
      have HRow6 : Hid (RowK W6 23 1 aoa lena capa (u32C l2)) := Lib.hid (HRow2.out.kept fun x hx => by
        obtain ⟨cur, hc⟩ := HRow2.out.type hx
        exact ht6.block _ (Array.getElem?_eq_some_iff.1 hc).1 (HJ0.out.names.noCells hc))
      clear hm6 ht6
      have j11 : W6.cell? ⟨g11, 1, none⟩ = some (.slice aoa lena capa) := cell_in HJ1.out.b11 rfl
      go_wp2
      clear k0 hup j11
      go_loopg [61] l2.length (fun gg i wr => ∃ k : Nat, k ≤ l2.length ∧ l2.length - k ≤ gg ∧ i = .int .i64 (k : Int) ∧ JoinS w wr S pb nb cb g9 g11 A cl cl n o (⟨lb, aob, lenb, capb⟩ : ClD) (⟨lb, aob, lenb, capb⟩ : ClD) (⟨la, aoa, lena, capa⟩ : ClD) (lookA A b).2.2 (fun q => if q ∈ l2.take k then some n else if n = q then some n else A.nm q) ∧ RowK wr 23 1 aoa lena capa (u32C l2))
      case atStart => exact ⟨0, by omega, by omega, rfl, by simpa using HJ1.out, HRow6.out⟩
      case round =>
        obtain ⟨k, hk, hg, rfl, hj, hr2⟩ := hrel
        obtain rfl | hkl : k = l2.length ∨ k < l2.length := by omega
        rotate_left
        · obtain ⟨g, q0, rfl, hcell, _⟩ := hr2.at_ (by omega)
          have ck := hcell k (.int .u32 (l2[k] : Int)) (by unfold u32C; rw [List.getElem?_map, List.getElem?_eq_getElem hkl]; rfl)
          have k0 : wr.cell? ⟨pb, 0, none⟩ = some (.map (some nb)) := cell_in hj.blk rfl
          obtain ⟨x, hx⟩ : ∃ x, x = l2[k] := ⟨_, rfl⟩
          rw [← hx] at ck
          obtain ⟨W7, hup, hm7, ht7⟩ := hj.names.put1 (P := Try.prog) Try.underlying45 Try.underlying23 x n
          have hf7 : (fun q => if x = q then some n else (if q ∈ l2.take k then some n else if n = q then some n else A.nm q)) = fun q => if q ∈ l2.take (k + 1) then some n else if n = q then some n else A.nm q := by
            funext q
            rw [List.take_add_one, List.getElem?_eq_getElem hkl, ← hx]
            by_cases e1 : x = q
            · simp [e1]
            · have : ¬ q = x := fun e => e1 e.symm
              simp [e1, this]
          rw [hf7] at hm7
          have HJ7 := Lib.hid (hj.name hm7 ht7)
          have HR7 := Lib.hid (hr2.kept (U := W7) fun y hy => by
            obtain ⟨cur, hc⟩ := hr2.type hy
            exact ht7.block _ (Array.getElem?_eq_some_iff.1 hc).1 (hj.names.noCells hc))
          have e4 : decide (k < lena) = true := decide_eq_true (by omega)
          have e5 : decide ((k : Int) < (lena : Int)) = true := decide_eq_true (by omega)
          clear hj hr2 hcell hx hm7 ht7 hf7
          go_wp2
          go_roundg (l2.length - (k + 1))
          case measure => omega
          case rel => exact ⟨k + 1, by omega, by omega, by go_num, HJ7.out, HR7.out⟩
        · have hnm : (fun q => if q ∈ l2.take l2.length then some n else if n = q then some n else A.nm q) = (mergeA A n (lookA A b).2.1 (lookA A b).2.2 o (lookA A a).2.1 (lookA A a).2.2).nm := by
            funext q
            rw [List.take_length, HL2.out]
            rfl
          rw [hnm] at hj
          have e4 : decide ((lena : Int) < (lena : Int)) = false := decide_eq_false (by omega)
          have e8 : decide (lena < lena) = false := decide_eq_false (by omega)
          have q9 : wr.cell? ⟨g9, 0, none⟩ = some (.int .u32 (lb : Int)) := cell_in hj.b9 rfl
          have q11 : wr.cell? ⟨g11, 0, none⟩ = some (.int .u32 (la : Int)) := cell_in hj.b11 rfl
          have qf : ∀ i, wr.frozen? ⟨g9, i, none⟩ = false := fun i => free_in hj.b9 i
          have HJr := Lib.hid hj
          have HRr := Lib.hid hr2
          clear hj hr2 hnm
          go_upto_region 17 with fail
          have hmin : min (lb : Int) (la : Int) = ((min lb la : Nat) : Int) := by omega
          rw [hmin]
          obtain ⟨m, hm⟩ : ∃ m, m = min lb la := ⟨_, rfl⟩
          rw [← hm]
          have HJ17a := Lib.hid (HJr.out.put0 m)
          have HR17a : Hid (RowK (wr.setCell ⟨g9, 0, none⟩ (.int .u32 (m : Int))) 23 1 aoa lena capa (u32C l2)) := Lib.hid (HRr.out.kept fun y hy => Below.heap_setCell _ _ _ _ (HRr.out.noCells HJr.out.b9 (by decide) y hy))
          obtain ⟨W17, hW17⟩ : ∃ W17, W17 = wr.setCell ⟨g9, 0, none⟩ (.int .u32 (m : Int)) := ⟨_, rfl⟩
          rw [← hW17] at HJ17a HR17a ⊢
          have HM := Lib.hid hm
          clear hmin hm hW17 q9 q11 qf
          have q91 : W17.cell? ⟨g9, 1, none⟩ = some (.slice aob lenb capb) := cell_in HJ17a.out.b9 rfl
          have q111 : W17.cell? ⟨g11, 1, none⟩ = some (.slice aoa lena capa) := cell_in HJ17a.out.b11 rfl
          obtain ⟨iN, zN, hiN, hzN, hsN, hbN, hcN⟩ := info_un32
          have HIN := Lib.hid hiN
          have HZN := Lib.hid hzN
          have HSN := Lib.hid hsN
          have HBN := Lib.hid hbN
          have HCN := Lib.hid hcN
          have HRow17 : Hid (RowK W17 23 1 aob lenb capb (u32C (lookA A b).2.2)) := Lib.hid HJ17a.out.row
          have HNl : Hid ((u32C l2).length = lena * 1) := Lib.hid HR17a.out.1
          have HNw : Hid (0 < lena → ∃ a, aoa = some a ∧ ∀ j u, (u32C l2)[j]? = some u → W17.cell? (a.add j) = some u) := Lib.hid (fun hl => by
            obtain ⟨g, q0, e, hc, _⟩ := HR17a.out.at_ hl
            exact ⟨_, e, fun j u hu => by rw [Addr.add_mid]; exact hc j u hu⟩)
          have HOne : Hid (∀ u ∈ u32C l2, u.oneCell' = true) := Lib.hid (fun u hu => by
            obtain ⟨y, _, rfl⟩ := List.mem_map.1 hu
            rfl)
          have hlen1 : lenb = (lookA A b).2.2.length := HT9.out.2.1
          have hle1 : (lookA A b).2.2.length ≤ 100000 := HF.out _
          have hsum : lenb + lena ≤ 200000 := by omega
          clear hiN hzN hsN hbN hcN hlen1 hle1 hlen2 hle2
          go_upto_region 18 with (at_builtin; refine wpList_append_rows (by rfl) (.tmp 79) (.tmp 81) 33 rfl 23 iN zN 1 4 Try.underlying33 HIN.out HZN.out HSN.out HBN.out HCN.out aob lenb capb (u32C (lookA A b).2.2) rfl HRow17.out aoa lena capa (u32C l2) rfl HNl.out HNw.out HOne.out (by unfold maxLen; omega) (by omega) ?_; intro aoN capN W18 hR18 hT18 hor18 hkp18; have HOr : Hid (∀ x, aoN = some x → x.block < w.heap.size → ∃ c, cl n = some c ∧ c.ao = aoN ∧ c.len ≤ lenb + lena) := Lib.hid (by rw [HN.out]; exact told_in HT9.out HJ17a.out.tur.size hor18 _ (Nat.le_add_right _ _)); have HJ18 := Lib.hid (HJ17a.out.app (L := (lookA A b).2.2 ++ l2) (r := ⟨m, aoN, lenb + lena, capN⟩) hT18 (by unfold u32C at *; rw [List.map_append]; exact hR18) hor18 hkp18 (by rw [HN.out]; exact told_own HT9.out)); clear hR18 hT18 hor18 hkp18; have s91 : W18.cell? ⟨g9, 1, none⟩ = some (.slice aob lenb capb) := cell_in HJ18.out.b9 rfl; have sf : ∀ i, W18.frozen? ⟨g9, i, none⟩ = false := fun i => free_in HJ18.out.b9 i)
          have HJ19 := Lib.hid ((HJ18.out.put1 aoN (lenb + lena) capN).drew)
          obtain ⟨W19, hW19⟩ : ∃ W19, W19 = W18.setCell ⟨g9, 1, none⟩ (.slice aoN (lenb + lena) capN) := ⟨_, rfl⟩
          rw [← hW19] at HJ19 ⊢
          clear hW19 q91 q111 s91 sf
          have t1 : W19.drew.cell? ⟨pb, 1, none⟩ = some (.map (some cb)) := cell_in HJ19.out.blk rfl
          have t90 : W19.drew.cell? ⟨g9, 0, none⟩ = some (.int .u32 (m : Int)) := cell_in HJ19.out.b9 rfl
          have t91 : W19.drew.cell? ⟨g9, 1, none⟩ = some (.slice aoN (lenb + lena) capN) := cell_in HJ19.out.b9 rfl
          obtain ⟨W20, hup, hm20, ht20⟩ := HJ19.out.cliques.put1 (P := Try.prog) Try.underlying46 Try.underlying23 n ⟨m, aoN, lenb + lena, capN⟩
          change (Instr.mapUpdate 46 (.map (some cb)) (.int .u32 (n : Int)) (.agg #[.int .u32 (m : Int), .slice aoN (lenb + lena) capN])).run _ _ = _ at hup
          have HJ20 := Lib.hid (HJ19.out.clq hm20 ht20)
          clear hm20 ht20
          have u1 : W20.cell? ⟨pb, 1, none⟩ = some (.map (some cb)) := cell_in HJ20.out.blk rfl
          obtain ⟨W21, hdl, hm21, ht21⟩ := HJ20.out.cliques.drop1 (P := Try.prog) Try.underlying46 Try.underlying23 0 23 o
          have HJ21 := Lib.hid (HJ20.out.clq hm21 ht21)
          clear hm21 ht21
          have u90 : W21.cell? ⟨g9, 0, none⟩ = some (.int .u32 (m : Int)) := cell_in HJ21.out.b9 rfl
          have HEnd : Hid ((m : Int) = ((joinA A a b).2.1 : Int) ∧ (joinA A a b).2.2 = true ∧ Turned S w W21 ∧ ∃ cl', PartI W21 (growS S w W21) pb nb cb (joinA A a b).1 cl' ∧ ∀ p v, Safe w cl p v → Safe W21 cl' p v) := Lib.hid (by
            rw [HJ.out, if_neg HNe.out, if_pos HLt.out]
            have hA' := (merge_inv HA.out b a HB0.out HA0.out ((fun e => HNe.out e.symm))).1
            rw [← HN.out, ← HO.out, ← HL2.out] at hA' ⊢
            refine ⟨by rw [HM.out, HT9.out.1.symm, HT11.out.1.symm], rfl, HJ21.out.tur, _, HJ21.out.part (d9 := ⟨m, aoN, lenb + lena, capN⟩) hA' (by rw [HL2.out]) ?_ ?_ ?_ H.out.apart, HJ21.out.safe HOr.out⟩
            · rw [HL2.out, List.length_append, HT9.out.2.1.symm, ← HT11.out.2.1]
            · show (mergeA A n (lookA A b).2.1 (lookA A b).2.2 o (lookA A a).2.1 l2).ab = _
              have e1 : m = min (lookA A b).2.1 (lookA A a).2.1 := by rw [HM.out, HT9.out.1.symm, HT11.out.1.symm]
              rw [e1]
              rfl
            · exact fun e => HNe.out (by rw [← HN.out, ← HO.out, e]))
          go_region_with fail
          all_goals (go_wp2; go_ret2; exact ⟨by rw [HEnd.out.1, HEnd.out.2.1]; rfl, HEnd.out.2.2.1, HEnd.out.2.2.2⟩)
    · have e6 : decide ((lena : Int) < (lenb : Int)) = false := decide_eq_false (by have := hTa.2.1; have := hTb.2.1; dsimp only at *; omega)
      have e7 : decide (lena < lenb) = false := decide_eq_false (by have := hTa.2.1; have := hTb.2.1; dsimp only at *; omega)
      have HW5 := HB4
      have hT9 := Lib.hid hTa
      have hT11 := Lib.hid hTb
      have hb9 := Lib.hid b9
      have hb11 := Lib.hid b11
      have hg9 := Lib.hid hg9
      have hg911 := Lib.hid hg911
      have HNe := Lib.hid hnm
      have HLt := Lib.hid hlt
      clear hTa hTb b9 b11 hg11 hnm hlt
      go_upto_region 10 with fail
      have HJ0 : Hid (JoinS w W4 S pb nb cb g9 g11 A cl cl (lookA A a).1 (lookA A b).1 (⟨la, aoa, lena, capa⟩ : ClD) (⟨la, aoa, lena, capa⟩ : ClD) (⟨lb, aob, lenb, capb⟩ : ClD) (lookA A a).2.2 A.nm) := Lib.hid (JoinS.make H.out HW5.out a b hT9.out hb9.out hb11.out hg9.out hg911.out)
      have HT11 := hT11
      have HT9 := hT9
      clear hT9 hT11 hb9 hb11 hg9 hg911
      obtain ⟨n, hn⟩ : ∃ n, n = (lookA A a).1 := ⟨_, rfl⟩
      obtain ⟨o, ho⟩ : ∃ o, o = (lookA A b).1 := ⟨_, rfl⟩
      obtain ⟨l2, hl2⟩ : ∃ l2, l2 = (lookA A b).2.2 := ⟨_, rfl⟩
      rw [← hn, ← ho] at HJ0
      rw [← hn, ← ho]
      have hlen2 : lenb = l2.length := by rw [hl2]; exact HT11.out.2.1
      have hle2 : l2.length ≤ 100000 := by rw [hl2]; exact HF.out _
      have hrow2 : RowK W4 23 1 aob lenb capb (u32C l2) := by rw [hl2]; exact HT11.out.2.2.1
      have HN := Lib.hid hn
      have HO := Lib.hid ho
      have HL2 := Lib.hid hl2
      have HRow2 := Lib.hid hrow2
      have HLen2 := Lib.hid hlen2
      clear hn ho hl2 hrow2
      have k0 : W4.cell? ⟨pb, 0, none⟩ = some (.map (some nb)) := cell_in HJ0.out.blk rfl
      obtain ⟨W6, hup, hm6, ht6⟩ := HJ0.out.names.put1 (P := Try.prog) Try.underlying45 Try.underlying23 n n
      have HJ1 := Lib.hid (HJ0.out.name hm6 ht6)
      have HRow6 : Hid (RowK W6 23 1 aob lenb capb (u32C l2)) := Lib.hid (HRow2.out.kept fun x hx => by
        obtain ⟨cur, hc⟩ := HRow2.out.type hx
        exact ht6.block _ (Array.getElem?_eq_some_iff.1 hc).1 (HJ0.out.names.noCells hc))
      clear hm6 ht6
      have j11 : W6.cell? ⟨g11, 1, none⟩ = some (.slice aob lenb capb) := cell_in HJ1.out.b11 rfl
      go_wp2
      clear k0 hup j11
      go_loopg [61] l2.length (fun gg i wr => ∃ k : Nat, k ≤ l2.length ∧ l2.length - k ≤ gg ∧ i = .int .i64 (k : Int) ∧ JoinS w wr S pb nb cb g9 g11 A cl cl n o (⟨la, aoa, lena, capa⟩ : ClD) (⟨la, aoa, lena, capa⟩ : ClD) (⟨lb, aob, lenb, capb⟩ : ClD) (lookA A a).2.2 (fun q => if q ∈ l2.take k then some n else if n = q then some n else A.nm q) ∧ RowK wr 23 1 aob lenb capb (u32C l2))
      case atStart => exact ⟨0, by omega, by omega, rfl, by simpa using HJ1.out, HRow6.out⟩
      case round =>
        obtain ⟨k, hk, hg, rfl, hj, hr2⟩ := hrel
        obtain rfl | hkl : k = l2.length ∨ k < l2.length := by omega
        rotate_left
        · obtain ⟨g, q0, rfl, hcell, _⟩ := hr2.at_ (by omega)
          have ck := hcell k (.int .u32 (l2[k] : Int)) (by unfold u32C; rw [List.getElem?_map, List.getElem?_eq_getElem hkl]; rfl)
          have k0 : wr.cell? ⟨pb, 0, none⟩ = some (.map (some nb)) := cell_in hj.blk rfl
          obtain ⟨x, hx⟩ : ∃ x, x = l2[k] := ⟨_, rfl⟩
          rw [← hx] at ck
          obtain ⟨W7, hup, hm7, ht7⟩ := hj.names.put1 (P := Try.prog) Try.underlying45 Try.underlying23 x n
          have hf7 : (fun q => if x = q then some n else (if q ∈ l2.take k then some n else if n = q then some n else A.nm q)) = fun q => if q ∈ l2.take (k + 1) then some n else if n = q then some n else A.nm q := by
            funext q
            rw [List.take_add_one, List.getElem?_eq_getElem hkl, ← hx]
            by_cases e1 : x = q
            · simp [e1]
            · have : ¬ q = x := fun e => e1 e.symm
              simp [e1, this]
          rw [hf7] at hm7
          have HJ7 := Lib.hid (hj.name hm7 ht7)
          have HR7 := Lib.hid (hr2.kept (U := W7) fun y hy => by
            obtain ⟨cur, hc⟩ := hr2.type hy
            exact ht7.block _ (Array.getElem?_eq_some_iff.1 hc).1 (hj.names.noCells hc))
          have e4 : decide (k < lenb) = true := decide_eq_true (by omega)
          have e5 : decide ((k : Int) < (lenb : Int)) = true := decide_eq_true (by omega)
          clear hj hr2 hcell hx hm7 ht7 hf7
          go_wp2
          go_roundg (l2.length - (k + 1))
          case measure => omega
          case rel => exact ⟨k + 1, by omega, by omega, by go_num, HJ7.out, HR7.out⟩
        · have hnm : (fun q => if q ∈ l2.take l2.length then some n else if n = q then some n else A.nm q) = (mergeA A n (lookA A a).2.1 (lookA A a).2.2 o (lookA A b).2.1 (lookA A b).2.2).nm := by
            funext q
            rw [List.take_length, HL2.out]
            rfl
          rw [hnm] at hj
          have e4 : decide ((lenb : Int) < (lenb : Int)) = false := decide_eq_false (by omega)
          have e8 : decide (lenb < lenb) = false := decide_eq_false (by omega)
          have q9 : wr.cell? ⟨g9, 0, none⟩ = some (.int .u32 (la : Int)) := cell_in hj.b9 rfl
          have q11 : wr.cell? ⟨g11, 0, none⟩ = some (.int .u32 (lb : Int)) := cell_in hj.b11 rfl
          have qf : ∀ i, wr.frozen? ⟨g9, i, none⟩ = false := fun i => free_in hj.b9 i
          have HJr := Lib.hid hj
          have HRr := Lib.hid hr2
          clear hj hr2 hnm
          go_upto_region 17 with fail
          have hmin : min (la : Int) (lb : Int) = ((min la lb : Nat) : Int) := by omega
          rw [hmin]
          obtain ⟨m, hm⟩ : ∃ m, m = min la lb := ⟨_, rfl⟩
          rw [← hm]
          have HJ17a := Lib.hid (HJr.out.put0 m)
          have HR17a : Hid (RowK (wr.setCell ⟨g9, 0, none⟩ (.int .u32 (m : Int))) 23 1 aob lenb capb (u32C l2)) := Lib.hid (HRr.out.kept fun y hy => Below.heap_setCell _ _ _ _ (HRr.out.noCells HJr.out.b9 (by decide) y hy))
          obtain ⟨W17, hW17⟩ : ∃ W17, W17 = wr.setCell ⟨g9, 0, none⟩ (.int .u32 (m : Int)) := ⟨_, rfl⟩
          rw [← hW17] at HJ17a HR17a ⊢
          have HM := Lib.hid hm
          clear hmin hm hW17 q9 q11 qf
          have q91 : W17.cell? ⟨g9, 1, none⟩ = some (.slice aoa lena capa) := cell_in HJ17a.out.b9 rfl
          have q111 : W17.cell? ⟨g11, 1, none⟩ = some (.slice aob lenb capb) := cell_in HJ17a.out.b11 rfl
          obtain ⟨iN, zN, hiN, hzN, hsN, hbN, hcN⟩ := info_un32
          have HIN := Lib.hid hiN
          have HZN := Lib.hid hzN
          have HSN := Lib.hid hsN
          have HBN := Lib.hid hbN
          have HCN := Lib.hid hcN
          have HRow17 : Hid (RowK W17 23 1 aoa lena capa (u32C (lookA A a).2.2)) := Lib.hid HJ17a.out.row
          have HNl : Hid ((u32C l2).length = lenb * 1) := Lib.hid HR17a.out.1
          have HNw : Hid (0 < lenb → ∃ a, aob = some a ∧ ∀ j u, (u32C l2)[j]? = some u → W17.cell? (a.add j) = some u) := Lib.hid (fun hl => by
            obtain ⟨g, q0, e, hc, _⟩ := HR17a.out.at_ hl
            exact ⟨_, e, fun j u hu => by rw [Addr.add_mid]; exact hc j u hu⟩)
          have HOne : Hid (∀ u ∈ u32C l2, u.oneCell' = true) := Lib.hid (fun u hu => by
            obtain ⟨y, _, rfl⟩ := List.mem_map.1 hu
            rfl)
          have hlen1 : lena = (lookA A a).2.2.length := HT9.out.2.1
          have hle1 : (lookA A a).2.2.length ≤ 100000 := HF.out _
          have hsum : lena + lenb ≤ 200000 := by omega
          clear hiN hzN hsN hbN hcN hlen1 hle1 hlen2 hle2
          go_upto_region 18 with (at_builtin; refine wpList_append_rows (by rfl) (.tmp 79) (.tmp 81) 33 rfl 23 iN zN 1 4 Try.underlying33 HIN.out HZN.out HSN.out HBN.out HCN.out aoa lena capa (u32C (lookA A a).2.2) rfl HRow17.out aob lenb capb (u32C l2) rfl HNl.out HNw.out HOne.out (by unfold maxLen; omega) (by omega) ?_; intro aoN capN W18 hR18 hT18 hor18 hkp18; have HOr : Hid (∀ x, aoN = some x → x.block < w.heap.size → ∃ c, cl n = some c ∧ c.ao = aoN ∧ c.len ≤ lena + lenb) := Lib.hid (by rw [HN.out]; exact told_in HT9.out HJ17a.out.tur.size hor18 _ (Nat.le_add_right _ _)); have HJ18 := Lib.hid (HJ17a.out.app (L := (lookA A a).2.2 ++ l2) (r := ⟨m, aoN, lena + lenb, capN⟩) hT18 (by unfold u32C at *; rw [List.map_append]; exact hR18) hor18 hkp18 (by rw [HN.out]; exact told_own HT9.out)); clear hR18 hT18 hor18 hkp18; have s91 : W18.cell? ⟨g9, 1, none⟩ = some (.slice aoa lena capa) := cell_in HJ18.out.b9 rfl; have sf : ∀ i, W18.frozen? ⟨g9, i, none⟩ = false := fun i => free_in HJ18.out.b9 i)
          have HJ19 := Lib.hid ((HJ18.out.put1 aoN (lena + lenb) capN).drew)
          obtain ⟨W19, hW19⟩ : ∃ W19, W19 = W18.setCell ⟨g9, 1, none⟩ (.slice aoN (lena + lenb) capN) := ⟨_, rfl⟩
          rw [← hW19] at HJ19 ⊢
          clear hW19 q91 q111 s91 sf
          have t1 : W19.drew.cell? ⟨pb, 1, none⟩ = some (.map (some cb)) := cell_in HJ19.out.blk rfl
          have t90 : W19.drew.cell? ⟨g9, 0, none⟩ = some (.int .u32 (m : Int)) := cell_in HJ19.out.b9 rfl
          have t91 : W19.drew.cell? ⟨g9, 1, none⟩ = some (.slice aoN (lena + lenb) capN) := cell_in HJ19.out.b9 rfl
          obtain ⟨W20, hup, hm20, ht20⟩ := HJ19.out.cliques.put1 (P := Try.prog) Try.underlying46 Try.underlying23 n ⟨m, aoN, lena + lenb, capN⟩
          change (Instr.mapUpdate 46 (.map (some cb)) (.int .u32 (n : Int)) (.agg #[.int .u32 (m : Int), .slice aoN (lena + lenb) capN])).run _ _ = _ at hup
          have HJ20 := Lib.hid (HJ19.out.clq hm20 ht20)
          clear hm20 ht20
          have u1 : W20.cell? ⟨pb, 1, none⟩ = some (.map (some cb)) := cell_in HJ20.out.blk rfl
          obtain ⟨W21, hdl, hm21, ht21⟩ := HJ20.out.cliques.drop1 (P := Try.prog) Try.underlying46 Try.underlying23 0 23 o
          have HJ21 := Lib.hid (HJ20.out.clq hm21 ht21)
          clear hm21 ht21
          have u90 : W21.cell? ⟨g9, 0, none⟩ = some (.int .u32 (m : Int)) := cell_in HJ21.out.b9 rfl
          have HEnd : Hid ((m : Int) = ((joinA A a b).2.1 : Int) ∧ (joinA A a b).2.2 = true ∧ Turned S w W21 ∧ ∃ cl', PartI W21 (growS S w W21) pb nb cb (joinA A a b).1 cl' ∧ ∀ p v, Safe w cl p v → Safe W21 cl' p v) := Lib.hid (by
            rw [HJ.out, if_neg HNe.out, if_neg HLt.out]
            have hA' := (merge_inv HA.out a b HA0.out HB0.out (HNe.out)).1
            rw [← HN.out, ← HO.out, ← HL2.out] at hA' ⊢
            refine ⟨by rw [HM.out, HT9.out.1.symm, HT11.out.1.symm], rfl, HJ21.out.tur, _, HJ21.out.part (d9 := ⟨m, aoN, lena + lenb, capN⟩) hA' (by rw [HL2.out]) ?_ ?_ ?_ H.out.apart, HJ21.out.safe HOr.out⟩
            · rw [HL2.out, List.length_append, HT9.out.2.1.symm, ← HT11.out.2.1]
            · show (mergeA A n (lookA A a).2.1 (lookA A a).2.2 o (lookA A b).2.1 l2).ab = _
              have e1 : m = min (lookA A a).2.1 (lookA A b).2.1 := by rw [HM.out, HT9.out.1.symm, HT11.out.1.symm]
              rw [e1]
              rfl
            · exact fun e => HNe.out (by rw [← HN.out, ← HO.out, e]))
          go_region_with fail
          all_goals (go_wp2; go_ret2; exact ⟨by rw [HEnd.out.1, HEnd.out.2.1]; rfl, HEnd.out.2.2.1, HEnd.out.2.2.2⟩)
end
end Go.Proofs.Ytjbfjglomonanaa

