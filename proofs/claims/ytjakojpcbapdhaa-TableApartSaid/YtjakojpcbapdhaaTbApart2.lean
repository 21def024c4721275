/-
  THE WALK OF TableApart.
-/
import Derived.Test.YtjakojpcbapdhaaTbApart
import Derived.Test.YtjakojpcbapdhaaTbKnown
namespace Go.Proofs.Ytjakojpcbapdhaa
open Go.RowKit Go.Shelf
set_option linter.unusedVariables false
set_option linter.unusedSimpArgs false

/-- What of an argument is read: an act's cells, wherever the law has come to. -/
def ActAt (w : World) (ao : Option Addr) (l : List ActN) : Prop := ∀ U, Below w.heap.size w U → ∀ (k : Nat) (a : ActN), l[k]? = some a → okA a ∧ ∃ b off, ao = some ⟨b, off, none⟩ ∧ ∀ j u, (actL a)[j]? = some u → U.cell? ⟨b, off + k * 7 + j, none⟩ = some u
theorem act_at {v : Value} {l : List ActN} {w : World} (hv : SliceK actL w v l) (hok : ∀ a ∈ l, okA a) : ∃ ao cap, v = .slice ao l.length cap ∧ l.length ≤ maxLen ∧ ActAt w ao l := by
  rcases hv with ⟨rfl, rfl⟩ | ⟨b, off, cap, rfl, h1, h2, h3⟩
  · exact ⟨none, 0, rfl, Nat.zero_le _, fun U hU k a hk => by simp at hk⟩
  · refine ⟨_, cap, rfl, by omega, fun U hU k a hk => ⟨hok a (List.mem_of_getElem? hk), b, off, rfl, fun j u hu => ?_⟩⟩
    have hj7 : j < 7 := (List.getElem?_eq_some_iff.1 hu).1
    have h4 := h3 (k * 7 + j) u (by rw [flat_get actL 7 (fun _ => rfl) l k j a hk hj7]; exact hu)
    rw [← Nat.add_assoc] at h4
    exact (hU.cell (p := ⟨b, off + k * 7 + j, none⟩) (World.block_lt_of_cell? _ ⟨b, off + k * 7 + j, none⟩ h4)).trans h4
theorem playL_len (R : List EntN) (l : List ActN) (k : Nat) (h : R.length ≤ 100) (hk : k ≤ 50) : (playR R l k).length ≤ 1000000 := by
  have := playR_len R l k
  omega
set_option maxRecDepth 100000 in
set_option maxHeartbeats 4000000 in
theorem apart_walk (v va vb : Value) (l la lb : List ActN) (w : World) (hv : SliceK actL w v l) (hok : ∀ a ∈ l, okA a) (hva : SliceK actL w va la) (hoka : ∀ a ∈ la, okA a) (hvb : SliceK actL w vb lb) (hokb : ∀ a ∈ lb, okA a) :
    Calls Try.prog 6 #[v, va, vb] w fun e w' => e = .returned (.bool true) ∧ Below w.heap.size w w' := by
  obtain ⟨ao, cap, rfl, hmax, hAt⟩ := act_at hv hok
  obtain ⟨aoa, capa, rfl, hmaxa, hAta⟩ := act_at hva hoka
  obtain ⟨aob, capb, rfl, hmaxb, hAtb⟩ := act_at hvb hokb
  have HAt := Lib.hid hAt
  have HAta := Lib.hid hAta
  have HAtb := Lib.hid hAtb
  have HKn := Lib.hid known8_any
  clear hv hok hva hoka hvb hokb hAt hAta hAtb
  by_cases hl : 50 < l.length
  · have e1' : decide (50 < (l.length : Int)) = true := by simp; omega
    have e1n : decide (50 < l.length) = true := by simpa using hl
    clear hl
    go_enter Try.func6, Try.ntmps6
    go_wp2_with (go_at_call 7; refine (HKn.out _).mono ?_; rintro e w' ⟨rfl, hb⟩; replace hb := Lib.hid hb)
    go_ret
    exact ⟨rfl, hb.out⟩
  have e1' : decide (50 < (l.length : Int)) = false := by simp; omega
  have e1n : decide (50 < l.length) = false := by simpa using hl
  by_cases hla : 50 < la.length
  · have e2' : decide (50 < (la.length : Int)) = true := by simp; omega
    have e2n : decide (50 < la.length) = true := by simpa using hla
    clear hl hla
    go_enter Try.func6, Try.ntmps6
    go_wp2_with (go_at_call 7; refine (HKn.out _).mono ?_; rintro e w' ⟨rfl, hb⟩; replace hb := Lib.hid hb)
    go_ret
    exact ⟨rfl, hb.out⟩
  have e2' : decide (50 < (la.length : Int)) = false := by simp; omega
  have e2n : decide (50 < la.length) = false := by simpa using hla
  by_cases hlb : 50 < lb.length
  · have e3' : decide (50 < (lb.length : Int)) = true := by simp; omega
    have e3n : decide (50 < lb.length) = true := by simpa using hlb
    clear hl hla hlb
    go_enter Try.func6, Try.ntmps6
    go_wp2_with (go_at_call 7; refine (HKn.out _).mono ?_; rintro e w' ⟨rfl, hb⟩; replace hb := Lib.hid hb)
    go_ret
    exact ⟨rfl, hb.out⟩
  have e3' : decide (50 < (lb.length : Int)) = false := by simp; omega
  have e3n : decide (50 < lb.length) = false := by simpa using hlb
  have HNew := Lib.hid (tbNew_any w)
  have hl2 : l.length ≤ 50 := by omega
  have hla2 : la.length ≤ 50 := by omega
  have hlb2 : lb.length ≤ 50 := by omega
  clear hl hla hlb
  have HOne : Hid (∀ w1, Below w.heap.size w w1 → w1.heap.size = w.heap.size + 1 + 1 + 1 → TabI (w.heap.size + 1 + 1) gz0 w1 (fun j => w.heap.size ≤ j ∧ j < w.heap.size + 1 + 1 + 1) (w.heap.size + 1 + 1) [] →
      OneI w (w.heap.size + 1 + 1) (w.heap.size + 1 + 1) w1.heap.size (w1.heap.size + 1) [] ((w1.alloc (.cells #[.slice none 0 0, .slice none 0 0] 30)).alloc (.cells #[.slice none 0 0, .slice none 0 0] 30))) := Lib.hid (fun w1 h1 hs hT => by
    have hr := refNew w1 _ hT.lt
    have hs2 : (w1.alloc (.cells #[.slice none 0 0, .slice none 0 0] 30)).heap.size = w1.heap.size + 1 := World.size_alloc _ _
    have hn := heap_alloc_new (w1.alloc (.cells #[.slice none 0 0, .slice none 0 0] 30)) (.cells #[.slice none 0 0, .slice none 0 0] 30)
    rw [hs2] at hn
    have ha := (Below.refl w1.heap.size w1).alloc (Nat.le_refl _) (.cells #[.slice none 0 0, .slice none 0 0] 30)
    have hT2 := hT.below ha
    have hb2 := h1.alloc h1.size (.cells #[.slice none 0 0, .slice none 0 0] 30)
    generalize w1.alloc (.cells #[.slice none 0 0, .slice none 0 0] 30) = w2 at *
    have ha2 := (Below.refl w2.heap.size w2).alloc (Nat.le_refl _) (.cells #[.slice none 0 0, .slice none 0 0] 30)
    refine ⟨fun j => w.heap.size ≤ j ∧ j < w.heap.size + 1 + 1 + 1, fun j => j = w1.heap.size, ⟨hT2.below ha2, hr.below ha2, fun j hj hq => by omega⟩, hn, ⟨fun h => by omega, fun h => by omega⟩, hb2.alloc hb2.size _, by rw [World.size_alloc]; omega, fun j hj => by rcases hj with hj | hj <;> omega, by omega⟩)
  go_enter Try.func6, Try.ntmps6
  go_wp2_with (go_at_call 8; refine HNew.out.mono ?_; rintro e w1 ⟨rfl, hb1, hs1, hT1⟩; have hP := Lib.hid (HOne.out w1 hb1 hs1 hT1); clear hb1 hs1 hT1)
  obtain ⟨tb, htb⟩ : ∃ tb, tb = w.heap.size + 1 + 1 := ⟨_, rfl⟩
  obtain ⟨wb, hwb⟩ : ∃ wb, wb = w1.heap.size := ⟨_, rfl⟩
  obtain ⟨vb, hvb⟩ : ∃ vb, vb = w1.heap.size + 1 := ⟨_, rfl⟩
  rw [← htb, ← hvb, ← hwb] at hP
  rw [← htb, ← hvb, ← hwb]
  obtain ⟨B, hB⟩ : ∃ B, B = tb := ⟨_, rfl⟩
  have hP1 : Hid (OneI w B tb wb vb [] ((w1.alloc (.cells #[.slice none 0 0, .slice none 0 0] 30)).alloc (.cells #[.slice none 0 0, .slice none 0 0] 30))) := Lib.hid (by rw [hB]; exact hP.out)
  obtain ⟨iR, zR, hiR, hzR, hsR, hbR, hcR⟩ := info_rowS
  obtain ⟨iB, zB, hiB, hzB, hsB, hbB, hcB⟩ := info_bitS
  have HIR := Lib.hid hiR
  have HZR := Lib.hid hzR
  have HSR := Lib.hid hsR
  have HBR := Lib.hid hbR
  have HCR := Lib.hid hcR
  have HIB := Lib.hid hiB
  have HZB := Lib.hid hzB
  have HSB := Lib.hid hsB
  have HBB := Lib.hid hbB
  have HCB := Lib.hid hcB
  clear htb hwb hvb hP hB HOne HNew hiR hzR hsR hbR hcR hiB hzB hsB hbB hcB
  go_loopg [10] l.length (fun g i wr => ∃ k : Nat, k ≤ l.length ∧ l.length - k ≤ g ∧ i = .int .i64 (k : Int) ∧ OneI w B tb wb vb (playR [] l k) wr)
  case atStart => exact ⟨0, Nat.zero_le _, by omega, rfl, hP1.out⟩
  case round =>
    obtain ⟨k, hk, hg, rfl, hI⟩ := hrel
    have HI := Lib.hid hI
    have hln : (playR [] l k).length ≤ 50 := by have := playR_len [] l k; simp at this; omega
    by_cases hlt : k < l.length
    · obtain ⟨a, ha⟩ : ∃ a, l[k]? = some a := ⟨_, List.getElem?_eq_getElem hlt⟩
      obtain ⟨hka, b, off, rfl, hc⟩ := HAt.out wr hI.bel k a ha
      have c0 := hc 0 _ rfl
      have c1 := hc 1 _ rfl
      have c2 := hc 2 _ rfl
      have c3 := hc 3 _ rfl
      have c4 := hc 4 _ rfl
      have c5 := hc 5 _ rfl
      have c6 := hc 6 _ rfl
      rw [Nat.add_zero] at c0
      have e4 : decide ((k : Int) < (l.length : Int)) = true := by simp; omega
      have i0 : (0 : Int) ≤ (k : Int) := by omega
      have i1 : (k : Int) < (l.length : Int) := by omega
      have hdo := HI.out.do_ a hka (by omega)
      rw [← playR_succ ha] at hdo
      have HDo := Lib.hid hdo
      clear hI ha hka hc hdo hln
      go_wp2_with (go_at_call 9; refine HDo.out.mono ?_; rintro e w2 ⟨rfl, hI2⟩; replace hI2 := Lib.hid hI2)
      go_roundg (l.length - (k + 1))
      case measure => omega
      case rel => exact ⟨k + 1, by omega, Nat.le_refl _, by go_num, hI2.out⟩
    · obtain rfl : k = l.length := by omega
      have e4 : decide ((l.length : Int) < (l.length : Int)) = false := by simp
      generalize playR [] l l.length = R at *
      obtain ⟨ra, rc, ba, bc, ⟨x0, x1⟩, ⟨hr, hr0⟩, _⟩ := hI.cells
      have HRo := Lib.hid hr
      have HR0 := Lib.hid hr0
      clear hI hlt hg hk HAt hP1 hr hr0 x1
      go_upto_region 11 with (refine wpList_append_copy2 rfl (.tmp 51) 27 rfl 34 iR zR 3 12 Try.underlying27 HIR.out HZR.out HSR.out HBR.out HCR.out ra R.length rc (flatR R) rfl HRo.out HR0.out (by unfold maxLen; omega) (by omega) ?_; intro ra' rc' y1 r1 r2 r3 r4; have hm := HI.out.mid r2 r1 r3 r4; obtain ⟨⟨d1, d2⟩, hm2⟩ := hm; have hMid := Lib.hid hm2; clear r1 r2 r3 r4 hm2)
      obtain ⟨ba2, bc2, x1, hbt, hb0⟩ := hMid.out.cells
      have HBt := Lib.hid hbt
      have HB0 := Lib.hid hb0
      obtain ⟨Y1, hY1⟩ : ∃ Y1, Y1 = y1.setCell ⟨vb, 0, none⟩ (.slice ra' R.length rc') := ⟨_, rfl⟩
      rw [← hY1] at hMid HBt x1 ⊢
      clear hY1 hbt hb0 d1 d2 x0
      go_upto_region 12 with (refine wpList_append_copy2 rfl (.tmp 59) 28 rfl 35 iB zB 1 1 Try.underlying28 HIB.out HZB.out HSB.out HBB.out HCB.out ba2 R.length bc2 (bitsC R) rfl HBt.out HB0.out (by unfold maxLen; omega) (by omega) ?_; intro ba' bc' y2 r1 r2 r3 r4; have hm := hMid.out.three r2 r1 r3 r4; obtain ⟨⟨d1, d2⟩, hm2⟩ := hm; have hThree := Lib.hid hm2; clear r1 r2 r3 r4 hm2)
      have HCopy := Lib.hid (hThree.out.copy (by omega))
      go_wp2_with (go_at_call 19; refine HCopy.out.mono ?_; rintro e w3 ⟨t2, rfl, hPr⟩; replace hPr := Lib.hid hPr)
      obtain ⟨B2, hB2⟩ : ∃ B2, B2 = w3.heap.size := ⟨_, rfl⟩
      rw [← hB2] at hPr
      clear hB2
      go_loopg [12] la.length (fun g i wr => ∃ k : Nat, k ≤ la.length ∧ la.length - k ≤ g ∧ i = .int .i64 (k : Int) ∧ PairI w B tb wb (playR R la k) B2 t2 vb R wr)
      case atStart => exact ⟨0, Nat.zero_le _, by omega, rfl, hPr.out⟩
      case round =>
        obtain ⟨k, hk, hg, rfl, hI⟩ := hrel
        have HI2 := Lib.hid hI
        have hla3 := playL_len R la k (by omega) (by omega)
        by_cases hlt : k < la.length
        · obtain ⟨a, ha⟩ : ∃ a, la[k]? = some a := ⟨_, List.getElem?_eq_getElem hlt⟩
          obtain ⟨hka, b, off, rfl, hc⟩ := HAta.out wr hI.bel k a ha
          have c0 := hc 0 _ rfl
          have c1 := hc 1 _ rfl
          have c2 := hc 2 _ rfl
          have c3 := hc 3 _ rfl
          have c4 := hc 4 _ rfl
          have c5 := hc 5 _ rfl
          have c6 := hc 6 _ rfl
          rw [Nat.add_zero] at c0
          have e5 : decide ((k : Int) < (la.length : Int)) = true := by simp; omega
          have i0 : (0 : Int) ≤ (k : Int) := by omega
          have i1 : (k : Int) < (la.length : Int) := by omega
          have hdo := HI2.out.do_ a hka hla3
          rw [← playR_succ ha] at hdo
          have HDo := Lib.hid hdo
          clear hI ha hka hc hdo hla3
          go_wp2_with (go_at_call 9; refine HDo.out.mono ?_; rintro e w2 ⟨rfl, hI2⟩; replace hI2 := Lib.hid hI2)
          go_roundg (la.length - (k + 1))
          case measure => omega
          case rel => exact ⟨k + 1, by omega, Nat.le_refl _, by go_num, hI2.out⟩
        · obtain rfl : k = la.length := by omega
          have e5 : decide ((la.length : Int) < (la.length : Int)) = false := by simp
          generalize playR R la la.length = R1 at *
          clear hI hlt hg hk HAta
          go_wp2
          rename World => wo3
          go_loopg [13] lb.length (fun g i wr => ∃ k : Nat, k ≤ lb.length ∧ lb.length - k ≤ g ∧ i = .int .i64 (k : Int) ∧ PairI w B2 t2 vb (playR R lb k) B tb wb R1 wr)
          case atStart => exact ⟨0, Nat.zero_le _, by omega, rfl, HI2.out.swap⟩
          case round =>
            obtain ⟨k, hk, hg, rfl, hI⟩ := hrel
            have HI3 := Lib.hid hI
            have hlb3 := playL_len R lb k (by omega) (by omega)
            by_cases hlt : k < lb.length
            · obtain ⟨a, ha⟩ : ∃ a, lb[k]? = some a := ⟨_, List.getElem?_eq_getElem hlt⟩
              obtain ⟨hka, b, off, rfl, hc⟩ := HAtb.out wr hI.bel k a ha
              have c0 := hc 0 _ rfl
              have c1 := hc 1 _ rfl
              have c2 := hc 2 _ rfl
              have c3 := hc 3 _ rfl
              have c4 := hc 4 _ rfl
              have c5 := hc 5 _ rfl
              have c6 := hc 6 _ rfl
              rw [Nat.add_zero] at c0
              have e5 : decide ((k : Int) < (lb.length : Int)) = true := by simp; omega
              have i0 : (0 : Int) ≤ (k : Int) := by omega
              have i1 : (k : Int) < (lb.length : Int) := by omega
              have hdo := HI3.out.do_ a hka hlb3
              rw [← playR_succ ha] at hdo
              have HDo := Lib.hid hdo
              clear hI ha hka hc hdo hlb3
              go_wp2_with (go_at_call 9; refine HDo.out.mono ?_; rintro e w2 ⟨rfl, hI2⟩; replace hI2 := Lib.hid hI2)
              go_roundg (lb.length - (k + 1))
              case measure => omega
              case rel => exact ⟨k + 1, by omega, Nat.le_refl _, by go_num, hI2.out⟩
            · obtain rfl : k = lb.length := by omega
              have e6 : decide ((lb.length : Int) < (lb.length : Int)) = false := by simp
              generalize playR R lb lb.length = R2 at *
              have HSa : Hid (Calls Try.prog 10 #[tabP tb, refP wb] wr fun e w' => e = .returned (.bool true) ∧ PairI w B2 t2 vb R2 B tb wb R1 w') := Lib.hid ((HI3.out.swap.same hla3).mono fun e w' h => ⟨h.1, h.2.swap⟩)
              have HSb : Hid (∀ U, PairI w B2 t2 vb R2 B tb wb R1 U → Calls Try.prog 10 #[tabP t2, refP vb] U fun e w' => e = .returned (.bool true) ∧ PairI w B2 t2 vb R2 B tb wb R1 w') := Lib.hid (fun U hU => hU.same hlb3)
              clear hI hlt hg hk HAtb
              go_upto_region 23 with fail
              go_wp2_with (first
                | (go_at_call 10; with_reducible (show Calls _ _ #[tabP tb, refP wb] _ _); refine HSa.out.mono ?_; rintro e w5 ⟨rfl, hI5⟩; replace hI5 := Lib.hid hI5)
                | (go_at_call 10; with_reducible (show Calls _ _ #[tabP t2, refP vb] _ _); refine (HSb.out _ hI5.out).mono ?_; rintro e w6 ⟨rfl, hI6⟩; replace hI6 := Lib.hid hI6)
                | (go_at_call 7; refine (HKn.out _).mono ?_; rintro e w7 ⟨rfl, hb7⟩; replace hb7 := Lib.hid hb7))
              go_ret
              exact ⟨rfl, hI6.out.bel.trans (hb7.out.mono hI6.out.bel.size)⟩
end Go.Proofs.Ytjakojpcbapdhaa
