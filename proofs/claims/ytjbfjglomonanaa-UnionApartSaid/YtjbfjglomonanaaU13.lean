/-
  WHAT THE PROOF STANDS ON, a part of it: UnSort7.
-/
import Derived.Test.YtjbfjglomonanaaU10
import Derived.Sort.LotA
/-
  CONTRACT OF slices.partialInsertionSortOrdered at numbers of 32 bits.
-/

namespace Go.Proofs.Ytjbfjglomonanaa
open Go.RowKit Go.Sort
set_option linter.unusedVariables false
set_option linter.unusedSimpArgs false

theorem ss_go {d : Array Nat} {b i : Nat} (h : i < b) (hl : ltU d[i]! d[i - 1]! = false) : scanSorted ltU d b i = scanSorted ltU d b (i + 1) := by
  rw [scanSorted, if_pos]
  rw [hl]
  simp
  exact h
theorem ss_stop {d : Array Nat} {b i : Nat} (h : ¬ (i < b ∧ ltU d[i]! d[i - 1]! = false)) : scanSorted ltU d b i = i := by
  rw [scanSorted, if_neg]
  intro hh
  simp only [Bool.and_eq_true, decide_eq_true_eq] at hh
  exact h ⟨hh.1, by simpa using hh.2⟩
theorem ss_bound (d : Array Nat) (b : Nat) : ∀ (m i : Nat), b - i ≤ m → i ≤ b → i ≤ scanSorted ltU d b i ∧ scanSorted ltU d b i ≤ b
  | 0, i, hm, hi => by rw [ss_stop (fun h => by omega)]; omega
  | m + 1, i, hm, hi => by
    by_cases h : i < b ∧ ltU d[i]! d[i - 1]! = false
    · rw [ss_go h.1 h.2]
      have := ss_bound d b m (i + 1) (by omega) (by omega)
      omega
    · rw [ss_stop h]; omega
theorem sd_go {d : Array Nat} {m : Nat} (h : ltU d[m + 1]! d[m]! = true) : shiftDown ltU (m + 1) d = shiftDown ltU m (swp d (m + 1) m) := by
  rw [shiftDown, if_neg (by rw [h]; decide)]
theorem sd_stop {d : Array Nat} {m : Nat} (h : ltU d[m + 1]! d[m]! = false) : shiftDown ltU (m + 1) d = d := by
  rw [shiftDown, if_pos (by rw [h]; decide)]
theorem sd_size : ∀ (m : Nat) (d : Array Nat), (shiftDown ltU m d).size = d.size
  | 0, d => rfl
  | m + 1, d => by
    cases h : ltU d[m + 1]! d[m]! with
    | true => rw [sd_go h, sd_size m, SrtW.size_swp]
    | false => rw [sd_stop h]
theorem su_end {d : Array Nat} {b j : Nat} (h : ¬ j < b) : shiftUp ltU b j d = d := by rw [shiftUp, if_neg h]
theorem su_go {d : Array Nat} {b j : Nat} (h0 : j < b) (h : ltU d[j]! d[j - 1]! = true) : shiftUp ltU b j d = shiftUp ltU b (j + 1) (swp d j (j - 1)) := by
  rw [shiftUp, if_pos h0, if_neg (by rw [h]; decide)]
theorem su_stop {d : Array Nat} {b j : Nat} (h0 : j < b) (h : ltU d[j]! d[j - 1]! = false) : shiftUp ltU b j d = d := by
  rw [shiftUp, if_pos h0, if_pos (by rw [h]; decide)]
theorem su_size (b : Nat) : ∀ (m j : Nat) (d : Array Nat), b - j ≤ m → (shiftUp ltU b j d).size = d.size
  | m, j, d, hm => by
    by_cases h0 : j < b
    · cases h : ltU d[j]! d[j - 1]! with
      | true =>
        cases m with
        | zero => omega
        | succ m => rw [su_go h0 h, su_size b m _ _ (by omega), SrtW.size_swp]
      | false => rw [su_stop h0 h]
    · rw [su_end h0]
set_option maxRecDepth 100000 in
set_option maxHeartbeats 4000000 in
theorem pisU_any {W0 W : World} {blk off : Nat} {d : Array Nat} (h : SrtW W0 blk off d W) (cap a b : Nat) (hb : b ≤ d.size) (hab : a < b) (hn : d.size ≤ 1000000) :
    Calls Try.prog 60 #[.slice (some ⟨blk, off, none⟩) d.size cap, .int .i64 (a : Int), .int .i64 (b : Int)] W fun e w' => e = .returned (.bool (partialInsertionSort ltU d a b).2) ∧ SrtW W0 blk off (partialInsertionSort ltU d a b).1 w' := by
  obtain ⟨n, hnn⟩ : ∃ n, n = d.size := ⟨_, rfl⟩
  have H := Lib.hid h
  have HR0 : Hid (partialIns ltU a b 5 (a + 1) d = partialInsertionSort ltU d a b) := Lib.hid rfl
  have HZ := Lib.hid hnn
  generalize partialInsertionSort ltU d a b = res at *
  rw [← hnn] at hb hn ⊢
  clear h hnn
  have va : a + 1 ≤ 1000000001 := by omega
  have v5 : IntKind.i64.wrap ((b : Int) - (a : Int)) = ((b - a : Nat) : Int) := wrap_nat _ _ (by omega) (by omega)
  obtain ⟨ln, hln⟩ : ∃ ln, ln = b - a := ⟨_, rfl⟩
  rw [← hln] at v5
  have HLn := Lib.hid hln
  clear hln
  go_enter Try.func60, Try.ntmps60
  go_wp2
  go_loopg [7, 8] 6 (fun g iv sv wr => ∃ (i s : Nat) (d' : Array Nat), s + 1 ≤ g ∧ s ≤ 5 ∧ a + 1 ≤ i ∧ i ≤ b ∧ iv = .int .i64 (i : Int) ∧ sv = .int .i64 (5 - (s : Int)) ∧ Hid (partialIns ltU a b s i d' = res) ∧ Hid (n = d'.size) ∧ SrtW W0 blk off d' wr)
  case atStart => exact ⟨a + 1, 5, d, by omega, by omega, by omega, by omega, by go_num, rfl, HR0, HZ, H.out⟩
  case round =>
    obtain ⟨i0, s, d', hg, hs, hi, hib, rfl, rfl, hR, hZ, hW⟩ := hrel
    have HW := Lib.hid hW
    clear hW
    cases s with
    | zero =>
      have e1 : decide ((5 : Int) - ((0 : Nat) : Int) < 5) = false := by decide
      have HE : Hid ((d', false) = res) := hR
      clear hR
      go_wp2
      go_ret
      exact ⟨by rw [← HE.out]; rfl, by rw [← HE.out]; exact HW.out⟩
    | succ s =>
      obtain ⟨sz, hsz⟩ : ∃ sz : Int, sz = 5 - ((s + 1 : Nat) : Int) := ⟨_, rfl⟩
      have hsz2 : sz + 1 = 5 - (s : Int) := by omega
      rw [← hsz]
      have e1 : decide (sz < 5) = true := by simp; omega
      have v6 : IntKind.i64.wrap (sz + 1) = sz + 1 := IntWalk.i64_in _ (by omega)
      have HSz := Lib.hid hsz2
      obtain ⟨i2, hi2⟩ : ∃ i2, i2 = scanSorted ltU d' b i0 := ⟨_, rfl⟩
      have HU : Hid (scanSorted ltU d' b i0 = i2) := Lib.hid hi2.symm
      have hbd := ss_bound d' b _ i0 (Nat.le_refl _) hib
      rw [← hi2] at hbd
      obtain ⟨b1, b2⟩ := hbd
      have HR2 : Hid ((if i2 = b then (d', true) else if ln < 50 then (d', false) else partialIns ltU a b s i2 (fixUp ltU b i2 (fixDown ltU a i2 (swp d' i2 (i2 - 1))))) = res) := Lib.hid (by
        have := partialIns_succ (lt := ltU) a b s i0 d'
        rw [HU.out, ← HLn.out] at this
        rw [← this]
        exact hR.out)
      clear hR hi2 hsz hsz2
      rename World => wo
      go_upto_region 3 with fail
      go_cut [14] (fun s14 wx => s14 = .bool true ∧ SrtW W0 blk off d' wx)
      case first =>
        go_wp2
        go_meet
        exact ⟨rfl, HW.out⟩
      case rest =>
        obtain ⟨rfl, hcut⟩ := hcut
        replace HW := Lib.hid hcut
        clear hcut e1
        go_step
        go_step
        go_step
        go_step
        go_step
        go_step
        go_step
        go_step
        go_cut [7] (fun s7 wx => s7 = .int .i64 (i2 : Int) ∧ SrtW W0 blk off d' wx)
        case first =>
          go_wp2
          go_loopg [7] (b + 1) (fun g iv wr => ∃ i' : Nat, b - i' ≤ g ∧ i0 ≤ i' ∧ i' ≤ b ∧ iv = .int .i64 (i' : Int) ∧ Hid (scanSorted ltU d' b i' = i2) ∧ SrtW W0 blk off d' wr)
          case atStart => exact ⟨i0, by omega, Nat.le_refl _, by omega, rfl, HU, HW.out⟩
          case round =>
            obtain ⟨i', hg, h1, h2, rfl, hS, hW2⟩ := hrel
            have HW2 := Lib.hid hW2
            have w1 : i' + 1 ≤ 1000000001 := by omega
            by_cases hij : i' < b
            · have e1 : decide ((i' : Int) < (b : Int)) = true := by simp; omega
              have e1n : decide (i' < b) = true := by simpa using hij
              obtain ⟨ip, hip⟩ : ∃ ip, ip = i' - 1 := ⟨_, rfl⟩
              have w2 : IntKind.i64.wrap ((i' : Int) - 1) = (ip : Int) := wrap_nat _ _ (by omega) (by omega)
              have q0 : (0 : Int) ≤ (i' : Int) := by omega
              have q1 : (i' : Int) < (n : Int) := by omega
              have q2 : (0 : Int) ≤ (ip : Int) := by omega
              have q3 : (ip : Int) < (n : Int) := by omega
              have c1 := hW2.cell (i := i') (by rw [← hZ.out]; omega)
              have c0 := hW2.cell (i := ip) (by rw [← hZ.out]; omega)
              have HQ := Lib.hid (fun W => less_any d'[i']! d'[ip]! W)
              cases hl : decide (d'[i']! < d'[ip]!) with
              | false =>
                rw [hl] at HQ
                have HS2 : Hid (scanSorted ltU d' b (i' + 1) = i2) := Lib.hid (by rw [← ss_go hij (by rw [← hip]; exact hl)]; exact hS.out)
                clear hW2 hS hl hip
                go_upto_region 5 with fail
                go_quiet ((go_at_call 61; exact Calls.quiet_of_same (HQ.out _)))
                go_wp2
                go_roundg (b - (i' + 1))
                case measure => omega
                case rel => exact ⟨i' + 1, by omega, by omega, by omega, by go_num, HS2, HW2.out.drewN _⟩
              | true =>
                rw [hl] at HQ
                have HE : Hid (i' = i2) := Lib.hid (by rw [← hS.out]; exact (ss_stop (fun h => by have h2 := h.2; rw [← hip, show ltU d'[i']! d'[ip]! = true from hl] at h2; cases h2)).symm)
                clear hW2 hS hl hip
                go_upto_region 5 with fail
                go_quiet ((go_at_call 61; exact Calls.quiet_of_same (HQ.out _)))
                go_wp2
                go_meet
                exact ⟨by rw [HE.out], HW2.out.drewN _⟩
            · have e1 : decide ((i' : Int) < (b : Int)) = false := by simp; omega
              have e1n : decide (i' < b) = false := by simpa using hij
              have HE : Hid (i' = i2) := Lib.hid (by rw [← hS.out]; exact (ss_stop (fun h => hij h.1)).symm)
              clear hW2 hS
              go_upto_region 5 with fail
              go_quiet (fail)
              go_wp2
              go_meet
              exact ⟨by rw [HE.out], HW2.out.drewN _⟩
        case rest =>
          obtain ⟨rfl, hcut⟩ := hcut
          replace HW := Lib.hid hcut
          clear hcut HU
          by_cases hb2 : i2 = b
          · have e2 : ((i2 : Int) == (b : Int)) = true := by rw [beq_iff_eq]; omega
            have HE : Hid ((d', true) = res) := Lib.hid (by have := HR2.out; rwa [if_pos hb2] at this)
            clear HR2 hb2
            go_wp2
            go_ret
            exact ⟨by rw [← HE.out]; rfl, by rw [← HE.out]; exact HW.out⟩
          · have e2 : ((i2 : Int) == (b : Int)) = false := by rw [beq_eq_false_iff_ne]; omega
            have hb3 : i2 < b := by omega
            by_cases h50 : ln < 50
            · have e3 : decide ((ln : Int) < 50) = true := by simp; omega
              have e3n : decide (ln < 50) = true := by simpa using h50
              have HE : Hid ((d', false) = res) := Lib.hid (by have := HR2.out; rwa [if_neg hb2, if_pos h50] at this)
              clear HR2 hb2
              go_wp2
              go_ret
              exact ⟨by rw [← HE.out]; rfl, by rw [← HE.out]; exact HW.out⟩
            · have e3 : decide ((ln : Int) < 50) = false := by simp; omega
              have e3n : decide (ln < 50) = false := by simpa using h50
              have hres : partialIns ltU a b s i2 (fixUp ltU b i2 (fixDown ltU a i2 (swp d' i2 (i2 - 1)))) = res := (by have := HR2.out; rwa [if_neg hb2, if_neg h50] at this)
              obtain ⟨im, him⟩ : ∃ im, im = i2 - 1 := ⟨_, rfl⟩
              have him2 : im + 1 = i2 := by omega
              rw [← him] at hres
              have w2 : IntKind.i64.wrap ((i2 : Int) - 1) = (im : Int) := wrap_nat _ _ (by omega) (by omega)
              obtain ⟨li, hli⟩ : ∃ li, li = i2 - a := ⟨_, rfl⟩
              have w3 : IntKind.i64.wrap ((i2 : Int) - (a : Int)) = (li : Int) := wrap_nat _ _ (by omega) (by omega)
              obtain ⟨ri, hri⟩ : ∃ ri, ri = b - i2 := ⟨_, rfl⟩
              have w4 : IntKind.i64.wrap ((b : Int) - (i2 : Int)) = (ri : Int) := wrap_nat _ _ (by omega) (by omega)
              have q0 : (0 : Int) ≤ (i2 : Int) := by omega
              have q1 : (i2 : Int) < (n : Int) := by omega
              have q2 : (0 : Int) ≤ (im : Int) := by omega
              have q3 : (im : Int) < (n : Int) := by omega
              have w5 : i2 + 1 ≤ 1000000001 := by omega
              obtain ⟨D3, hD3⟩ : ∃ D3, D3 = fixDown ltU a i2 (swp d' i2 im) := ⟨_, rfl⟩
              obtain ⟨D4, hD4⟩ : ∃ D4, D4 = fixUp ltU b i2 D3 := ⟨_, rfl⟩
              rw [← hD3, ← hD4] at hres
              have HRes := Lib.hid hres
              have HD3 : Hid (D3 = if li ≥ 2 then shiftDown ltU im (swp d' i2 im) else swp d' i2 im) := Lib.hid (by rw [hD3]; unfold fixDown; rw [← hli, ← him])
              have HD4 : Hid (D4 = if ri ≥ 2 then shiftUp ltU b (i2 + 1) D3 else D3) := Lib.hid (by rw [hD4]; unfold fixUp; rw [← hri])
              have HZ5 : Hid (n = D3.size) := Lib.hid (by
                rw [HD3.out]
                split
                · rw [sd_size, SrtW.size_swp]; exact hZ.out
                · rw [SrtW.size_swp]; exact hZ.out)
              have HZ6 : Hid (n = D4.size) := Lib.hid (by
                rw [HD4.out]
                split
                · rw [su_size _ _ _ _ (Nat.le_refl _)]; exact HZ5.out
                · exact HZ5.out)
              clear HR2 hb2 hres him hli hri hD3 hD4
              have HZ3 : Hid (n = (swp d' (i2) (im)).size) := Lib.hid (by rw [SrtW.size_swp]; exact hZ.out)
              obtain ⟨d4, hd4⟩ : ∃ d3, d3 = swp d' (i2) (im) := ⟨_, rfl⟩
              rw [← hd4] at HZ3
              have Hd4 := Lib.hid hd4
              clear hd4
              go_upto_region 11 with fail
              go_cut [] (fun wx => SrtW W0 blk off d4 wx)
              case first =>
                have h2 := HW.out
                have d1 := h2.cell (i := i2) (by rw [← hZ.out]; omega)
                have d0 := h2.cell (i := im) (by rw [← hZ.out]; omega)
                have g1 := h2.free (i := i2) (by rw [← hZ.out]; omega)
                have g0 := h2.free (i := im) (by rw [← hZ.out]; omega)
                have p0 := (h2.put (i := i2) (by rw [← hZ.out]; omega) d'[im]!).cell (i := im) (by rw [Array.size_setIfInBounds, ← hZ.out]; omega)
                have HS_ := h2.drew.swap (i := i2) (j := im) (by rw [← hZ.out]; omega) (by rw [← hZ.out]; omega)
                rw [← Hd4.out] at HS_
                replace HS_ := Lib.hid HS_
                clear h2
                generalize (Array.setIfInBounds d' (i2) d'[im]!)[im]! = z0 at *
                generalize d'[i2]! = x1 at *
                generalize d'[im]! = x0 at *
                go_region_with (fail)
                all_goals
                  go_wp2
                  go_meet
                  exact HS_.out
              case rest =>
                rename World => d4w
                have HWs := Lib.hid hcut
                clear hcut
                rw [← Hd4.out] at HD3
                clear Hd4 q0 q1 q2 q3
                go_step
                go_step
                go_cut [] (fun wx => SrtW W0 blk off D3 wx)
                case first =>
                  by_cases h2 : li ≥ 2
                  · have e4 : decide ((li : Int) ≥ 2) = true := by simp; omega
                    have e4' : decide (2 ≤ (li : Int)) = true := by simp; omega
                    have e4n : decide (2 ≤ li) = true := by simpa using h2
                    have HT : Hid (shiftDown ltU im d4 = D3) := Lib.hid (by have := HD3.out; rw [if_pos h2] at this; exact this.symm)
                    clear HD3 HD4
                    go_wp2
                    go_loopg [9] (im + 1) (fun g jv wr => ∃ (j : Nat) (d5 : Array Nat), j ≤ g ∧ j ≤ im ∧ jv = .int .i64 (j : Int) ∧ Hid (shiftDown ltU j d5 = D3) ∧ Hid (n = d5.size) ∧ SrtW W0 blk off d5 wr)
                    case atStart => exact ⟨im, d4, by omega, Nat.le_refl _, by go_num, HT, HZ3, HWs.out⟩
                    case round =>
                      clear HZ3 HWs HT
                      obtain ⟨j, d5, hg5, hj5, rfl, hR5, hZ5, hW5⟩ := hrel
                      have HW5 := Lib.hid hW5
                      cases j with
                      | zero =>
                        have HE : Hid (d5 = D3) := hR5
                        clear hW5 hR5
                        go_wp2
                        go_meet
                        rw [← HE.out]
                        exact HW5.out
                      | succ m =>
                        have e5 : decide ((m : Int) + 1 ≥ 1) = true := by simp; omega
                        have e5' : decide ((1 : Int) ≤ (m : Int) + 1) = true := by simp; omega
                        have y1 : IntKind.i64.wrap ((m : Int) + 1 - 1) = (m : Int) := wrap_nat _ _ (by omega) (by omega)
                        have y2 : IntKind.i64.wrap (m : Int) = (m : Int) := IntWalk.i64_in _ (by omega)
                        have q0 : (0 : Int) ≤ (m : Int) + 1 := by omega
                        have q1 : (m : Int) + 1 < (n : Int) := by omega
                        have q2 : (0 : Int) ≤ (m : Int) := by omega
                        have q3 : (m : Int) < (n : Int) := by omega
                        have c1 := hW5.cell (i := m + 1) (by rw [← hZ5.out]; omega)
                        have c0 := hW5.cell (i := m) (by rw [← hZ5.out]; omega)
                        have HQ := Lib.hid (fun W => less_any d5[m + 1]! d5[m]! W)
                        cases hl : decide (d5[m + 1]! < d5[m]!) with
                        | false =>
                          rw [hl] at HQ
                          have HE : Hid (d5 = D3) := Lib.hid (by rw [← hR5.out]; exact (sd_stop hl).symm)
                          clear hW5 hR5 hl
                          go_upto_region 16 with fail
                          go_quiet ((go_at_call 61; exact Calls.quiet_of_same (HQ.out _)))
                          go_wp2
                          go_meet
                          rw [← HE.out]
                          exact HW5.out.drewN _
                        | true =>
                          rw [hl] at HQ
                          have HR6 : Hid (shiftDown ltU m (swp d5 (m + 1) m) = D3) := Lib.hid (by rw [← sd_go hl]; exact hR5.out)
                          clear hW5 hR5 hl
                          go_upto_region 16 with fail
                          go_quiet ((go_at_call 61; exact Calls.quiet_of_same (HQ.out _)))
                          have HW6 := Lib.hid (HW5.out.drewN nq)
                          generalize wr.drewN nq = w6 at *
                          clear c1 c0
                          go_upto_region 17 with fail
                          have h2 := HW6.out
                          have d1 := h2.cell (i := m + 1) (by rw [← hZ5.out]; omega)
                          have d0 := h2.cell (i := m) (by rw [← hZ5.out]; omega)
                          have g1 := h2.free (i := m + 1) (by rw [← hZ5.out]; omega)
                          have g0 := h2.free (i := m) (by rw [← hZ5.out]; omega)
                          have p0 := (h2.put (i := m + 1) (by rw [← hZ5.out]; omega) d5[m]!).cell (i := m) (by rw [Array.size_setIfInBounds, ← hZ5.out]; omega)
                          have HS_ := Lib.hid (h2.drew.swap (i := m + 1) (j := m) (by rw [← hZ5.out]; omega) (by rw [← hZ5.out]; omega))
                          have HZ3 : Hid (n = (swp d5 (m + 1) (m)).size) := Lib.hid (by rw [SrtW.size_swp]; exact hZ5.out)
                          clear h2
                          generalize (Array.setIfInBounds d5 (m + 1) d5[m]!)[m]! = z0 at *
                          generalize swp d5 (m + 1) (m) = d6 at *
                          generalize d5[m + 1]! = x1 at *
                          generalize d5[m]! = x0 at *
                          go_region_with (fail)
                          all_goals
                            go_wp2
                            go_roundg m
                            case measure => omega
                            case rel => exact ⟨m, d6, Nat.le_refl _, by omega, by go_num, HR6, HZ3, HS_.out⟩
                  · have e4 : decide ((li : Int) ≥ 2) = false := by simp; omega
                    have e4' : decide (2 ≤ (li : Int)) = false := by simp; omega
                    have e4n : decide (2 ≤ li) = false := by simpa using h2
                    have HE : Hid (d4 = D3) := Lib.hid (by have := HD3.out; rw [if_neg h2] at this; exact this.symm)
                    go_wp2
                    go_meet
                    rw [← HE.out]
                    exact HWs.out
                case rest =>
                  have HW7 := Lib.hid hcut
                  clear hcut HD3 HWs HZ3
                  by_cases h2 : ri ≥ 2
                  · have e4 : decide ((ri : Int) ≥ 2) = true := by simp; omega
                    have e4' : decide (2 ≤ (ri : Int)) = true := by simp; omega
                    have e4n : decide (2 ≤ ri) = true := by simpa using h2
                    have HT : Hid (shiftUp ltU b (i2 + 1) D3 = D4) := Lib.hid (by have := HD4.out; rw [if_pos h2] at this; exact this.symm)
                    clear HD4
                    go_wp2
                    rename World => wo2
                    go_loopg [10] (b + 1) (fun g jv wr => ∃ (j : Nat) (d5 : Array Nat), b - j ≤ g ∧ 1 ≤ j ∧ j ≤ b + 1 ∧ jv = .int .i64 (j : Int) ∧ Hid (shiftUp ltU b j d5 = D4) ∧ Hid (n = d5.size) ∧ SrtW W0 blk off d5 wr)
                    case atStart => exact ⟨i2 + 1, D3, by omega, by omega, by omega, by go_num, HT, HZ5, HW7.out⟩
                    case round =>
                      obtain ⟨j, d5, hg5, hj5, hj6, rfl, hR5, hZ5, hW5⟩ := hrel
                      have HW5 := Lib.hid hW5
                      by_cases hjb : j < b
                      · have e5 : decide ((j : Int) < (b : Int)) = true := by simp; omega
                        have e5n : decide (j < b) = true := by simpa using hjb
                        obtain ⟨jp, hjp⟩ : ∃ jp, jp = j - 1 := ⟨_, rfl⟩
                        have y1 : IntKind.i64.wrap ((j : Int) - 1) = (jp : Int) := wrap_nat _ _ (by omega) (by omega)
                        have q0 : (0 : Int) ≤ (j : Int) := by omega
                        have q1 : (j : Int) < (n : Int) := by omega
                        have q2 : (0 : Int) ≤ (jp : Int) := by omega
                        have q3 : (jp : Int) < (n : Int) := by omega
                        have q4 : j + 1 ≤ 1000000001 := by omega
                        have c1 := hW5.cell (i := j) (by rw [← hZ5.out]; omega)
                        have c0 := hW5.cell (i := jp) (by rw [← hZ5.out]; omega)
                        have HQ := Lib.hid (fun W => less_any d5[j]! d5[jp]! W)
                        cases hl : decide (d5[j]! < d5[jp]!) with
                        | false =>
                          rw [hl] at HQ
                          have HE : Hid (d5 = D4) := Lib.hid (by rw [← hR5.out]; exact (su_stop hjb (by rw [← hjp]; exact hl)).symm)
                          have HW9 : Hid (∀ nq, SrtW W0 blk off D4 (wr.drewN nq)) := Lib.hid (fun nq => by rw [← HE.out]; exact HW5.out.drewN nq)
                          clear hW5 hR5 hl hjp
                          go_upto_region 22 with fail
                          go_quiet ((go_at_call 61; exact Calls.quiet_of_same (HQ.out _)))
                          go_wp2
                          go_roundg (s + 1)
                          case measure => omega
                          case rel => exact ⟨i2, s, D4, by omega, by omega, by omega, by omega, rfl, by rw [HSz.out], HRes, HZ6, HW9.out _⟩
                        | true =>
                          rw [hl] at HQ
                          have HR6 : Hid (shiftUp ltU b (j + 1) (swp d5 j jp) = D4) := Lib.hid (by rw [hjp, ← su_go hjb (by rw [← hjp]; exact hl)]; exact hR5.out)
                          clear hW5 hR5 hl hjp
                          go_upto_region 22 with fail
                          go_quiet ((go_at_call 61; exact Calls.quiet_of_same (HQ.out _)))
                          have HW6 := Lib.hid (HW5.out.drewN nq)
                          generalize wr.drewN nq = w6 at *
                          clear c1 c0
                          go_upto_region 23 with fail
                          have h2 := HW6.out
                          have d1 := h2.cell (i := j) (by rw [← hZ5.out]; omega)
                          have d0 := h2.cell (i := jp) (by rw [← hZ5.out]; omega)
                          have g1 := h2.free (i := j) (by rw [← hZ5.out]; omega)
                          have g0 := h2.free (i := jp) (by rw [← hZ5.out]; omega)
                          have p0 := (h2.put (i := j) (by rw [← hZ5.out]; omega) d5[jp]!).cell (i := jp) (by rw [Array.size_setIfInBounds, ← hZ5.out]; omega)
                          have HS_ := Lib.hid (h2.drew.swap (i := j) (j := jp) (by rw [← hZ5.out]; omega) (by rw [← hZ5.out]; omega))
                          have HZ3 : Hid (n = (swp d5 (j) (jp)).size) := Lib.hid (by rw [SrtW.size_swp]; exact hZ5.out)
                          clear h2
                          generalize (Array.setIfInBounds d5 (j) d5[jp]!)[jp]! = z0 at *
                          generalize swp d5 (j) (jp) = d6 at *
                          generalize d5[j]! = x1 at *
                          generalize d5[jp]! = x0 at *
                          go_region_with (fail)
                          all_goals
                            go_wp2
                            go_roundg (b - (j + 1))
                            case measure => omega
                            case rel => exact ⟨j + 1, d6, Nat.le_refl _, by omega, by omega, by go_num, HR6, HZ3, HS_.out⟩
                      · have e5 : decide ((j : Int) < (b : Int)) = false := by simp; omega
                        have e5n : decide (j < b) = false := by simpa using hjb
                        have HE : Hid (d5 = D4) := Lib.hid (by rw [← hR5.out]; exact (su_end hjb).symm)
                        have HW9 : Hid (SrtW W0 blk off D4 wr) := Lib.hid (by rw [← HE.out]; exact HW5.out)
                        clear hW5 hR5
                        go_wp2
                        go_roundg (s + 1)
                        case measure => omega
                        case rel => exact ⟨i2, s, D4, by omega, by omega, by omega, by omega, rfl, by rw [HSz.out], HRes, HZ6, HW9.out⟩
                  · have e4 : decide ((ri : Int) ≥ 2) = false := by simp; omega
                    have e4' : decide (2 ≤ (ri : Int)) = false := by simp; omega
                    have e4n : decide (2 ≤ ri) = false := by simpa using h2
                    have HE : Hid (D3 = D4) := Lib.hid (by have := HD4.out; rw [if_neg h2] at this; exact this.symm)
                    have HW9 : Hid (SrtW W0 blk off D4 wc) := Lib.hid (by rw [← HE.out]; exact HW7.out)
                    go_wp2
                    go_roundg (s + 1)
                    case measure => omega
                    case rel => exact ⟨i2, s, D4, by omega, by omega, by omega, by omega, rfl, by rw [HSz.out], HRes, HZ6, HW9.out⟩
end Go.Proofs.Ytjbfjglomonanaa

