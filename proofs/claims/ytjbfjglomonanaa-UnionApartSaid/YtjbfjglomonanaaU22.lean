/-
  WHAT THE PROOF STANDS ON, a part of it: UnJoinS.
-/
import Derived.Test.YtjbfjglomonanaaU21
/-
  Join's memory on the way: what stays at each write.
-/

namespace Go.Proofs.Ytjbfjglomonanaa
open Go.RowKit
set_option linter.unusedVariables false
set_option linter.unusedSimpArgs false

theorem heap_putU {W U : World} {b : Nat} {ob : Obj} (h : U = { W with heap := W.heap.setIfInBounds b ob }) : U.heap.size = W.heap.size ∧ Turned (fun j => j = b) W U := by
  subst h
  refine ⟨by simp, rfl, rfl, rfl, by simp, fun k hk hn => ?_⟩
  show (W.heap.setIfInBounds b ob)[k]? = W.heap[k]?
  rw [Array.getElem?_setIfInBounds, if_neg (fun e => hn e.symm)]
theorem info_un32 : ∃ (i : TypeInfo) (z : Value), Try.prog.info? 23 = some i ∧ i.zero = some z ∧ i.size = 1 ∧ i.bytes = 4 ∧ z.cells.size = 1 := by
  obtain ⟨i, hi⟩ : ∃ i, Try.prog.info? 23 = some i := Option.isSome_iff_exists.1 (by kernel_rfl)
  refine ⟨i, .int .u32 0, hi, ?_⟩
  have h : (Try.prog.info? 23).map (fun i => (i.zero, i.size, i.bytes)) = some (some (.int .u32 0), 1, 4) := by kernel_rfl
  rw [hi] at h
  simp only [Option.map_some, Option.some.injEq, Prod.mk.injEq] at h
  exact ⟨h.1, h.2.1, h.2.2, rfl⟩
/-- A map is written: at any world of the same heap. -/
theorem MapU.put1 {V : Type} {enc : V → Value} {W : World} {b : Nat} {f : Nat → Option V} {P : Program} {t k e : TypeId} (h : MapU enc W b f) (ht : P.underlying t = some (.map k e)) (hk : P.underlying k = some (.int .u32)) (r : Nat) (v : V) :
    ∃ U, (Instr.mapUpdate t (.map (some b)) (keyU r) (enc v)).run P W = .ok () U ∧ MapU enc U b (fun q => if r = q then some v else f q) ∧ Turned (fun j => j = b) W U := by
  obtain ⟨ob, hup, hto⟩ := h.put (P := P) ht hk r v
  obtain ⟨U, hU⟩ : ∃ U, U = { W with heap := W.heap.setIfInBounds b ob } := ⟨_, rfl⟩
  refine ⟨U, by rw [hU]; exact hup W rfl, hto U (by rw [hU]; exact Array.getElem?_setIfInBounds_self_of_lt h.lt), (heap_putU hU).2⟩
theorem MapU.drop1 {V : Type} {enc : V → Value} {W : World} {b : Nat} {f : Nat → Option V} {P : Program} {t k e : TypeId} (h : MapU enc W b f) (ht : P.underlying t = some (.map k e)) (hk : P.underlying k = some (.int .u32)) (ty kt : TypeId) (r : Nat) :
    ∃ U, (Builtin.delete_ #[t, kt] ty #[.map (some b), keyU r]).run P W = .ok (.tuple #[]) U ∧ MapU enc U b (fun q => if r = q then none else f q) ∧ Turned (fun j => j = b) W U := by
  obtain ⟨ob, hup, hto⟩ := h.drop (P := P) ht hk ty kt r
  obtain ⟨U, hU⟩ : ∃ U, U = { W with heap := W.heap.setIfInBounds b ob } := ⟨_, rfl⟩
  refine ⟨U, by rw [hU]; exact hup W rfl, hto U (by rw [hU]; exact Array.getElem?_setIfInBounds_self_of_lt h.lt), (heap_putU hU).2⟩
theorem MapU.noCells {V : Type} {enc : V → Value} {W : World} {b g : Nat} {f : Nat → Option V} (h : MapU enc W b f) {cs : Array Value} {t : TypeId} {fr : Nat × Nat} (hg : W.heap[g]? = some (.cells cs t fr)) : g ≠ b := fun e => by
  obtain ⟨es, c, h1, _⟩ := h
  rw [← e, hg] at h1
  injection h1 with h1
  cases h1
theorem RowK.noCells {W : World} {e : TypeId} {k n cap : Nat} {ao : Option Addr} {xs : List Value} (h : RowK W e k ao n cap xs) {g : Nat} {cs : Array Value} {t : TypeId} {fr : Nat × Nat} (hg : W.heap[g]? = some (.cells cs t fr)) (ht : t ≠ e) : ∀ a, ao = some a → a.block ≠ g := fun a ha e2 => by
  obtain ⟨cur, hc⟩ := h.type ha
  rw [e2, hg] at hc
  injection hc with hc
  injection hc with _ hc _
  exact ht hc
theorem Turned.over {S T : Nat → Prop} {w W U : World} (h : Turned S w W) (k : Turned T W U) (ht : ∀ j, T j → S j ∨ w.heap.size ≤ j) : Turned S w U :=
  ⟨k.os.trans h.os, k.tape.trans h.tape, k.output.trans h.output, Nat.le_trans h.size k.size, fun j hj hn => (k.block j (Nat.lt_of_lt_of_le hj h.size) (fun hh => by
    rcases ht j hh with h1 | h1
    · exact hn h1
    · omega)).trans (h.block j hj hn)⟩
theorem MapU.noCell {V : Type} {enc : V → Value} {W : World} {b : Nat} {f : Nat → Option V} (h : MapU enc W b f) {p : Addr} {v : Value} (hc : W.cell? p = some v) : p.block ≠ b := fun e => by
  obtain ⟨es, c, h1, _⟩ := h
  unfold World.cell? at hc
  rw [e, h1] at hc
  simp at hc
/-- A cell that a partition will not write: of no list's block, or of a list's own numbers. -/
def Safe (W : World) (cl : Nat → Option ClD) (p : Addr) (v : Value) : Prop := W.cell? p = some v ∧ ∀ q c a, cl q = some c → c.ao = some a → a.block = p.block → ∃ j, j < c.len ∧ p = a.add j
theorem told_in {w W W17 : World} {A : PartA} {cl : Nat → Option ClD} {x : Nat} {c9 : ClD} {aoN : Option Addr} (ht : ToldR W w.heap.size A cl x c9) (hs : w.heap.size ≤ W17.heap.size) (hor : aoN = c9.ao ∨ ∀ a, aoN = some a → W17.heap.size ≤ a.block) (L : Nat) (hL : c9.len ≤ L) :
    ∀ a, aoN = some a → a.block < w.heap.size → ∃ c, cl (lookA A x).1 = some c ∧ c.ao = aoN ∧ c.len ≤ L := fun a ha hlt => by
  rcases hor with e | e
  · rcases ht.2.2.2 with ⟨_, h7⟩ | ⟨_, h7⟩
    · have := h7 a (by rw [← e]; exact ha)
      omega
    · exact ⟨c9, h7, e.symm, hL⟩
  · have := e a ha
    omega
theorem told_own {w W : World} {A : PartA} {cl : Nat → Option ClD} {x : Nat} {c9 : ClD} (ht : ToldR W w.heap.size A cl x c9) :
    ∀ a, c9.ao = some a → a.block < w.heap.size → ∃ c, cl (lookA A x).1 = some c ∧ c.ao = c9.ao ∧ c.len ≤ (lookA A x).2.2.length := fun a ha hlt => by
  rcases ht.2.2.2 with ⟨_, h7⟩ | ⟨_, h7⟩
  · have := h7 a ha
    omega
  · exact ⟨c9, h7, rfl, Nat.le_of_eq ht.2.1⟩
/-- The memory within Join: the partition, the clique that is the longer one (in g9), the shorter one (in g11), the other lists. -/
structure JoinS (w W : World) (S : Nat → Prop) (pb nb cb g9 g11 : Nat) (A : PartA) (cl fc : Nat → Option ClD) (n o : Nat) (d9 r9 d11 : ClD) (L9 : List Nat) (f : Nat → Option Nat) : Prop where
  blk : W.heap[pb]? = some (.cells #[.map (some nb), .map (some cb)] 48 (0, 0))
  b9 : W.heap[g9]? = some (.cells #[.int .u32 (d9.least : Int), .slice d9.ao d9.len d9.cap] 50 (0, 0))
  b11 : W.heap[g11]? = some (.cells #[.int .u32 (d11.least : Int), .slice d11.ao d11.len d11.cap] 50 (0, 0))
  names : MapU keyU W nb f
  cliques : MapU clV W cb fc
  lists : ∀ q, q ≠ n → q ≠ o → ListR W S (A.ab q) (cl q)
  row : RowK W 23 1 r9.ao r9.len r9.cap (u32C L9)
  tur : Turned S w W
  ap9 : ∀ q c, q ≠ n → q ≠ o → cl q = some c → ∀ a a', c.ao = some a → r9.ao = some a' → a.block ≠ a'.block
  in9 : ∀ a, r9.ao = some a → S a.block ∨ w.heap.size ≤ a.block
  ne : nb ≠ cb
  n9 : w.heap.size ≤ g9
  n911 : g9 ≠ g11
  p9 : g9 ≠ pb
  sN : S nb
  sC : S cb
  sP : S pb
  lt : ∀ j, S j → j < w.heap.size
  keep : ∀ p v, Safe w cl p v → W.cell? p = some v
section
variable {w W U : World} {S : Nat → Prop} {pb nb cb g9 g11 : Nat} {A : PartA} {cl fc : Nat → Option ClD} {n o : Nat} {d9 r9 d11 : ClD} {L9 : List Nat} {f : Nat → Option Nat}
theorem lists_kept {T : Nat → Prop} (h : ∀ q, q ≠ n → q ≠ o → ListR W S (A.ab q) (cl q)) (hk : Turned T W U) (hn : ∀ q c a, q ≠ n → q ≠ o → cl q = some c → c.ao = some a → a.block < W.heap.size ∧ ¬ T a.block) : ∀ q, q ≠ n → q ≠ o → ListR U S (A.ab q) (cl q) := fun q h1 h2 =>
  (h q h1 h2).kept (fun d a hd ha => hk.block _ (hn q d a h1 h2 hd ha).1 (hn q d a h1 h2 hd ha).2) (fun j hj => hj)
theorem ListR.cells_ {x : Option (Nat × List Nat)} {d : ClD} (h : ListR W S x (some d)) {a : Addr} (ha : d.ao = some a) : ∃ cur, W.heap[a.block]? = some (.cells cur 23 (0, 0)) := by
  cases x with
  | none => cases h
  | some x =>
    obtain ⟨m, ns⟩ := x
    obtain ⟨ao, cap, e, hr, hs⟩ := h
    cases e
    exact hr.type ha
/-- The names' map is written. -/
theorem JoinS.name (h : JoinS w W S pb nb cb g9 g11 A cl fc n o d9 r9 d11 L9 f) {f' : Nat → Option Nat} (hm : MapU keyU U nb f') (hk : Turned (fun j => j = nb) W U) : JoinS w U S pb nb cb g9 g11 A cl fc n o d9 r9 d11 L9 f' := by
  have kc : ∀ {g : Nat} {cs : Array Value} {t : TypeId} {fr : Nat × Nat}, W.heap[g]? = some (.cells cs t fr) → U.heap[g]? = some (.cells cs t fr) := fun {g cs t fr} hg => (hk.block g (Array.getElem?_eq_some_iff.1 hg).1 (h.names.noCells hg)).trans hg
  exact { h with
    blk := kc h.blk
    b9 := kc h.b9
    b11 := kc h.b11
    names := hm
    cliques := h.cliques.kept (hk.block cb h.cliques.lt (fun e => h.ne e.symm))
    lists := lists_kept h.lists hk fun q c a h1 h2 h3 h4 => by
      obtain ⟨cur, hc⟩ := (h3 ▸ h.lists q h1 h2).cells_ h4
      exact ⟨(Array.getElem?_eq_some_iff.1 hc).1, h.names.noCells hc⟩
    row := h.row.kept fun a ha => by
      obtain ⟨cur, hc⟩ := h.row.type ha
      exact hk.block _ (Array.getElem?_eq_some_iff.1 hc).1 (h.names.noCells hc)
    tur := h.tur.trans (hk.mono fun j hj => by rw [hj]; exact h.sN)
    keep := fun p v hs => by
      have hc := h.keep p v hs
      exact (World.cell?_of_block (a := p) (hk.block p.block (World.block_lt_of_cell? W p hc) (h.names.noCell hc))).trans hc }
/-- The cliques' map is written. -/
theorem JoinS.clq (h : JoinS w W S pb nb cb g9 g11 A cl fc n o d9 r9 d11 L9 f) {fc' : Nat → Option ClD} (hm : MapU clV U cb fc') (hk : Turned (fun j => j = cb) W U) : JoinS w U S pb nb cb g9 g11 A cl fc' n o d9 r9 d11 L9 f := by
  have kc : ∀ {g : Nat} {cs : Array Value} {t : TypeId} {fr : Nat × Nat}, W.heap[g]? = some (.cells cs t fr) → U.heap[g]? = some (.cells cs t fr) := fun {g cs t fr} hg => (hk.block g (Array.getElem?_eq_some_iff.1 hg).1 (h.cliques.noCells hg)).trans hg
  exact { h with
    blk := kc h.blk
    b9 := kc h.b9
    b11 := kc h.b11
    names := h.names.kept (hk.block nb h.names.lt (fun e => h.ne e))
    cliques := hm
    lists := lists_kept h.lists hk fun q c a h1 h2 h3 h4 => by
      obtain ⟨cur, hc⟩ := (h3 ▸ h.lists q h1 h2).cells_ h4
      exact ⟨(Array.getElem?_eq_some_iff.1 hc).1, h.cliques.noCells hc⟩
    row := h.row.kept fun a ha => by
      obtain ⟨cur, hc⟩ := h.row.type ha
      exact hk.block _ (Array.getElem?_eq_some_iff.1 hc).1 (h.cliques.noCells hc)
    tur := h.tur.trans (hk.mono fun j hj => by rw [hj]; exact h.sC)
    keep := fun p v hs => by
      have hc := h.keep p v hs
      exact (World.cell?_of_block (a := p) (hk.block p.block (World.block_lt_of_cell? W p hc) (h.cliques.noCell hc))).trans hc }
theorem JoinS.drew (h : JoinS w W S pb nb cb g9 g11 A cl fc n o d9 r9 d11 L9 f) : JoinS w W.drew S pb nb cb g9 g11 A cl fc n o d9 r9 d11 L9 f :=
  { h with
    names := h.names.kept rfl
    cliques := h.cliques.kept rfl
    lists := fun q h1 h2 => (h.lists q h1 h2).kept (fun _ _ _ _ => rfl) (fun j hj => hj)
    row := h.row.kept fun _ _ => rfl
    tur := h.tur.drew
    keep := fun p v hs => h.keep p v hs }
/-- The longer clique's cells are written: the least number. -/
theorem JoinS.put0 (h : JoinS w W S pb nb cb g9 g11 A cl fc n o d9 r9 d11 L9 f) (m : Nat) : JoinS w (W.setCell ⟨g9, 0, none⟩ (.int .u32 (m : Int))) S pb nb cb g9 g11 A cl fc n o { d9 with least := m } r9 d11 L9 f := by
  have hk : Turned (fun j => j = g9) W (W.setCell ⟨g9, 0, none⟩ (.int .u32 (m : Int))) := Turned.set (S := fun j => j = g9) (w := W) (a := ⟨g9, 0, none⟩) rfl (.int .u32 (m : Int))
  have k : ∀ j, j ≠ g9 → (W.setCell ⟨g9, 0, none⟩ (.int .u32 (m : Int))).heap[j]? = W.heap[j]? := fun j hj => Below.heap_setCell _ _ _ _ hj
  have hb : (W.setCell ⟨g9, 0, none⟩ (.int .u32 (m : Int))).heap[g9]? = _ := heap_setCell_same _ g9 0 _ _ _ h.b9
  exact { h with
    blk := (k pb (fun e => h.p9 e.symm)).trans h.blk
    b9 := hb
    b11 := (k g11 (fun e => h.n911 e.symm)).trans h.b11
    names := h.names.kept (k nb (fun e => h.names.noCells h.b9 e.symm))
    cliques := h.cliques.kept (k cb (fun e => h.cliques.noCells h.b9 e.symm))
    lists := lists_kept h.lists hk fun q c a h1 h2 h3 h4 => by
      obtain ⟨cur, hc⟩ := (h3 ▸ h.lists q h1 h2).cells_ h4
      refine ⟨(Array.getElem?_eq_some_iff.1 hc).1, fun e => ?_⟩
      rw [e, h.b9] at hc
      injection hc with hc
      injection hc with _ hc _
      exact absurd hc (by decide)
    row := h.row.kept fun a ha => k _ (h.row.noCells h.b9 (by decide) a ha)
    tur := h.tur.over hk fun j e => .inr (by rw [e]; exact h.n9)
    keep := fun p v hs => by
      have hlt := World.block_lt_of_cell? w p hs.1
      exact (World.cell?_of_block (a := p) (k p.block (by have := h.n9; omega))).trans (h.keep p v hs) }
/-- The longer clique's list is another one: its header. -/
theorem JoinS.put1 (h : JoinS w W S pb nb cb g9 g11 A cl fc n o d9 r9 d11 L9 f) (ao : Option Addr) (len cap : Nat) :
    JoinS w (W.setCell ⟨g9, 1, none⟩ (.slice ao len cap)) S pb nb cb g9 g11 A cl fc n o ⟨d9.least, ao, len, cap⟩ r9 d11 L9 f := by
  have hk : Turned (fun j => j = g9) W (W.setCell ⟨g9, 1, none⟩ (.slice ao len cap)) := Turned.set (S := fun j => j = g9) (w := W) (a := ⟨g9, 1, none⟩) rfl (.slice ao len cap)
  have k : ∀ j, j ≠ g9 → (W.setCell ⟨g9, 1, none⟩ (.slice ao len cap)).heap[j]? = W.heap[j]? := fun j hj => Below.heap_setCell _ _ _ _ hj
  have hb : (W.setCell ⟨g9, 1, none⟩ (.slice ao len cap)).heap[g9]? = _ := heap_setCell_same _ g9 1 _ _ _ h.b9
  exact { h with
    blk := (k pb (fun e => h.p9 e.symm)).trans h.blk
    b9 := hb
    b11 := (k g11 (fun e => h.n911 e.symm)).trans h.b11
    names := h.names.kept (k nb (fun e => h.names.noCells h.b9 e.symm))
    cliques := h.cliques.kept (k cb (fun e => h.cliques.noCells h.b9 e.symm))
    lists := lists_kept h.lists hk fun q c a h1 h2 h3 h4 => by
      obtain ⟨cur, hc⟩ := (h3 ▸ h.lists q h1 h2).cells_ h4
      refine ⟨(Array.getElem?_eq_some_iff.1 hc).1, fun e => ?_⟩
      rw [e, h.b9] at hc
      injection hc with hc
      injection hc with _ hc _
      exact absurd hc (by decide)
    row := h.row.kept fun a ha => k _ (h.row.noCells h.b9 (by decide) a ha)
    tur := h.tur.over hk fun j e => .inr (by rw [e]; exact h.n9)
    keep := fun p v hs => by
      have hlt := World.block_lt_of_cell? w p hs.1
      exact (World.cell?_of_block (a := p) (k p.block (by have := h.n9; omega))).trans (h.keep p v hs) }
/-- The longer list's block is written behind the list's end, or another block is made. -/
theorem JoinS.app (h : JoinS w W S pb nb cb g9 g11 A cl fc n o d9 r9 d11 L9 f) {L : List Nat} {r : ClD} (hk : Turned (fun j => ∃ a, r9.ao = some a ∧ j = a.block) W U) (hr : RowK U 23 1 r.ao r.len r.cap (u32C L)) (hor : r.ao = r9.ao ∨ ∀ a, r.ao = some a → W.heap.size ≤ a.block)
    (hold : ∀ a, r9.ao = some a → ∀ j u, (u32C L9)[j]? = some u → U.cell? (a.add j) = some u) (hown : ∀ a, r9.ao = some a → a.block < w.heap.size → ∃ c, cl n = some c ∧ c.ao = r9.ao ∧ c.len ≤ L9.length) : JoinS w U S pb nb cb g9 g11 A cl fc n o d9 r d11 L f := by
  have kc : ∀ {g : Nat} {cs : Array Value} {t : TypeId} {fr : Nat × Nat}, W.heap[g]? = some (.cells cs t fr) → t ≠ 23 → U.heap[g]? = some (.cells cs t fr) := fun {g cs t fr} hg ht => (hk.block g (Array.getElem?_eq_some_iff.1 hg).1 (fun ⟨a, ha, e⟩ => h.row.noCells hg ht a ha e.symm)).trans hg
  have km : ∀ {V : Type} {enc : V → Value} {b : Nat} {f : Nat → Option V}, MapU enc W b f → MapU enc U b f := fun {V enc b f} hm => hm.kept (hk.block b hm.lt (fun ⟨a, ha, e⟩ => by
    obtain ⟨cur, hc⟩ := h.row.type ha
    exact hm.noCells hc e.symm))
  exact { h with
    blk := kc h.blk (by decide)
    b9 := kc h.b9 (by decide)
    b11 := kc h.b11 (by decide)
    names := km h.names
    cliques := km h.cliques
    lists := lists_kept h.lists hk fun q c a h1 h2 h3 h4 => by
      obtain ⟨cur, hc⟩ := (h3 ▸ h.lists q h1 h2).cells_ h4
      exact ⟨(Array.getElem?_eq_some_iff.1 hc).1, fun ⟨a', ha', e⟩ => h.ap9 q c h1 h2 h3 a a' h4 ha' e⟩
    row := hr
    ap9 := fun q c h1 h2 h3 a a' h4 h5 => by
      rcases hor with e | e
      · exact h.ap9 q c h1 h2 h3 a a' h4 (e ▸ h5)
      · have := e a' h5
        obtain ⟨cur, hc⟩ := (h3 ▸ h.lists q h1 h2).cells_ h4
        have := (Array.getElem?_eq_some_iff.1 hc).1
        omega
    in9 := fun a ha => by
      rcases hor with e | e
      · exact h.in9 a (e ▸ ha)
      · exact .inr (Nat.le_trans h.tur.size (e a ha))
    tur := h.tur.over hk fun j ⟨a, ha, e⟩ => by rw [e]; exact h.in9 a ha
    keep := fun p v hs => by
      have hc := h.keep p v hs
      have hlt := World.block_lt_of_cell? w p hs.1
      by_cases hb : ∃ a, r9.ao = some a ∧ p.block = a.block
      · obtain ⟨a, ha, hb⟩ := hb
        obtain ⟨c, h1, h2, h3⟩ := hown a ha (by omega)
        obtain ⟨j, hj, e⟩ := hs.2 n c a h1 (h2.trans ha) hb.symm
        have hjl : j < (u32C L9).length := by unfold u32C; rw [List.length_map]; omega
        have hu := List.getElem?_eq_getElem hjl
        have h4 := h.row.atAdd ha j _ hu
        rw [e] at hc ⊢
        rw [hc] at h4
        rw [h4]
        exact hold a ha j _ hu
      · exact (World.cell?_of_block (a := p) (hk.block p.block (World.block_lt_of_cell? W p hc) (fun ⟨a, ha, e⟩ => hb ⟨a, ha, e⟩))).trans hc }
/-- What was safe is safe. -/
theorem JoinS.safe (h : JoinS w W S pb nb cb g9 g11 A cl fc n o d9 d9 d11 L9 f) (hin : ∀ a, d9.ao = some a → a.block < w.heap.size → ∃ c, cl n = some c ∧ c.ao = d9.ao ∧ c.len ≤ d9.len) : ∀ p v, Safe w cl p v → Safe W (fun q => if o = q then none else if n = q then some d9 else cl q) p v := fun p v hs => ⟨h.keep p v hs, fun q c a hq ha hb => by
  dsimp only at hq
  split at hq
  · cases hq
  · split at hq
    · cases hq
      have hlt := World.block_lt_of_cell? w p hs.1
      obtain ⟨c', h1, h2, h3⟩ := hin a ha (by omega)
      obtain ⟨j, hj, e⟩ := hs.2 n c' a h1 (h2.trans ha) hb
      exact ⟨j, by omega, e⟩
    · exact hs.2 q c a hq ha hb⟩
/-- What is there at last is a partition. -/
theorem JoinS.part (h : JoinS w W S pb nb cb g9 g11 A cl (fun q => if o = q then none else if n = q then some d9 else cl q) n o d9 d9 d11 L9 f) {A' : PartA} (hA : InvA A') (hf : A'.nm = f) (hl : d9.len = L9.length) (hab : A'.ab = fun q => if o = q then none else if n = q then some (d9.least, L9) else A.ab q) (hon : ¬ o = n)
    (hap : ∀ q q' c c', q ≠ q' → cl q = some c → cl q' = some c' → ∀ a a', c.ao = some a → c'.ao = some a' → a.block ≠ a'.block) :
    PartI W (growS S w W) pb nb cb A' (fun q => if o = q then none else if n = q then some d9 else cl q) where
  mem := ⟨h.blk, by rw [hf]; exact h.names, h.cliques⟩
  ne := h.ne
  sP := .inl h.sP
  sN := .inl h.sN
  sC := .inl h.sC
  lt := fun j hj => by
    rcases hj with hj | hj
    · exact Nat.lt_of_lt_of_le (h.lt j hj) h.tur.size
    · exact hj.2
  lists := fun q => by
    rw [hab]
    by_cases e1 : o = q
    · simp only [if_pos e1]
      rfl
    · simp only [if_neg e1]
      by_cases e2 : n = q
      · simp only [if_pos e2]
        refine ⟨d9.ao, d9.cap, by rw [← hl], by rw [← hl]; exact h.row, fun a ha => ?_⟩
        rcases h.in9 a ha with h1 | h1
        · exact .inl h1
        · exact .inr ⟨h1, h.row.lt ha⟩
      · simp only [if_neg e2]
        exact (h.lists q (fun e => e2 e.symm) (fun e => e1 e.symm)).kept (fun _ _ _ _ => rfl) (fun j hj => .inl hj)
  apart := fun q q' c c' hne h1 h2 a a' ha ha' => by
    have ex : ∀ {q : Nat} {c : ClD}, (if o = q then none else if n = q then some d9 else cl q) = some c → (q = n ∧ c = d9) ∨ (q ≠ n ∧ q ≠ o ∧ cl q = some c) := fun {q c} h => by
      split at h
      · cases h
      · rename_i e1
        split at h
        · rename_i e2
          cases h
          exact .inl ⟨e2.symm, rfl⟩
        · rename_i e2
          exact .inr ⟨fun e => e2 e.symm, fun e => e1 e.symm, h⟩
    rcases ex h1 with ⟨e1, e2⟩ | ⟨e1, e2, e3⟩
    · subst e2
      rcases ex h2 with ⟨e4, e5⟩ | ⟨e4, e5, e6⟩
      · exact absurd (e1.trans e4.symm) hne
      · exact (h.ap9 q' c' e4 e5 e6 a' a ha' ha).symm
    · rcases ex h2 with ⟨e4, e5⟩ | ⟨e4, e5, e6⟩
      · subst e5
        exact h.ap9 q c e1 e2 e3 a a' ha ha'
      · exact hap q q' c c' hne e3 e6 a a' ha ha'
  named := fun a n hn => hA.named a n hn
end
end Go.Proofs.Ytjbfjglomonanaa

