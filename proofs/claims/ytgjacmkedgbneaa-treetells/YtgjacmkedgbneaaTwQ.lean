/-
  Contract of tree's New.
-/
import Derived.Test.YtgjacmkedgbneaaTwP
import Derived.Laws.MakeOwn
namespace Go.Proofs.Ytgjacmkedgbneaa
open Go.RowKit Go.Sort Ky Wd Tn Tr

/-- A zero node. -/
def nZ : N := ⟨false, false, 0, 0, 0, 0⟩
/-- A block of nodes, nothing else. -/
def Nb (w : World) (g : Nat) (l : List N) : Prop := w.heap[g]? = some (.cells (cellsN l).toArray 57 (0, 0))
theorem Nb.lt {w : World} {g : Nat} {l : List N} (h : Nb w g l) : g < w.heap.size := (Array.getElem?_eq_some_iff.1 h).1
theorem Nb.gr {w w' : World} {g : Nat} {l : List N} (h : Nb w g l) (hg : Gr w w') : Nb w' g l := (hg.below.block g h.lt).trans h
theorem Nb.nc {w : World} {g : Nat} {l : List N} (h : Nb w g l) {k : Nat} (hk : k < l.length) : Nc w g (k * 6) (l.getD k nE) := by
  have h' : w.heap[g]? = _ := h
  have each : ∀ j (hj : j < 6), w.cell? ⟨g, k * 6 + j, none⟩ = (cellsN1 (l.getD k nE))[j]? := by
    intro j hj
    rw [← cellsN_at l k hk j hj]
    simp only [World.cell?, h']
    simp
  exact ⟨each 0 (by omega), each 1 (by omega), each 2 (by omega), each 3 (by omega), each 4 (by omega), each 5 (by omega)⟩
theorem Nb.frozen {w : World} {g : Nat} {l : List N} (h : Nb w g l) (o : Nat) : w.frozen? ⟨g, o, none⟩ = false := by
  have h' : w.heap[g]? = _ := h
  simp [World.frozen?, h']
theorem Nb.set1 {w : World} {g : Nat} {l : List N} (h : Nb w g l) {k : Nat} (hk : k < l.length) (n : N) (j : Nat) (hj : j < 6) (v : Value) (hv : (cellsN1 (l.getD k nE)).set j v = cellsN1 n) : Nb (w.setCell ⟨g, k * 6 + j, none⟩ v) g (l.set k n) := by
  have h' : w.heap[g]? = _ := h
  unfold Nb
  simp only [World.setCell, Array.getElem?_modify, if_true, h']
  rw [← cellsN_set l k hk n j hj v hv]
  simp
theorem getD_set_same (l : List N) (k : Nat) (hk : k < l.length) (n : N) : (l.set k n).getD k nE = n := by simp [List.getD, hk]
theorem Nb.node {w : World} {g : Nat} {l : List N} (h : Nb w g l) {k : Nat} (hk : k < l.length) (n : N) : Nb (setNode w g (k * 6) n) g (l.set k n) := by
  obtain ⟨x, hx⟩ : ∃ x, l.getD k nE = x := ⟨_, rfl⟩
  have h0 := h.set1 hk { x with inn := n.inn } 0 (by omega) (.bool n.inn) (by rw [hx]; rfl)
  have l0 : ∀ y, k < (l.set k y).length := fun y => by rw [List.length_set]; exact hk
  have h1 := h0.set1 (l0 _) { x with inn := n.inn, red := n.red } 1 (by omega) (.bool n.red) (by rw [getD_set_same _ _ hk]; rfl)
  rw [List.set_set] at h1
  have h2 := h1.set1 (l0 _) { x with inn := n.inn, red := n.red, v := n.v } 2 (by omega) (.int .u64 n.v) (by rw [getD_set_same _ _ hk]; rfl)
  rw [List.set_set] at h2
  have h3 := h2.set1 (l0 _) { x with inn := n.inn, red := n.red, v := n.v, l := n.l } 3 (by omega) (.int .i64 n.l) (by rw [getD_set_same _ _ hk]; rfl)
  rw [List.set_set] at h3
  have h4 := h3.set1 (l0 _) { x with inn := n.inn, red := n.red, v := n.v, l := n.l, r := n.r } 4 (by omega) (.int .i64 n.r) (by rw [getD_set_same _ _ hk]; rfl)
  rw [List.set_set] at h4
  have h5 := h4.set1 (l0 _) n 5 (by omega) (.int .i64 n.u) (by rw [getD_set_same _ _ hk]; rfl)
  rw [List.set_set] at h5
  exact h5
theorem Nb.nds {w : World} {g : Nat} {l : List N} (h : Nb w g l) (hl : l.length ≤ maxLen) (hU : ∀ x ∈ l, U x.v) : Nds w (.slice (some ⟨g, 0, none⟩) l.length l.length) l :=
  ⟨_, _, rfl, ⟨Nat.le_refl _, hl⟩, hU, fun _ => ⟨g, 0, rfl, fun i hi => by have := h.nc hi; rw [Nat.zero_add]; exact this⟩⟩
theorem made_zero (n : Nat) : madeCells (Value.cells (.agg #[.bool false, .bool false, .int .u64 0, .int .i64 0, .int .i64 0, .int .i64 0])) (n * 6) = (cellsN (List.replicate n nZ)).toArray := by
  refine Array.ext (by simp [size_madeCells, cellsN_length]) fun i h1 h2 => ?_
  have hi : i < n * 6 := by simpa [size_madeCells] using h1
  have h3 := cellsN_at (List.replicate n nZ) (i / 6) (by simp; omega) (i % 6) (by omega)
  rw [show i / 6 * 6 + i % 6 = i by omega] at h3
  have h4 : (cellsN (List.replicate n nZ))[i]? = some ((cellsN (List.replicate n nZ))[i]'(by simp [cellsN_length]; exact hi)) := List.getElem?_eq_getElem _
  rw [h4] at h3
  have h5 : (List.replicate n nZ).getD (i / 6) nE = nZ := by simp [List.getD, show i / 6 < n by omega]
  rw [h5] at h3
  simp only [List.getElem_toArray]
  have h6 : i % 6 < 6 := by omega
  have h7 : (madeCells (Value.cells (.agg #[.bool false, .bool false, .int .u64 0, .int .i64 0, .int .i64 0, .int .i64 0])) (n * 6))[i]'h1 = (#[Value.bool false, .bool false, .int .u64 0, .int .i64 0, .int .i64 0, .int .i64 0])[i % 6]! := by simp [madeCells, Value.cells]
  rw [h7]
  generalize i % 6 = q at h3 h6 ⊢
  rcases (show q = 0 ∨ q = 1 ∨ q = 2 ∨ q = 3 ∨ q = 4 ∨ q = 5 by omega) with rfl | rfl | rfl | rfl | rfl | rfl <;> exact (Option.some.inj h3).symm

/-- The first k nodes are empty. -/
def newL (n k : Nat) : List N := List.replicate k nE ++ List.replicate (n - k) nZ
theorem newL_len {n k : Nat} (h : k ≤ n) : (newL n k).length = n := by simp [newL]; omega
theorem newL_set {n k : Nat} (h : k < n) : (newL n k).set k nE = newL n (k + 1) := by
  unfold newL
  rw [List.set_append_right _ _ (by simp), List.length_replicate, Nat.sub_self, show n - k = n - (k + 1) + 1 by omega, List.replicate_succ, List.set_cons_zero, List.replicate_succ', List.append_assoc]
  rfl

/-- What New tells. -/
def newT (n : Int) : T := if 0 ≤ n ∧ n ≤ 64 then ⟨-1, List.replicate n.toNat nE⟩ else ⟨0, []⟩
def newE (n : Int) : Int := if 0 ≤ n ∧ n ≤ 64 then 0 else 1
set_option maxHeartbeats 2000000 in
set_option maxRecDepth 100000 in
theorem New_at (n : Int) (W : World) :
    Calls Try.prog 25 #[.int .i64 n] W fun en w' => (∃ v', en = .returned (.tuple #[tv (newT n) v', .int .i64 (newE n)]) ∧ Nds w' v' (newT n).ns) ∧ Below W.heap.size W w' := by
  have HB1 : Hid (Below W.heap.size W (W.alloc (.cells #[.int .i64 0, .slice none 0 0] 24))) := Lib.hid ((Below.refl _ _).alloc (Nat.le_refl _) _)
  have HR1 := Lib.hid (Tb.new W 0 (.slice none 0 0) 24)
  by_cases hn : 0 ≤ n ∧ n ≤ 64
  · obtain ⟨k, rfl⟩ : ∃ k : Nat, n = k := ⟨n.toNat, by omega⟩
    have ET : Hid (newT k = ⟨-1, List.replicate k nE⟩ ∧ newE k = 0) := Lib.hid (by unfold newT newE; rw [if_pos hn, if_pos hn]; exact ⟨by simp, rfl⟩)
    rw [ET.out.1, ET.out.2]
    unfold tv
    have hk : k ≤ 64 := by omega
    obtain ⟨i, hi, hz, hs1, hs2⟩ := info_parts info_node
    have hmk : ∀ w : World, (Instr.makeSlice 22 (.int .i64 k) (.int .i64 k)).run Try.prog w = .ok (.slice (some ⟨w.heap.size, 0, none⟩) k k) (w.alloc (.cells (cellsN (List.replicate k nZ)).toArray 57)) := fun w => by
      have := run_make w 22 57 i _ Try.underlying22 hi hz .i64 .i64 k k (by omega) (by omega) (by rw [hs2]; omega) (by omega)
      rw [hs1, Int.toNat_natCast, made_zero] at this
      exact this
    have hk0 : (0 : Int) ≤ k := by omega
    have hk64 : (k : Int) ≤ 64 := by omega
    clear hn hi hz hs1 hs2 i ET
    go_enter Try.func25, Try.ntmps25
    go_upto_region 5 with fail
    have HB2 := Lib.hid (HB1.out.alloc HB1.out.size (.cells (cellsN (List.replicate k nZ)).toArray 57))
    have HR2 := Lib.hid (HR1.out.below (Gr.alloc _ (.cells (cellsN (List.replicate k nZ)).toArray 57)).below HR1.out.lt)
    have HN2 : Hid (Nb ((W.alloc (.cells #[.int .i64 0, .slice none 0 0] 24)).alloc (.cells (cellsN (List.replicate k nZ)).toArray 57)) (W.heap.size + 1) (newL k 0)) := Lib.hid (by
      have := heap_alloc_new (W.alloc (.cells #[.int .i64 0, .slice none 0 0] 24)) (.cells (cellsN (List.replicate k nZ)).toArray 57)
      rw [show (W.alloc (.cells #[.int .i64 0, .slice none 0 0] 24)).heap.size = W.heap.size + 1 by simp] at this
      unfold Nb newL
      rw [this]
      simp)
    generalize (W.alloc (.cells #[.int .i64 0, .slice none 0 0] 24)).alloc (.cells (cellsN (List.replicate k nZ)).toArray 57) = w2 at HB2 HR2 HN2 ⊢
    clear hmk HB1 HR1
    go_loopw [17] (fun i wr => ∃ j : Nat, j ≤ k ∧ i = .int .i64 j ∧ Hid (Nb wr (W.heap.size + 1) (newL k j) ∧ Tb wr W.heap.size 0 (.slice none 0 0) 24 ∧ Below W.heap.size W wr)) (fun i _ => k - (intOf i).toNat)
    case atStart => exact ⟨0, by omega, rfl, Lib.hid ⟨HN2.out, HR2.out, HB2.out⟩⟩
    case round =>
      obtain ⟨j, hj, rfl, HJ⟩ := hrel
      clear HB2 HR2 HN2
      have HNb := Lib.hid HJ.out.1
      have HTb := Lib.hid HJ.out.2.1
      have HBl := Lib.hid HJ.out.2.2
      clear HJ
      by_cases hlt : j < k
      · have hjl : j < (newL k j).length := by rw [newL_len hj]; exact hlt
        go_wp2_with fail
        refine (emptyN_at _).mono ?_
        rintro e' w3 ⟨rfl, hg3⟩
        have HG3 := Lib.hid hg3
        have HN3 := Lib.hid (HNb.out.gr hg3)
        obtain ⟨n0, n1, n2, n3, n4, n5⟩ := HN3.out.nc hjl
        have fr := fun o => HN3.out.frozen o
        have HN4 := Lib.hid (HN3.out.node hjl nE)
        rw [newL_set hlt] at HN4
        have HT4 := Lib.hid (HTb.out.below hg3.below HTb.out.lt)
        have HB4 := Lib.hid (HBl.out.trans (hg3.below.mono HBl.out.size))
        generalize (newL k j).getD j nE = nx at n0 n1 n2 n3 n4 n5
        clear hg3 hjl
        go_wp2_with fail
        have HT5 : Hid (Tb (setNode w3 (W.heap.size + 1) (j * 6) nE) W.heap.size 0 (.slice none 0 0) 24) := Lib.hid (by
          have hne : ∀ (w : World) (o : Nat) (x : Value), (w.setCell ⟨W.heap.size + 1, o, none⟩ x).heap[W.heap.size]? = w.heap[W.heap.size]? := fun w o x => Below.heap_setCell _ _ _ _ (by show W.heap.size ≠ W.heap.size + 1; omega)
          unfold Tb setNode
          rw [hne, hne, hne, hne, hne, hne]
          exact HT4.out)
        have HB5 : Hid (Below W.heap.size W (setNode w3 (W.heap.size + 1) (j * 6) nE)) := Lib.hid (by
          have hle : W.heap.size ≤ W.heap.size + 1 := by omega
          exact (((((HB4.out.setCell (p := ⟨W.heap.size + 1, j * 6, none⟩) hle _).setCell (p := ⟨W.heap.size + 1, j * 6 + 1, none⟩) hle _).setCell (p := ⟨W.heap.size + 1, j * 6 + 2, none⟩) hle _).setCell (p := ⟨W.heap.size + 1, j * 6 + 3, none⟩) hle _).setCell (p := ⟨W.heap.size + 1, j * 6 + 4, none⟩) hle _).setCell (p := ⟨W.heap.size + 1, j * 6 + 5, none⟩) hle _)
        exact ⟨⟨j + 1, by omega, by go_num, Lib.hid ⟨HN4.out, HT5.out, HB5.out⟩⟩, by simp [intOf]; omega⟩
      · obtain rfl : j = k := by omega
        obtain ⟨g0, g1, g2, g3⟩ := HTb.out.all
        have HS6 := Lib.hid (HTb.out.store (-1) (.slice (some ⟨W.heap.size + 1, 0, none⟩) j j)).all
        have HB6 := Lib.hid ((HBl.out.setCell (p := ⟨W.heap.size, 0, none⟩) (Nat.le_refl _) (.int .i64 (-1))).setCell (p := ⟨W.heap.size, 1, none⟩) (Nat.le_refl _) (.slice (some ⟨W.heap.size + 1, 0, none⟩) j j))
        have HN6 : Hid (Nb ((wr.setCell ⟨W.heap.size, 0, none⟩ (.int .i64 (-1))).setCell ⟨W.heap.size, 1, none⟩ (.slice (some ⟨W.heap.size + 1, 0, none⟩) j j)) (W.heap.size + 1) (List.replicate j nE)) := Lib.hid (by
          refine (Below.heap_setCell _ _ _ _ (by show W.heap.size + 1 ≠ W.heap.size; omega)).trans ((Below.heap_setCell _ _ _ _ (by show W.heap.size + 1 ≠ W.heap.size; omega)).trans ?_)
          have := HNb.out
          unfold Nb newL at this
          rw [Nat.sub_self, List.replicate_zero, List.append_nil] at this
          exact this)
        go_wp2
        obtain ⟨z0, z1, -, -⟩ := HS6.out
        refine bodyPost_ret (v := .tuple #[.agg #[.int .i64 (-1), .slice (some ⟨W.heap.size + 1, 0, none⟩) j j], .int .i64 0]) (by simp [results, Try.results25, go_sem, z0, z1]) rfl ⟨⟨_, rfl, ?_⟩, HB6.out⟩
        have := HN6.out.nds (by unfold maxLen; simp; omega) (by intro x hx; obtain ⟨-, rfl⟩ := List.mem_replicate.1 hx; exact ⟨by decide, by decide⟩)
        rw [List.length_replicate] at this
        exact this
  · have ET : Hid (newT n = ⟨0, []⟩ ∧ newE n = 1) := Lib.hid (by unfold newT newE; rw [if_neg hn, if_neg hn]; exact ⟨rfl, rfl⟩)
    rw [ET.out.1, ET.out.2]
    unfold tv
    obtain ⟨g0, g1, g2, g3⟩ := HR1.out.all
    have HF : Hid (Below W.heap.size W _) := HB1
    by_cases h0 : n < 0
    · clear hn ET g0 g1 g2 g3
      go_enter Try.func25, Try.ntmps25
      go_wp2
      exact bodyPost_ret (v := .tuple #[.agg #[.int .i64 0, .slice none 0 0], .int .i64 1]) (by simp [results, Try.results25, go_sem]) rfl ⟨⟨.slice none 0 0, rfl, nil_nds _⟩, HF.out⟩
    · have h1 : 64 < n := by omega
      clear hn ET g0 g1 g2 g3
      go_enter Try.func25, Try.ntmps25
      go_wp2
      exact bodyPost_ret (v := .tuple #[.agg #[.int .i64 0, .slice none 0 0], .int .i64 1]) (by simp [results, Try.results25, go_sem]) rfl ⟨⟨.slice none 0 0, rfl, nil_nds _⟩, HF.out⟩
end Go.Proofs.Ytgjacmkedgbneaa
