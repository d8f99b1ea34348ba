/-
  Contract of slices.Insert (one element) at keys, on a row that the caller itself made, wherever it is put.
-/
import Derived.Test.YtdmkaclihopmkaaKyB
namespace Go.Proofs.Ytdmkaclihopmkaa
open Go.RowKit Go.Sort Go.Lib Wd Tn Ky

theorem isSome_cells (b : Nat) (vs : List Value) (o : Nat) (w : World) (h : ∀ j, j < vs.length → (w.cell? ⟨b, o + j, none⟩).isSome = true) (k : Nat) (hk : (w.cell? ⟨b, k, none⟩).isSome = true) : ((w.setCells b o vs).cell? ⟨b, k, none⟩).isSome = true := by
  by_cases hin : o ≤ k ∧ k < o + vs.length
  · have := World.cell?_setCells_in b vs o w h (k - o) (by omega)
    rw [show o + (k - o) = k by omega] at this
    rw [this]; rfl
  · rw [World.cell?_setCells_out b vs o w ⟨b, k, none⟩ (fun _ _ => by show k < o ∨ o + vs.length ≤ k; omega)]
    exact hk

set_option maxHeartbeats 4000000 in
set_option maxRecDepth 1000000 in
/-- Ahead of another one, and there is room. -/
theorem insert_shift {w : World} {B : Nat} {l : List K} (hk : ∀ x ∈ l, Kin x) (hl : l.length ≤ 1000) (k : K) (hkk : Kin k) (vb : Nat) (h1 : One w vb k) (i : Nat) (hi : i < l.length)
    (g cap : Nat) (cur : Array Value) (hB : B ≤ g) (hg : w.heap[g]? = some (.cells cur 26 (0, 0))) (hcm : cap ≤ maxLen) (hsz : cur.size = cap * 2) (hcs : ∀ j u, (cellsK l)[j]? = some u → w.cell? ⟨g, j, none⟩ = some u)
    (hsp : ∀ j, j < cap * 2 → (w.cell? ⟨g, j, none⟩).isSome = true) (hfz : ∀ j, w.frozen? ⟨g, j, none⟩ = false) (hne : vb ≠ g) (hroom : l.length + 1 ≤ cap) :
    Calls Try.prog 33 #[.slice (some ⟨g, 0, none⟩) l.length cap, .int .i64 i, .slice (some ⟨vb, 0, none⟩) 1 1] w fun e w' => (∃ v', e = .returned v' ∧ Keys w' v' (l.take i ++ k :: l.drop i)) ∧ Below B w w' := by
  have hlc := cellsK_length l
  have hov : ∀ lb cb, (callFunc 38 #[.slice (some ⟨vb, 0, none⟩) 1 1, .slice (some ⟨g, (i + 1) * 2, none⟩) lb cb]).run Try.prog w = .ok (.value (.bool false)) w := fun lb cb => by
    rw [run_callFunc_extern Try.func38 (by kernel_rfl) (by kernel_rfl) (by kernel_rfl) (e := Extern.SlicesOverlaps.overlaps #[23, 23] #[4]) (by kernel_rfl),
      Lib.run_overlaps_apart w 23 4 26 Try.underlying23 2 Try.sizeOf26 ⟨vb, 0, none⟩ ⟨g, (i + 1) * 2, none⟩ 1 1 lb cb hne 26 26 2 (cap * 2)
        (by simp [World.shape?, show w.heap[vb]? = _ from h1]) (by simp [World.shape?, hg, hsz]) (by omega) (by simp [World.frozen?, show w.heap[vb]? = _ from h1]) (by simp [World.frozen?, show w.heap[vb]? = _ from h1])]
    rfl
  obtain ⟨dr, hdr⟩ : ∃ dr, dr = (cellsK l).drop (i * 2) := ⟨_, rfl⟩
  have hdl : dr.length = (l.length - i) * 2 := by rw [hdr, List.length_drop, hlc]; omega
  have hd1 : ∀ v ∈ dr, v.oneCell' = true := fun v hv => by rw [hdr] at hv; exact cellsK_one l v (List.mem_of_mem_drop hv)
  obtain ⟨W1, hW1⟩ : ∃ W1, W1 = w.drew.setCells g ((i + 1) * 2) dr := ⟨_, rfl⟩
  have hcp1 : ∀ ty dc sc, ∃ r, (Builtin.copy_ #[23, 23] ty #[.slice (some ⟨g, (i + 1) * 2, none⟩) (l.length - i) dc, .slice (some ⟨g, i * 2, none⟩) (l.length + 1 - i) sc]).run Try.prog w.drew = .ok r W1 := fun ty dc sc => by
    rw [hW1]
    exact run_copy_keys w.drew ty g ((i + 1) * 2) _ dc ⟨g, i * 2, none⟩ _ sc dr (by rw [hdl]; simp only [Nat.min_def]; split <;> omega)
      (fun j v hj => by rw [Addr.add_lit]; rw [hdr, List.getElem?_drop] at hj; exact hcs _ v hj)
      (fun j hj => hsp _ (by omega)) (fun j hj => hfz _) hd1
  have hsp1 : ∀ j, j < cap * 2 → (W1.cell? ⟨g, j, none⟩).isSome = true := fun j hj => by
    rw [hW1]
    exact isSome_cells g dr _ w.drew (fun t ht => hsp _ (by omega)) j (hsp j hj)
  have hfz1 : ∀ j, W1.frozen? ⟨g, j, none⟩ = false := fun j => by rw [hW1, World.frozen?_setCells]; exact hfz j
  obtain ⟨W2, hW2⟩ : ∃ W2, W2 = W1.setCells g (i * 2) [.int .u64 k.1, .int .i64 k.2] := ⟨_, rfl⟩
  have hcp2 : ∀ ty dc, ∃ r, (Builtin.copy_ #[23, 23] ty #[.slice (some ⟨g, i * 2, none⟩) (l.length + 1 - i) dc, .slice (some ⟨vb, 0, none⟩) 1 1]).run Try.prog W1 = .ok r W2 := fun ty dc => by
    rw [hW2]
    exact run_copy_keys W1 ty g (i * 2) _ dc ⟨vb, 0, none⟩ 1 1 [.int .u64 k.1, .int .i64 k.2] (by simp only [Nat.min_def, List.length_cons, List.length_nil]; split <;> omega)
      (fun j v hj => by
        rw [Addr.add_lit, hW1, World.cell?_setCells_out g _ _ _ _ (fun h _ => absurd h hne)]
        exact h1.at j v hj)
      (fun j hj => hsp1 _ (by simp at hj; omega)) (fun j hj => hfz1 _) (one_cells k)
  have HR : Hid (Keys W2 (.slice (some ⟨g, 0, none⟩) (l.length + 1) cap) (l.take i ++ k :: l.drop i) ∧ Below B w W2) := by
    refine Lib.hid ⟨keys_flat (by simp; omega) ⟨by simp; omega, by first | exact hcm | exact hGm⟩ (put_kin hk hkk) (cells_put (by omega) (fun j u hj hu => ?_) ?_ ?_ (fun j u hu => ?_)), ?_⟩
    · rw [hW2, World.cell?_setCells_out g _ _ _ ⟨g, j, none⟩ (fun _ _ => Or.inl hj), hW1, World.cell?_setCells_out g _ _ _ ⟨g, j, none⟩ (fun _ _ => Or.inl (by show j < (i + 1) * 2; omega))]
      exact hcs j u hu
    · rw [hW2]
      exact World.cell?_setCells_in g _ (i * 2) W1 (fun t ht => hsp1 _ (by simp at ht; omega)) 0 (by simp)
    · rw [hW2]
      exact World.cell?_setCells_in g _ (i * 2) W1 (fun t ht => hsp1 _ (by simp at ht; omega)) 1 (by simp)
    · have hjl : j < dr.length := by
        have := (List.getElem?_eq_some_iff.1 hu).1
        omega
      rw [hW2, World.cell?_setCells_out g _ _ _ ⟨g, (i + 1) * 2 + j, none⟩ (fun _ _ => Or.inr (by show i * 2 + 2 ≤ (i + 1) * 2 + j; omega)), hW1,
        World.cell?_setCells_in g dr ((i + 1) * 2) w.drew (fun t ht => hsp _ (by omega)) j hjl, ← hu]
      rw [← List.getElem?_eq_getElem, hdr, List.getElem?_drop]
    · rw [hW2, hW1]
      exact below_cells hB _ _ _ (below_cells hB _ _ _ (Below.refl B w).drew)
  have hb1 : (0 : Int) ≤ (i : Int) + 1 := by omega
  have hin : i ≤ l.length := by omega
  have htn : ((i : Int) + 1).toNat = i + 1 := by omega
  have hb2 : ¬ (cap = i + 1) := by omega
  have hb3 : (i : Int) ≤ (l.length : Int) + 1 := by omega
  have hb4 : ¬ (cap = i) := by omega
  have hb5 : (i : Int) + 1 ≤ (l.length : Int) + 1 := by omega
  have hz2 : ¬ ((i : Int) = (l.length : Int)) := by omega
  have hw1 : IntKind.i64.wrap ((i : Int) + 1) = (i : Int) + 1 := by rw [IntKind.wrap_i64]; omega
  clear hcs hsp hfz hsp1 hfz1 hg h1 hd1 hk hkk hdl hW1 hW2 hdr hcm
  go_enter Try.func33, Try.ntmps33
  go_wp2_with (simp only [hov])
  go_region_law (refine step_copy_at rfl (.tmp 73) (.tmp 76) 23 23 rfl (.slice (some ⟨g, (i + 1) * 2, none⟩) (l.length - i) (cap - (i + 1))) (.slice (some ⟨g, i * 2, none⟩) (l.length + 1 - i) (cap - i)) (by simp [Act.eval, Act.put]) (by simp [Act.eval, Act.put]) (hcp1 3 (cap - (i + 1)) (cap - i)) ?_; intro r1)
  go_wp2_with (with_reducible refine wpList_copy_at _ rfl (.tmp 80) (.tmp 81) 23 23 rfl (.slice (some ⟨g, i * 2, none⟩) (l.length + 1 - i) (cap - i)) (.slice (some ⟨vb, 0, none⟩) 1 1) (by simp [Act.eval]) (by simp [Act.eval]) (hcp2 3 (cap - i)) ?_; intro r2)
  go_ret
  exact ⟨⟨_, rfl, HR.out.1⟩, HR.out.2⟩

set_option maxHeartbeats 4000000 in
set_option maxRecDepth 1000000 in
/-- Ahead of another one, and there is none. -/
theorem insert_grow {w : World} {B : Nat} {l : List K} (hk : ∀ x ∈ l, Kin x) (hl : l.length ≤ 1000) (k : K) (hkk : Kin k) (vb : Nat) (h1 : One w vb k) (i : Nat) (hi : i < l.length) (hBw : B ≤ w.heap.size)
    (g cap : Nat) (hgw : g < w.heap.size) (hcs : ∀ j u, (cellsK l)[j]? = some u → w.cell? ⟨g, j, none⟩ = some u) (hnc : l.length ≤ cap) (hroom : ¬ l.length + 1 ≤ cap) :
    Calls Try.prog 33 #[.slice (some ⟨g, 0, none⟩) l.length cap, .int .i64 i, .slice (some ⟨vb, 0, none⟩) 1 1] w fun e w' => (∃ v', e = .returned v' ∧ Keys w' v' (l.take i ++ k :: l.drop i)) ∧ Below B w w' := by
  have hlc := cellsK_length l
  obtain ⟨i0, hi0, hz0, hzs, hzb⟩ := info_parts info_key
  have hkk2 : (l.length : Int) + 1 - (i : Int) = ((l.length + 1 - i : Nat) : Int) := by omega
  have hik : i + (l.length + 1 - i) = l.length + 1 := by omega
  have hvw : vb < w.heap.size := h1.cells.2.2
  obtain ⟨tk, htk⟩ : ∃ tk, tk = (cellsK l).take (i * 2) := ⟨_, rfl⟩
  have htl : tk.length = i * 2 := by rw [htk, List.length_take, hlc]; omega
  have hold : (Builtin.firstCells i0.size i (.slice (some ⟨g, 0, none⟩) i cap)).run Try.prog w.drew = .ok tk.toArray w.drew := by
    rw [hzs]
    exact run_firstCells_some w.drew 2 i ⟨g, 0, none⟩ i cap tk htl (fun j v hj => by
      rw [Addr.add_lit, Nat.zero_add]
      rw [htk, List.getElem?_take] at hj
      split at hj
      · exact hcs j v hj
      · cases hj)
  obtain ⟨G, hG⟩ : ∃ G, G = grownCap w (l.length + 1) cap 26 := ⟨_, rfl⟩
  obtain ⟨ROW, hROW⟩ : ∃ ROW : Array Value, ROW = tk.toArray ++ Builtin.zeroCells (Value.agg #[.int .u64 0, .int .i64 0]).cells (l.length + 1 - i) ++ Builtin.zeroCells (Value.agg #[.int .u64 0, .int .i64 0]).cells (G - (l.length + 1)) := ⟨_, rfl⟩
  have hrz : ∀ ty, (Builtin.append_ #[23, 3] ty #[.slice (some ⟨g, 0, none⟩) i cap, .int .i64 ((l.length : Int) + 1 - (i : Int))]).run Try.prog w =
      .ok (.slice (some ⟨w.heap.size, 0, none⟩) (l.length + 1) G) (w.drew.alloc (.cells ROW 26)) := fun ty => by
    have h := Lib.run_append_grow_zeros w 23 3 ty 26 i0 _ .i64 .i64 Try.underlying23 Try.underlying3 hi0 hz0 (some ⟨g, 0, none⟩) i cap tk hold (l.length + 1 - i) (by omega) (by omega) (by omega) (by omega) (by rw [hzb]; omega) (by rw [hzb, hik]; exact growslice_fits (by omega) (by omega))
    rw [hik] at h
    rw [hkk2, hROW, hG]
    exact h
  have hRl : (l.length + 1) * 2 ≤ ROW.size := by
    rw [hROW]
    simp [Builtin.zeroCells, Value.cells, htl]
    omega
  have hRt : ∀ j u, j < i * 2 → (cellsK l)[j]? = some u → ROW[j]? = some u := fun j u hj hu => by
    rw [hROW, Array.append_assoc, Array.getElem?_append_left (by simp [htl]; omega), List.getElem?_toArray, htk, List.getElem?_take_of_lt hj]
    exact hu
  obtain ⟨W1, hW1⟩ : ∃ W1, W1 = w.drew.alloc (.cells ROW 26) := ⟨_, rfl⟩
  have hc1 : ∀ j, W1.cell? ⟨w.heap.size, j, none⟩ = ROW[j]? := fun j => by rw [hW1]; exact World.cell?_alloc_at (w := w.drew) ROW _ w.heap.size j rfl
  have hN : ∀ j, j < (l.length + 1) * 2 → (W1.cell? ⟨w.heap.size, j, none⟩).isSome = true := fun j hj => by rw [hc1, Array.getElem?_eq_getElem (by omega)]; rfl
  have hNf : ∀ j, W1.frozen? ⟨w.heap.size, j, none⟩ = false := fun j => by rw [hW1]; exact World.frozen?_alloc_at (w := w.drew) ROW _ w.heap.size j rfl
  have hO : ∀ b j v, b < w.heap.size → w.cell? ⟨b, j, none⟩ = some v → W1.cell? ⟨b, j, none⟩ = some v := fun b j v hb h => by rw [hW1, World.cell?_alloc_past (w := w.drew) _ b j hb]; exact h
  obtain ⟨W2, hW2⟩ : ∃ W2, W2 = W1.setCells w.heap.size (i * 2) [.int .u64 k.1, .int .i64 k.2] := ⟨_, rfl⟩
  have hcpA : ∀ ty dc, ∃ r, (Builtin.copy_ #[23, 23] ty #[.slice (some ⟨w.heap.size, i * 2, none⟩) (l.length + 1 - i) dc, .slice (some ⟨vb, 0, none⟩) 1 1]).run Try.prog W1 = .ok r W2 := fun ty dc => by
    rw [hW2]
    exact run_copy_keys W1 ty w.heap.size (i * 2) _ dc ⟨vb, 0, none⟩ 1 1 [.int .u64 k.1, .int .i64 k.2] (by simp only [Nat.min_def, List.length_cons, List.length_nil]; split <;> omega)
      (fun j v hj => by rw [Addr.add_lit]; exact hO _ _ v hvw (h1.at j v hj))
      (fun j hj => hN _ (by simp at hj; omega)) (fun j hj => hNf _) (one_cells k)
  have hN2 : ∀ j, j < (l.length + 1) * 2 → (W2.cell? ⟨w.heap.size, j, none⟩).isSome = true := fun j hj => by
    rw [hW2]
    exact isSome_cells _ _ _ W1 (fun t ht => hN _ (by simp at ht; omega)) j (hN j hj)
  have hNf2 : ∀ j, W2.frozen? ⟨w.heap.size, j, none⟩ = false := fun j => by rw [hW2, World.frozen?_setCells]; exact hNf j
  obtain ⟨dr, hdr⟩ : ∃ dr, dr = (cellsK l).drop (i * 2) := ⟨_, rfl⟩
  have hdl : dr.length = (l.length - i) * 2 := by rw [hdr, List.length_drop, hlc]; omega
  have hd1 : ∀ v ∈ dr, v.oneCell' = true := fun v hv => by rw [hdr] at hv; exact cellsK_one l v (List.mem_of_mem_drop hv)
  obtain ⟨W3, hW3⟩ : ∃ W3, W3 = W2.drew.setCells w.heap.size ((i + 1) * 2) dr := ⟨_, rfl⟩
  have hcpB : ∀ ty dc sc, ∃ r, (Builtin.copy_ #[23, 23] ty #[.slice (some ⟨w.heap.size, (i + 1) * 2, none⟩) (l.length - i) dc, .slice (some ⟨g, i * 2, none⟩) (l.length - i) sc]).run Try.prog W2.drew = .ok r W3 := fun ty dc sc => by
    rw [hW3]
    exact run_copy_keys W2.drew ty w.heap.size ((i + 1) * 2) _ dc ⟨g, i * 2, none⟩ _ sc dr (by rw [hdl]; simp only [Nat.min_def]; split <;> omega)
      (fun j v hj => by
        rw [Addr.add_lit]
        show W2.cell? _ = some v
        rw [hW2, World.cell?_setCells_out _ _ _ _ _ (fun h _ => absurd h (by show g ≠ w.heap.size; omega))]
        rw [hdr, List.getElem?_drop] at hj
        exact hO _ _ v hgw (hcs _ v hj))
      (fun j hj => hN2 _ (by omega)) (fun j hj => hNf2 _) hd1
  have hGn : l.length + 1 ≤ G := by rw [hG]; exact grownCap_ge w _ _ _
  have hGm : G ≤ maxLen := by
    have := grownCap_le_maxLen w (l.length + 1) cap 26 (by unfold maxLen; omega)
    rwa [← hG] at this
  have hG63 : G ≤ 9223372036854775807 := by
    unfold maxLen at hGm
    omega
  have HR : Hid (Keys W3 (.slice (some ⟨w.heap.size, 0, none⟩) (l.length + 1) G) (l.take i ++ k :: l.drop i) ∧ Below B w W3) := by
    refine Lib.hid ⟨keys_flat (by simp; omega) ⟨by simp; omega, by first | exact hcm | exact hGm⟩ (put_kin hk hkk) (cells_put (by omega) (fun j u hj hu => ?_) ?_ ?_ (fun j u hu => ?_)), ?_⟩
    · rw [hW3, World.cell?_setCells_out _ _ _ _ ⟨w.heap.size, j, none⟩ (fun _ _ => Or.inl (by show j < (i + 1) * 2; omega))]
      show W2.cell? _ = _
      rw [hW2, World.cell?_setCells_out _ _ _ _ ⟨w.heap.size, j, none⟩ (fun _ _ => Or.inl hj), hc1]
      exact hRt j u hj hu
    · rw [hW3, World.cell?_setCells_out _ _ _ _ ⟨w.heap.size, i * 2, none⟩ (fun _ _ => Or.inl (by show i * 2 < (i + 1) * 2; omega))]
      show W2.cell? _ = _
      rw [hW2]
      exact World.cell?_setCells_in _ _ (i * 2) W1 (fun t ht => hN _ (by simp at ht; omega)) 0 (by simp)
    · rw [hW3, World.cell?_setCells_out _ _ _ _ ⟨w.heap.size, i * 2 + 1, none⟩ (fun _ _ => Or.inl (by show i * 2 + 1 < (i + 1) * 2; omega))]
      show W2.cell? _ = _
      rw [hW2]
      exact World.cell?_setCells_in _ _ (i * 2) W1 (fun t ht => hN _ (by simp at ht; omega)) 1 (by simp)
    · have hjl : j < dr.length := by
        have := (List.getElem?_eq_some_iff.1 hu).1
        omega
      rw [hW3, World.cell?_setCells_in _ dr ((i + 1) * 2) W2.drew (fun t ht => hN2 _ (by omega)) j hjl, ← hu]
      rw [← List.getElem?_eq_getElem, hdr, List.getElem?_drop]
    · rw [hW3, hW2, hW1]
      exact below_cells hBw _ _ _ (below_cells hBw _ _ _ ((Below.refl B w).drew.alloc hBw _)).drew
  have hE : w.drew.alloc (.cells ROW 26) = (w.alloc (.cells ROW 26)).drew := rfl
  have hci : ¬ (cap = i) := by omega
  have hGi : ¬ (G = i) := by omega
  have hGim : ¬ (G = i + 1) := by omega
  have hb1 : (0 : Int) ≤ (i : Int) + 1 := by omega
  have hin : i ≤ l.length := by omega
  have htn : ((i : Int) + 1).toNat = i + 1 := by omega
  have hb3 : (i : Int) ≤ (l.length : Int) := by omega
  have hb5 : (i : Int) + 1 ≤ (l.length : Int) + 1 := by omega
  have hz2 : ¬ ((i : Int) = (l.length : Int)) := by omega
  have hz3 : (cap : Int) < (l.length : Int) + 1 := by omega
  have hw1 : IntKind.i64.wrap ((i : Int) + 1) = (i : Int) + 1 := by rw [IntKind.wrap_i64]; omega
  rw [← hW1] at hrz
  clear hcs h1 hd1 hk hkk hdl hN hNf hN2 hNf2 hc1 hO hRt hRl hold hROW hkk2 hik hW1 hE hG hW2 hW3 hdr htk htl hGm
  go_enter Try.func33, Try.ntmps33
  go_wp2_with (first
    | (at_builtin; refine Lib.wpList_append_run _ rfl (.tmp 34) (.tmp 39) _ _ rfl _ _ rfl rfl _ _ (hrz _) ?_)
    | (with_reducible refine wpList_copy_at _ rfl (.tmp 43) (.tmp 44) 23 23 rfl (.slice (some ⟨w.heap.size, i * 2, none⟩) (l.length + 1 - i) (G - i)) (.slice (some ⟨vb, 0, none⟩) 1 1) (by simp [Act.eval]) (by simp [Act.eval]) (hcpA 3 (G - i)) ?_; intro r1))
  go_region_law (refine step_copy_at rfl (.tmp 50) (.tmp 53) 23 23 rfl (.slice (some ⟨w.heap.size, (i + 1) * 2, none⟩) (l.length - i) (G - (i + 1))) (.slice (some ⟨g, i * 2, none⟩) (l.length - i) (cap - i)) (by simp [Act.eval, Act.put]) (by simp [Act.eval, Act.put]) (hcpB 3 (G - (i + 1)) (cap - i)) ?_; intro r2)
  go_wp2
  go_ret
  exact ⟨⟨_, rfl, HR.out.1⟩, HR.out.2⟩


theorem insert_any {w : World} {B : Nat} {v : Value} {l : List K} (hO : OwnK w B 26 v l) (hB : B ≤ w.heap.size) (hk : ∀ x ∈ l, Kin x) (hl : l.length ≤ 1000) (k : K) (hkk : Kin k) (vb : Nat) (h1 : One w vb k) (hne : v.ownBlock ≠ some vb) (i : Nat) (hi : i ≤ l.length) :
    Calls Try.prog 33 #[v, .int .i64 i, .slice (some ⟨vb, 0, none⟩) 1 1] w fun e w' => (∃ v', e = .returned v' ∧ Keys w' v' (l.take i ++ k :: l.drop i)) ∧ Below B w w' := by
  by_cases hin : i = l.length
  · subst hin
    rw [List.take_length, List.drop_length]
    exact insert_end hO hB hk hl k hkk vb h1
  · obtain ⟨g, cap, cur, rfl, hBg, hgw, hg, hnc, hcm, hsz, hcs, hsp, hfz⟩ := hO.row (by omega)
    by_cases hroom : l.length + 1 ≤ cap
    · exact insert_shift hk hl k hkk vb h1 i (by omega) g cap cur hBg hg hcm hsz hcs hsp hfz (fun e => hne (by rw [e]; rfl)) hroom
    · exact insert_grow hk hl k hkk vb h1 i (by omega) hB g cap hgw hcs hnc hroom
end Go.Proofs.Ytdmkaclihopmkaa
