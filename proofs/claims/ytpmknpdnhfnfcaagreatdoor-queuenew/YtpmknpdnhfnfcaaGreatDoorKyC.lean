/-
  Contracts of slices.Clone at keys, of key.Sort's closure and of key.Sort: the slice that comes back holds the keys, each behind those that are less.
-/
import Derived.Test.YtpmknpdnhfnfcaaGreatDoorKyB
import Derived.Test.YtpmknpdnhfnfcaaGreatDoorShelf
namespace Go.Proofs.YtpmknpdnhfnfcaaGreatDoor
open Go.RowKit Go.Sort Go.Lib Go.Shelf Wd Tn Ky

theorem cellOn {W : World} (o : Obj) {p : Addr} {v : Value} (h : W.cell? p = some v) : (W.alloc o).cell? p = some v := (Gr.alloc W o).cell h
theorem cellNew (W : World) (v : Value) (t : TypeId) : (W.alloc (.cells #[v] t)).cell? ⟨W.heap.size, 0, none⟩ = some v := by
  have h : (W.alloc (.cells #[v] t)).heap[W.heap.size]? = some (.cells #[v] t) := heap_alloc_new W _
  simp only [World.cell?, h]; rfl

set_option maxRecDepth 100000 in
set_option maxHeartbeats 2000000 in
theorem clone_any {W : World} {v : Value} {l : List K} (h : Keys W v l) (hl : l.length ≤ 1000) :
    Calls Tryz.prog 116 #[v] W fun e w' => ∃ v', e = .returned v' ∧ OwnK w' W.heap.size 57 v' l ∧ Below W.heap.size W w' := by
  have HK := Lib.hid h
  obtain ⟨a, cap, rfl, hm, hk, hc⟩ := h
  have q : ∀ (w : World) (a : Option Addr) (n c n' c' : Nat), (binOp .eql 54 (.slice a n c) (.slice none n' c')).run Tryz.prog w = .ok (.bool a.isNone) w := fun w a n c n' c' => Lib.run_eql_slice_nil w _ _ a n c n' c' Tryz.underlying54
  cases a with
  | none =>
    have hnil : l = [] := by
      by_cases h0 : l = []
      · exact h0
      · obtain ⟨b, off, e, -⟩ := hc h0
        cases e
    subst hnil
    clear hk hc
    go_enter Tryz.func116, Tryz.ntmps116
    go_wp2
    go_ret
    exact ⟨_, rfl, OwnK.nil _ _ _, Below.refl _ _⟩
  | some a =>
    have HX : Hid (Keys (W.alloc (.cells #[] 57)) (.slice (some a) l.length cap) l) := Lib.hid (HK.out.below ((Below.refl _ _).alloc (Nat.le_refl _) _))
    have HO : Hid (OwnK (W.alloc (.cells #[] 57)) W.heap.size 57 (.slice (some ⟨W.heap.size, 0, none⟩) 0 0) []) := Lib.hid (World.ownsRow_made W #[] 0 (Nat.le_refl _) (Nat.zero_le _) (by simp))
    clear hk hc HK
    go_enter Tryz.func116, Tryz.ntmps116
    go_wp2_with (at_builtin; refine wpList_append_keys rfl (.tmp 5) (.tmp 6) 54 rfl W.heap.size 57 Tryz.underlying54 info_key (by decide) [] l HO.out HX.out (by simp; omega) (by simp) ?_; intro v' w2 hown2 hbel2)
    go_ret
    exact ⟨_, rfl, by simpa using hown2, ((Below.refl _ W).alloc (Nat.le_refl _) _).trans hbel2⟩

/-! ### Sort -/
/-- What the closure tells. -/
def cmpK (m : Int) (a b : K) : Int := if ltK m a b = true then -1 else if ltK m b a = true then 1 else 0
theorem cmpK_lt (m : Int) (a b : K) : ltOf (cmpK m) a b = ltK m a b := by
  unfold ltOf cmpK
  cases h : ltK m a b with
  | true => simp
  | false => cases k : ltK m b a <;> simp
theorem cmpK_swo (m : Int) : SWO (ltOf (cmpK m)) where
  irrefl x := by rw [cmpK_lt]; exact lt_irrefl m x
  trans x y z h1 h2 := by rw [cmpK_lt] at *; exact lt_trans h1 h2
  ntrans x y z h1 h2 := by rw [cmpK_lt] at *; exact lt_ntrans h1 h2

set_option maxRecDepth 100000 in
set_option maxHeartbeats 2000000 in
theorem cmp_gr (m : Int) (x y : K) (bm : Nat) (X : World) (hb : X.cell? ⟨bm, 0, none⟩ = some (.int .u64 m)) :
    Calls Tryz.prog 118 #[.agg #[.int .u64 x.1, .int .i64 x.2], .agg #[.int .u64 y.1, .int .i64 y.2], .pointer (some ⟨bm, 0, none⟩)] X fun e w' => e = .returned (.int .i64 (cmpK m x y)) ∧ Gr X w' := by
  have hlt : bm < X.heap.size := World.block_lt_of_cell? X ⟨bm, 0, none⟩ hb
  unfold cmpK
  cases h1 : ltK m x y with
  | true =>
    go_enter Tryz.func118, Tryz.ntmps118
    go_wp2_with fail
    refine (less_gr m x y _).mono ?_
    rintro e' w1 ⟨rfl, hg⟩
    rw [h1]
    go_wp2
    go_ret
    exact ⟨rfl, ((Gr.alloc _ _).trans (Gr.alloc _ _)).trans hg⟩
  | false =>
    have key : ∀ w1, Gr ((X.alloc (.cells #[.int .u64 x.1, .int .i64 x.2] 57)).alloc (.cells #[.int .u64 y.1, .int .i64 y.2] 57)) w1 →
        w1.cell? ⟨bm, 0, none⟩ = some (.int .u64 m) ∧ w1.cell? ⟨X.heap.size, 0, none⟩ = some (.int .u64 x.1) ∧ w1.cell? ⟨X.heap.size, 1, none⟩ = some (.int .i64 x.2) ∧ w1.cell? ⟨X.heap.size + 1, 0, none⟩ = some (.int .u64 y.1) ∧ w1.cell? ⟨X.heap.size + 1, 1, none⟩ = some (.int .i64 y.2) := fun w1 hg => by
      refine ⟨hg.cell (cellOn _ (cellOn _ hb)), hg.cell (cellOn _ ?_), hg.cell (cellOn _ ?_), hg.cell ?_, hg.cell ?_⟩
      · rw [World.cell?_alloc_at _ _ _ _ rfl]; rfl
      · rw [World.cell?_alloc_at _ _ _ _ rfl]; rfl
      · rw [World.cell?_alloc_at _ _ _ _ (by simp)]; rfl
      · rw [World.cell?_alloc_at _ _ _ _ (by simp)]; rfl
    have HKy := Lib.hid key
    clear key
    cases h2 : ltK m y x with
    | true =>
      go_enter Tryz.func118, Tryz.ntmps118
      go_wp2_with fail
      refine (less_gr m x y _).mono ?_
      rintro e' w1 ⟨rfl, hg⟩
      rw [h1]
      obtain ⟨c0, c1, c2, c3, c4⟩ := HKy.out w1 hg
      go_wp2_with fail
      refine (less_gr m y x _).mono ?_
      rintro e' w2 ⟨rfl, hg2⟩
      rw [h2]
      go_wp2
      go_ret
      exact ⟨rfl, (((Gr.alloc _ _).trans (Gr.alloc _ _)).trans hg).trans hg2⟩
    | false =>
      go_enter Tryz.func118, Tryz.ntmps118
      go_wp2_with fail
      refine (less_gr m x y _).mono ?_
      rintro e' w1 ⟨rfl, hg⟩
      rw [h1]
      obtain ⟨c0, c1, c2, c3, c4⟩ := HKy.out w1 hg
      go_wp2_with fail
      refine (less_gr m y x _).mono ?_
      rintro e' w2 ⟨rfl, hg2⟩
      rw [h2]
      go_wp2
      go_ret
      exact ⟨rfl, (((Gr.alloc _ _).trans (Gr.alloc _ _)).trans hg).trans hg2⟩

def encK (x : K) : List Value := [.int .u64 x.1, .int .i64 x.2]
theorem flat_at (l : List K) (j : Nat) (hj : j < l.length * 2) : (cellsK l)[j]? = some (encK l.toArray[j / 2]!)[j % 2]! := by
  have hi : j / 2 < l.length := by omega
  have h := cellsK_at l (j / 2) hi
  have e : l.toArray[j / 2]! = l.getD (j / 2) (0, 0) := by
    rw [getElem!_pos l.toArray (j / 2) (by simpa using hi)]
    simp [List.getD, hi]
  rw [e]
  rcases (show j % 2 = 0 ∨ j % 2 = 1 by omega) with h0 | h0
  · rw [h0]
    have := h.1
    rw [show j / 2 * 2 = j by omega] at this
    exact this
  · rw [h0]
    have := h.2
    rw [show j / 2 * 2 + 1 = j by omega] at this
    exact this
theorem holds_of {w : World} {g : Nat} {l : List K} (hcs : ∀ j u, (cellsK l)[j]? = some u → w.cell? ⟨g, j, none⟩ = some u) (hfz : ∀ j, w.frozen? ⟨g, j, none⟩ = false) : HoldsK encK 2 w g 0 l.toArray := by
  intro j hj
  rw [size_flatK] at hj
  have hj' : j < l.length * 2 := by simpa using hj
  rw [Nat.zero_add]
  refine ⟨?_, hfz j⟩
  rw [get_flatK _ _ _ _ hj]
  exact hcs j _ (flat_at l j hj')
theorem keys_of {w : World} {g : Nat} {d : Array K} {n cap : Nat} (h : HoldsK encK 2 w g 0 d) (hn : n = d.size) (hm : d.size ≤ cap ∧ cap ≤ maxLen) (hk : ∀ x ∈ d.toList, Kin x) : Keys w (.slice (some ⟨g, 0, none⟩) n cap) d.toList := by
  refine keys_flat (by simpa using hn) (by simpa using hm) hk (fun j u hu => ?_)
  have hj : j < d.toList.length * 2 := by
    have := (List.getElem?_eq_some_iff.1 hu).1
    rwa [cellsK_length] at this
  have hj' : j < d.size * 2 := by simpa using hj
  have := (h j (by rw [size_flatK]; exact hj')).1
  rw [get_flatK _ _ _ _ hj'] at this
  have hf := flat_at d.toList j hj
  rw [Array.toArray_toList] at hf
  rw [hf] at hu
  rw [this]
  exact hu
theorem sort_cell {w : World} {blk n : Nat} {d : Array K} {os : Array Obj} {p : Addr} {v : Value} (hp : w.cell? p = some v) (hne : p.block ≠ blk) : (sortWorldK encK 2 w blk 0 n d os).cell? p = some v := by
  have h1 : (putRowK encK 2 (Sort.ahead w n) blk 0 d).cell? p = some v := by rw [cell?_putRowK_other _ _ _ _ _ _ _ hne]; exact hp
  unfold sortWorldK
  have := cell_grown (World.block_lt_of_cell? _ p h1) h1 0 os
  exact this
theorem sort_below {w : World} {B blk n : Nat} {d : Array K} {os : Array Obj} (hB : B ≤ blk) (hBw : B ≤ w.heap.size) : Below B w (sortWorldK encK 2 w blk 0 n d os) := by
  unfold sortWorldK
  refine ⟨rfl, rfl, rfl, ?_, fun i hi => ?_⟩
  · rw [size_grow, size_putRowK]
    exact Nat.le_add_right _ _
  · show ((putRowK encK 2 (Sort.ahead w n) blk 0 d).heap ++ os)[i]? = _
    rw [Array.getElem?_append_left (by rw [size_putRowK]; show i < w.heap.size; omega)]
    show (w.heap.modify blk _)[i]? = _
    rw [Array.getElem?_modify, if_neg (by omega)]
theorem perm_all {d d' : Array K} (h : PermIn 0 d.size d d') : d'.toList.Perm d.toList := by
  obtain ⟨hs, -, hp⟩ := h
  have e1 : d'.extract 0 d.size = d' := by rw [← hs]; exact Array.extract_size
  rw [e1, Array.extract_size] at hp
  exact hp
theorem asc_all {m : Int} {d d' : Array K} (hs : d'.size = d.size) (h : SortedIn (ltOf (cmpK m)) 0 d.size d') : Asc m d'.toList := by
  refine List.pairwise_iff_getElem.2 fun i j hi hj hij => ?_
  have hj' : j < d'.size := by simpa using hj
  have := h i j (Nat.zero_le _) hij (by omega)
  rw [cmpK_lt, getElem!_pos d' i (by omega), getElem!_pos d' j hj'] at this
  simpa using this

set_option maxRecDepth 100000 in
set_option maxHeartbeats 2000000 in
/-- slices.SortFunc with the closure, on a row of the caller's own. -/
theorem sorts_any {w : World} {B : Nat} {v : Value} {l : List K} (hO : OwnK w B 57 v l) (hBw : B ≤ w.heap.size) (hk : ∀ x ∈ l, Kin x) (hl : l.length ≤ 1000) (m : Int) (bm : Nat) (hb : w.cell? ⟨bm, 0, none⟩ = some (.int .u64 m)) (hbm : bm < B) :
    Calls Tryz.prog 117 #[v, .func (.func 118) #[] #[.pointer (some ⟨bm, 0, none⟩)]] w fun e w' => e = .returned (.tuple #[]) ∧ Keys w' v (srtK m l) ∧ Below B w w' := by
  by_cases h0 : l = []
  · subst h0
    have hv : ∃ a cap, v = .slice a 0 cap := by
      rcases hO.2 with ⟨rfl, -⟩ | ⟨g, cap, cur, rfl, -⟩
      · exact ⟨_, _, rfl⟩
      · exact ⟨_, _, rfl⟩
    obtain ⟨a, cap, rfl⟩ := hv
    have hcon := AnyF.slices_SortFunc_none (P := Tryz.prog) { Tryz.laySort with } a cap (.func (.func 118) #[] #[.pointer (some ⟨bm, 0, none⟩)]) w
    change Calls Tryz.prog 117 _ _ _ at hcon
    refine hcon.mono ?_
    rintro e w' ⟨rfl, rfl⟩
    refine ⟨rfl, ⟨a, cap, rfl, ⟨Nat.zero_le _, ?_⟩, by simp [srtK], fun h => absurd rfl h⟩, Below.refl _ _⟩
    rcases hO.2 with ⟨e, -⟩ | ⟨g, c, cur, e, -, -, -, hcm, -⟩
    · cases e; exact Nat.zero_le _
    · cases e; exact hcm
  · have hp : 0 < l.length := List.length_pos_iff.2 h0
    obtain ⟨g, cap, cur, rfl, hBg, hgw, hg, hnc, hcm, hsz, hcs, hsp, hfz⟩ := hO.row hp
    have hH := holds_of hcs hfz
    have hmx : l.length < 4611686018427387904 := by omega
    have eg : ∀ args w, (callFunc 118 args).run Tryz.prog w = .ok (.enter 118 args) w := enters_of Tryz.func118 (by kernel_rfl) rfl
    have hcmp : CmpLays Tryz.prog 118 #[.pointer (some ⟨bm, 0, none⟩)] encK 2 (cmpK m) g 0 l.toArray.size w := fun n os dk _ x y => by
      refine (cmp_gr m x y bm (sortWorldK encK 2 w g 0 n dk os) (sort_cell hb (by show bm ≠ g; omega))).mono ?_
      rintro e w' ⟨rfl, hg⟩
      exact ⟨rfl, hg⟩
    have hcon := AnyQ.slices_SortFunc Tryz.laySort 2 Tryz.isAgg57 Tryz.sizeOf57 encK (fun _ => rfl) (fun x v hv => by simp [encK] at hv; rcases hv with rfl | rfl <;> rfl) (cmpK m) (cmpK_swo m) 118 #[.pointer (some ⟨bm, 0, none⟩)] g 0 cap l.toArray w eg hcmp hH hgw (by simpa using hmx)
    change Calls Tryz.prog 117 _ _ _ at hcon
    rw [show l.toArray.size = l.length by simp] at hcon
    refine hcon.mono ?_
    rintro e w' ⟨rfl, d', n, os, hperm, hsort, rfl⟩
    have hs : d'.size = l.toArray.size := hperm.1
    have hpl : d'.toList.Perm l := by simpa using perm_all (d := l.toArray) hperm
    have hd : d'.toList = srtK m l := srtK_one hk (asc_all (d := l.toArray) hs (by simpa using hsort)) hpl
    have hl' : d'.size = l.length := by simpa using hs
    have hK := keys_of (w := sortWorldK encK 2 w g 0 n d' os) (n := l.length) (cap := cap) (holdsK_sortWorldK_c encK 2 w g 0 l.toArray d' n os hH hgw hs) hl'.symm ⟨by omega, hcm⟩ (fun x hx => hk x (hpl.mem_iff.1 hx))
    rw [hd] at hK
    exact ⟨rfl, hK, sort_below hBg hBw⟩

set_option maxRecDepth 100000 in
set_option maxHeartbeats 2000000 in
theorem sort_any {W : World} {v : Value} {l : List K} (m : Int) (h : Keys W v l) (hl : l.length ≤ 1000) :
    Calls Tryz.prog 72 #[.int .u64 m, v] W fun e w' => (∃ v', e = .returned v' ∧ Keys w' v' (srtK m l)) ∧ Below W.heap.size W w' := by
  have HB : Hid (Below W.heap.size W (W.alloc (.cells #[.int .u64 m] 25))) := Lib.hid ((Below.refl _ _).alloc (Nat.le_refl _) _)
  have HK : Hid (Keys (W.alloc (.cells #[.int .u64 m] 25)) v l) := Lib.hid (h.below HB.out)
  have HKin := Lib.hid h.kin
  have HS := Lib.hid (fun (w : World) (v' : Value) (hO : OwnK w (W.heap.size + 1) 57 v' l) (hBw : W.heap.size + 1 ≤ w.heap.size) (hb : w.cell? ⟨W.heap.size, 0, none⟩ = some (.int .u64 m)) => sorts_any hO hBw HKin.out hl m W.heap.size hb (by omega))
  clear h
  go_enter Tryz.func72, Tryz.ntmps72
  go_wp2_with fail
  refine (clone_any HK.out hl).mono ?_
  rintro e' w1 ⟨v1, rfl, hO, hb1⟩
  have hsz1 : (W.alloc (.cells #[.int .u64 m] 25)).heap.size = W.heap.size + 1 := by simp
  rw [hsz1] at hO hb1
  have HO := Lib.hid hO
  have HB1 : Hid (Below W.heap.size W w1) := Lib.hid (HB.out.trans (hb1.mono (by omega)))
  have hcb : Hid (w1.cell? ⟨W.heap.size, 0, none⟩ = some (.int .u64 m)) := Lib.hid (by
    rw [hb1.cell (p := ⟨W.heap.size, 0, none⟩) (by show W.heap.size < W.heap.size + 1; omega)]
    exact cellNew W _ _)
  have hsw : Hid (W.heap.size + 1 ≤ w1.heap.size) := Lib.hid (by have := hb1.size; rw [hsz1] at this; exact this)
  clear hO hb1 hsz1
  go_wp2_with fail
  refine (HS.out w1 v1 HO.out hsw.out hcb.out).mono ?_
  rintro e' w2 ⟨rfl, hK2, hb2⟩
  go_wp2
  go_ret
  exact ⟨⟨_, rfl, hK2⟩, HB1.out.trans (hb2.mono (by omega))⟩
end Go.Proofs.YtpmknpdnhfnfcaaGreatDoor
