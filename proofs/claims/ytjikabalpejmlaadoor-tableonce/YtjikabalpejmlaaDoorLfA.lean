/-
  Contracts of layer 7 (life): the rules' functions, what an event is of, and what else it changes.
-/
import Derived.Test.YtjikabalpejmlaaDoorPkC
import Derived.Test.YtjikabalpejmlaaDoorLfM
import Derived.Test.YtjikabalpejmlaaDoorSl
import Derived.Maps.OwnSet
import Derived.OneCell
namespace Go.Proofs.YtjikabalpejmlaaDoor
open Go.RowKit Go.Joins Pk Lf

theorem has_getD {zs : List Int} {x : Int} {k : Nat} (hk : k < zs.length) (h : zs.getD k 0 = x) : cn zs x = true := by
  unfold cn
  rw [List.contains_iff_mem]
  have e : zs.getD k 0 = zs[k] := by simp [List.getD, hk]
  rw [← h, e]
  exact List.getElem_mem hk
theorem hasnt_getD {zs : List Int} {x : Int} (h : ∀ j, j < zs.length → zs.getD j 0 ≠ x) : cn zs x = false := by
  unfold cn
  cases hc : zs.contains x
  · rfl
  · rw [List.contains_iff_mem] at hc
    obtain ⟨j, hj, e⟩ := List.mem_iff_getElem.1 hc
    exact absurd (by simpa [List.getD, hj] using e) (h j hj)

set_option maxHeartbeats 400000 in
theorem index_any (zs : List Int) (x : Int) (v : Value) (w : World) (hI : Ints .i64 w v zs) (h0 : zs ≠ []) :
    Calls Tryd.prog 87 #[v, .int .i64 x] w fun e w' => (∃ r : Int, e = .returned (.int .i64 r) ∧ ((cn zs x = true ∧ 0 ≤ r) ∨ (cn zs x = false ∧ r = -1))) ∧ w = w' := by
  rcases hI.parts with ⟨h, -⟩ | ⟨hp, hm, b, off, cap, rfl, hb, hc⟩
  · exact absurd h h0
  obtain ⟨n, hn⟩ : ∃ n, zs.length = n := ⟨_, rfl⟩
  have hl : n ≤ 9223372036854775807 := by rw [← hn]; unfold maxLen at hm; omega
  clear hm hI h0
  have HY := Lib.hid (fun k (hk : k < n) => has_getD (zs := zs) (x := x) (k := k) (by omega))
  have HX : Hid ((∀ j, j < n → zs.getD j 0 ≠ x) → cn zs x = false) := fun h => hasnt_getD (fun j hj => h j (by omega))
  rw [hn] at hp hc ⊢
  have HN := Lib.hid hn
  clear hn
  go_enter Tryd.func87, Tryd.ntmps87
  go_wp2
  go_loop [8] (fun i => ∃ k : Nat, k ≤ n ∧ i = .int .i64 k ∧ ∀ j, j < k → zs.getD j 0 ≠ x) (fun i => n - (intOf i).toNat)
  case atStart => exact ⟨0, by omega, rfl, fun j hj => absurd hj (Nat.not_lt_zero _)⟩
  case round =>
    obtain ⟨k, hk, rfl, hle⟩ := hrel
    have HE := Lib.hid hle
    clear hle
    by_cases hlt : k < n
    · have hck := hc k hlt
      clear hc
      by_cases hz : zs.getD k 0 = x
      · have HR := Lib.hid (HY.out k hlt hz)
        rw [hz] at hck
        have e1 : (x == x) = true := by simp
        go_wp2
        go_ret
        exact ⟨⟨_, rfl, .inl ⟨HR.out, by omega⟩⟩, rfl⟩
      · have HS : Hid (∀ j, j < k + 1 → zs.getD j 0 ≠ x) := fun j hj => by
          by_cases e : j = k
          · subst e; exact hz
          · exact HE.out j (by omega)
        have e1 : (zs.getD k 0 == x) = false := by simpa using hz
        have e2 : (x == zs.getD k 0) = false := by simpa using fun h => hz h.symm
        clear hz
        generalize zs.getD k 0 = z at *
        go_wp2
        exact ⟨⟨k + 1, by omega, by go_num, HS.out⟩, by simp [intOf]; omega⟩
    · obtain rfl : k = n := by omega
      have HR := Lib.hid (HX.out HE.out)
      clear hc
      go_wp2
      go_ret
      exact ⟨⟨_, rfl, .inr ⟨HR.out, rfl⟩⟩, rfl⟩

theorem contains_any (zs : List Int) (x : Int) (v : Value) (w : World) (hI : Ints .i64 w v zs) (h0 : zs ≠ []) :
    Calls Tryd.prog 85 #[v, .int .i64 x] w fun e w' => e = .returned (.bool (cn zs x)) ∧ w = w' := by
  go_enter Tryd.func85, Tryd.ntmps85
  go_wp2_with fail
  refine (index_any zs x v _ hI h0).mono ?_
  rintro e' w' ⟨⟨r, rfl, h⟩, rfl⟩
  rcases h with ⟨h, hr⟩ | ⟨h, rfl⟩
  · have HH := Lib.hid h
    clear h
    go_wp2
    go_ret
    exact ⟨by rw [HH.out]; rfl, rfl⟩
  · have HH := Lib.hid h
    clear h
    go_wp2
    go_ret
    exact ⟨by rw [HH.out]; rfl, rfl⟩

/-- The closure of function f that captured the box n. -/
def clo (f n : Nat) : Value := .func (.func f) #[] #[.pointer (some ⟨n, 0, none⟩)]

theorem of_any (a : Option Addr) (l cap : Nat) (w : World) :
    Calls Tryd.prog 76 #[.slice a l cap] w fun e w' => e = .returned (clo 84 w.heap.size) ∧ w' = w.alloc (.cells #[.slice a l cap] 49) := by
  go_enter Tryd.func76, Tryd.ntmps76
  go_wp2
  go_ret
  exact ⟨rfl, rfl⟩
theorem blocking_any (b : Bool) (w : World) :
    Calls Tryd.prog 81 #[.bool b] w fun e w' => e = .returned (clo 86 w.heap.size) ∧ w' = w.alloc (.cells #[.bool b] 4) := by
  go_enter Tryd.func81, Tryd.ntmps81
  go_wp2
  go_ret
  exact ⟨rfl, rfl⟩

theorem of1_any (k c : Int) (b : Bool) (s g : Int) (n : Nat) (zs : List Int) (v : Value) (w : World) (hv : w.cell? ⟨n, 0, none⟩ = some v) (hI : Ints .i64 w v zs) (h0 : zs ≠ []) :
    Calls Tryd.prog 84 #[.agg #[.int .i64 k, .int .i64 c, .bool b, .int .i64 s, .int .i64 g], .pointer (some ⟨n, 0, none⟩)] w fun e w' => e = .returned (.bool (cn zs k)) ∧ Below w.heap.size w w' := by
  have hn : n < w.heap.size := World.block_lt_of_cell? w ⟨n, 0, none⟩ hv
  have hne : n ≠ w.heap.size := by omega
  have hs : ∃ a l cap, v = .slice a l cap := by obtain ⟨a, cap, rfl, -⟩ := hI; exact ⟨_, _, _, rfl⟩
  obtain ⟨a, l, cap, rfl⟩ := hs
  go_enter Tryd.func84, Tryd.ntmps84
  go_wp2_with fail
  refine (contains_any zs k _ _ (hI.below (by go_grown)) h0).mono ?_
  rintro e' w' ⟨rfl, rfl⟩
  go_wp2
  go_ret
  exact ⟨rfl, by go_grown⟩

theorem blocking1_any (k c : Int) (b : Bool) (s g : Int) (n : Nat) (d : Bool) (w : World) (hv : w.cell? ⟨n, 0, none⟩ = some (.bool d)) :
    Calls Tryd.prog 86 #[.agg #[.int .i64 k, .int .i64 c, .bool b, .int .i64 s, .int .i64 g], .pointer (some ⟨n, 0, none⟩)] w fun e w' => e = .returned (.bool (k == 7 && b == d)) ∧ Below w.heap.size w w' := by
  have hn : n < w.heap.size := World.block_lt_of_cell? w ⟨n, 0, none⟩ hv
  have hne : n ≠ w.heap.size := by omega
  by_cases hk : k = 7
  · subst hk
    cases b <;> cases d <;>
    · go_enter Tryd.func86, Tryd.ntmps86
      go_wp2
      go_ret
      exact ⟨rfl, by go_grown⟩
  · have h1 : (k == 7) = false := by simpa using hk
    go_enter Tryd.func86, Tryd.ntmps86
    go_wp2
    go_ret
    exact ⟨by simp [h1], by go_grown⟩

theorem stay_any (k c : Int) (b : Bool) (s g cpu : Int) (w : World) :
    Calls Tryd.prog 80 #[.agg #[.int .i64 k, .int .i64 c, .bool b, .int .i64 s, .int .i64 g], .int .i64 cpu] w fun e w' => e = .returned (.agg #[.int .i64 k, .int .i64 c, .bool b, .int .i64 s, .int .i64 g]) ∧ Below w.heap.size w w' := by
  go_enter Tryd.func80, Tryd.ntmps80
  go_wp2
  go_returns
  exact ⟨rfl, by go_grown⟩
theorem move_any (k c : Int) (b : Bool) (s g cpu : Int) (w : World) :
    Calls Tryd.prog 82 #[.agg #[.int .i64 k, .int .i64 c, .bool b, .int .i64 s, .int .i64 g], .int .i64 cpu] w fun e w' => e = .returned (.agg #[.int .i64 k, .int .i64 cpu, .bool b, .int .i64 s, .int .i64 g]) ∧ Below w.heap.size w w' := by
  go_enter Tryd.func82, Tryd.ntmps82
  go_wp2
  go_returns
  exact ⟨rfl, by go_grown⟩
theorem leave_any (k c : Int) (b : Bool) (s g cpu : Int) (w : World) :
    Calls Tryd.prog 78 #[.agg #[.int .i64 k, .int .i64 c, .bool b, .int .i64 s, .int .i64 g], .int .i64 cpu] w fun e w' => e = .returned (.agg #[.int .i64 k, .int .i64 0, .bool b, .int .i64 0, .int .i64 g]) ∧ Below w.heap.size w w' := by
  go_enter Tryd.func78, Tryd.ntmps78
  go_wp2
  go_returns
  exact ⟨rfl, by go_grown⟩
theorem take_any (k c : Int) (b : Bool) (s g cpu : Int) (hg : 0 ≤ g ∧ g ≤ 4294967295) (w : World) :
    Calls Tryd.prog 77 #[.agg #[.int .i64 k, .int .i64 c, .bool b, .int .i64 s, .int .i64 g], .int .i64 cpu] w fun e w' => e = .returned (.agg #[.int .i64 k, .int .i64 cpu, .bool b, .int .i64 0, .int .i64 (g + 1)]) ∧ Below w.heap.size w w' := by
  obtain ⟨g0, g1⟩ := hg
  go_enter Tryd.func77, Tryd.ntmps77
  go_wp2
  go_returns
  exact ⟨rfl, by go_grown⟩
theorem count_any (k c : Int) (b : Bool) (s g cpu : Int) (hs : 0 ≤ s ∧ s ≤ 65535) (w : World) :
    Calls Tryd.prog 79 #[.agg #[.int .i64 k, .int .i64 c, .bool b, .int .i64 s, .int .i64 g], .int .i64 cpu] w fun e w' => e = .returned (.agg #[.int .i64 k, .int .i64 c, .bool b, .int .i64 ((s + 1) % 65536), .int .i64 g]) ∧ Below w.heap.size w w' := by
  obtain ⟨s0, s1⟩ := hs
  go_enter Tryd.func79, Tryd.ntmps79
  go_wp2
  go_returns
  exact ⟨rfl, by go_grown⟩

/-- An event's function that asks, and the one that changes. -/
def ofF : Nat → Nat
  | 8 => 86 | 9 => 86 | 10 => 86 | _ => 84
def chF : Nat → Nat
  | 0 => 77 | 1 => 78 | 2 => 79 | 11 => 82 | 12 => 82 | 13 => 82 | 15 => 82 | _ => 80
/-- What the box n holds, that the event's closure captured. -/
def OfAt (w : World) (i n : Nat) : Prop :=
  match i with
  | 8 => w.cell? ⟨n, 0, none⟩ = some (.bool false)
  | 9 => w.cell? ⟨n, 0, none⟩ = some (.bool false)
  | 10 => w.cell? ⟨n, 0, none⟩ = some (.bool true)
  | i => ∃ v, w.cell? ⟨n, 0, none⟩ = some v ∧ Ints .i64 w v (kinds i)
theorem sixteen_cases {p : Nat → Prop} (h : p 0 ∧ p 1 ∧ p 2 ∧ p 3 ∧ p 4 ∧ p 5 ∧ p 6 ∧ p 7 ∧ p 8 ∧ p 9 ∧ p 10 ∧ p 11 ∧ p 12 ∧ p 13 ∧ p 14 ∧ p 15) (i : Nat) (hi : i < 16) : p i := by
  obtain ⟨h0, h1, h2, h3, h4, h5, h6, h7, h8, h9, h10, h11, h12, h13, h14, h15⟩ := h
  match i, hi with
  | 0, _ => exact h0
  | 1, _ => exact h1
  | 2, _ => exact h2
  | 3, _ => exact h3
  | 4, _ => exact h4
  | 5, _ => exact h5
  | 6, _ => exact h6
  | 7, _ => exact h7
  | 8, _ => exact h8
  | 9, _ => exact h9
  | 10, _ => exact h10
  | 11, _ => exact h11
  | 12, _ => exact h12
  | 13, _ => exact h13
  | 14, _ => exact h14
  | 15, _ => exact h15
  | n + 16, h => exact absurd h (by omega)

theorem asks_any (i : Nat) (hi : i < 16) (k c : Int) (b : Bool) (s g : Int) (n : Nat) (w : World) (h : OfAt w i n) :
    Calls Tryd.prog (ofF i) #[.agg #[.int .i64 k, .int .i64 c, .bool b, .int .i64 s, .int .i64 g], .pointer (some ⟨n, 0, none⟩)] w fun e w' => e = .returned (.bool (ofB i k b)) ∧ Below w.heap.size w w' := by
  have hof : ∀ j, OfAt w j n = (∃ v, w.cell? ⟨n, 0, none⟩ = some v ∧ Ints .i64 w v (kinds j)) → ofF j = 84 → ofB j k b = cn (kinds j) k → kinds j ≠ [] → OfAt w j n →
      Calls Tryd.prog (ofF j) #[.agg #[.int .i64 k, .int .i64 c, .bool b, .int .i64 s, .int .i64 g], .pointer (some ⟨n, 0, none⟩)] w fun e w' => e = .returned (.bool (ofB j k b)) ∧ Below w.heap.size w w' := by
    intro j e1 e2 e3 e4 h
    rw [e1] at h
    obtain ⟨v, hv, hI⟩ := h
    rw [e2, e3]
    exact of1_any k c b s g n (kinds j) v w hv hI e4
  match i, hi with
  | 8, _ => exact blocking1_any k c b s g n false w h
  | 9, _ => exact blocking1_any k c b s g n false w h
  | 10, _ => exact blocking1_any k c b s g n true w h
  | 0, _ => exact hof _ rfl rfl rfl (by decide) h
  | 1, _ => exact hof _ rfl rfl rfl (by decide) h
  | 2, _ => exact hof _ rfl rfl rfl (by decide) h
  | 3, _ => exact hof _ rfl rfl rfl (by decide) h
  | 4, _ => exact hof _ rfl rfl rfl (by decide) h
  | 5, _ => exact hof _ rfl rfl rfl (by decide) h
  | 6, _ => exact hof _ rfl rfl rfl (by decide) h
  | 7, _ => exact hof _ rfl rfl rfl (by decide) h
  | 11, _ => exact hof _ rfl rfl rfl (by decide) h
  | 12, _ => exact hof _ rfl rfl rfl (by decide) h
  | 13, _ => exact hof _ rfl rfl rfl (by decide) h
  | 14, _ => exact hof _ rfl rfl rfl (by decide) h
  | 15, _ => exact hof _ rfl rfl rfl (by decide) h
  | n + 16, h => exact absurd h (by omega)

theorem changes_any (i : Nat) (hi : i < 16) (k c : Int) (b : Bool) (s g cpu : Int) (hs : 0 ≤ s ∧ s ≤ 65535) (hg : 0 ≤ g ∧ g ≤ 4294967295) (w : World) :
    Calls Tryd.prog (chF i) #[.agg #[.int .i64 k, .int .i64 c, .bool b, .int .i64 s, .int .i64 g], .int .i64 cpu] w fun e w' => e = .returned (.agg #[.int .i64 k, .int .i64 (chC i c cpu), .bool b, .int .i64 (chS i s), .int .i64 (chG i g)]) ∧ Below w.heap.size w w' := by
  match i, hi with
  | 0, _ => exact take_any k c b s g cpu hg w
  | 1, _ => exact leave_any k c b s g cpu w
  | 2, _ => exact count_any k c b s g cpu hs w
  | 3, _ => exact stay_any k c b s g cpu w
  | 4, _ => exact stay_any k c b s g cpu w
  | 5, _ => exact stay_any k c b s g cpu w
  | 6, _ => exact stay_any k c b s g cpu w
  | 7, _ => exact stay_any k c b s g cpu w
  | 8, _ => exact stay_any k c b s g cpu w
  | 9, _ => exact stay_any k c b s g cpu w
  | 10, _ => exact stay_any k c b s g cpu w
  | 11, _ => exact move_any k c b s g cpu w
  | 12, _ => exact move_any k c b s g cpu w
  | 13, _ => exact move_any k c b s g cpu w
  | 14, _ => exact stay_any k c b s g cpu w
  | 15, _ => exact move_any k c b s g cpu w
  | n + 16, h => exact absurd h (by omega)
end Go.Proofs.YtjikabalpejmlaaDoor
