/-
  Contracts of the library's functions that layer 5 calls, in this dump's numbers, and of layer 5's small functions (cpu, item, run, end).
-/
import Derived.Test.YteklgnmkalippaaDoorCpM
import Derived.Test.YteklgnmkalippaaDoorMskA
import Derived.Test.YteklgnmkalippaaDoorShelf
import Derived.Lib.AtoiErrMem
import Derived.Deep.QuietTactic
import Derived.BigQuiet
import Derived.WalkSmall
namespace Go.Proofs.YteklgnmkalippaaDoor
open Go.RowKit Go.Shelf Mk Cp
attribute [local go_sem] Oper.semAt_some

/-! ### a text as a list of bytes -/
def st (l : List UInt8) : ByteArray := ⟨l.toArray⟩
theorem st_list (l : List UInt8) : (st l).data.toList = l := by simp [st]
theorem st_toList (l : List UInt8) : (st l).toList = l := by rw [ByteArray.toList_eq, st_list]
theorem st_size (l : List UInt8) : (st l).size = l.length := by simp [st, ByteArray.size]
theorem st_eta (s : ByteArray) : s = st s.data.toList := by cases s; simp [st]
theorem st_take (l : List UInt8) (n : Nat) (_h : n ≤ l.length) : (st l).extract 0 n = st (l.take n) := by
  apply ByteArray.ext
  simp [st, ByteArray.data_extract]
theorem st_drop (l : List UInt8) (n m : Nat) (h : m = l.length) : (st l).extract n m = st (l.drop n) := by
  apply ByteArray.ext
  subst h
  simp [st, ByteArray.data_extract, List.take_of_length_le]
theorem st_mid (l : List UInt8) (n m : Nat) : (st l).extract n m = st ((l.take m).drop n) := by
  apply ByteArray.ext
  simp [st, ByteArray.data_extract, List.drop_take]
theorem st_add (a b : List UInt8) : st a ++ st b = st (a ++ b) := ByteArray.mk_append_mk a b
theorem st_inj {a b : List UInt8} (h : st a = st b) : a = b := by rw [← st_list a, h, st_list]

/-! ### the library -/
/-- strconv's two errors lie in the world. -/
def Errs (w : World) : Prop := (∃ te pe, w.cell? ⟨3, 0, none⟩ = some (.iface te pe)) ∧ (∃ te pe, w.cell? ⟨4, 0, none⟩ = some (.iface te pe))
theorem Errs.below {w w' : World} (h : Errs w) (hb : Below w.heap.size w w') : Errs w' := by
  obtain ⟨⟨te, pe, h1⟩, ⟨te2, pe2, h2⟩⟩ := h
  refine ⟨⟨te, pe, ?_⟩, ⟨te2, pe2, ?_⟩⟩
  · rw [hb.cell (p := ⟨3, 0, none⟩) (World.block_lt_of_cell? w ⟨3, 0, none⟩ h1)]; exact h1
  · rw [hb.cell (p := ⟨4, 0, none⟩) (World.block_lt_of_cell? w ⟨4, 0, none⟩ h2)]; exact h2

theorem itoa_any (n : Nat) (h : n < 64) (w : World) : Calls Tryd.prog 33 #[.int .i64 n] w fun e w' => e = .returned (.string (st (dg n))) ∧ w = w' := by
  refine (Any.strconv_Itoa_small Tryd.lays171 n (by omega) w).mono ?_
  rintro e w' ⟨rfl, rfl⟩
  rw [dec_dg n (by omega)]
  exact ⟨rfl, rfl⟩

theorem index_any (l : List UInt8) (c : UInt8) (w : World) : Calls Tryd.prog 47 #[.string (st l), .string ⟨#[c]⟩] w fun e w' => e = .returned (.int .i64 (Lib.indexByte l c)) ∧ w = w' := by
  refine (Any.strings_Index_one Tryd.lays143 (st l) c w).mono ?_
  rintro e w' ⟨rfl, rfl⟩
  rw [st_list]
  exact ⟨rfl, rfl⟩
theorem index_lite (l : List UInt8) (c : UInt8) (w : World) : Calls Tryd.prog 53 #[.string (st l), .string ⟨#[c]⟩] w fun e w' => e = .returned (.int .i64 (Lib.indexByte l c)) ∧ w = w' := by
  refine (Any.stringslite_Index_one Tryd.lays219 (st l) c w).mono ?_
  rintro e w' ⟨rfl, rfl⟩
  rw [st_list]
  exact ⟨rfl, rfl⟩

/-- Atoi reads v, or there is an error. -/
def AtoiEnds (l : List UInt8) (e : Ending) : Prop :=
  (∃ v, Lib.atoiAll l = .ok v ∧ e = .returned (.tuple #[.int .i64 v, .nilIface])) ∨
  ((∀ v, Lib.atoiAll l ≠ .ok v) ∧ ∃ n N, e = .returned (.tuple #[.int .i64 n, .iface 94 (.pointer (some ⟨N, 0, none⟩))]))
theorem atoi_any (l : List UInt8) (hl : l.length ≤ 281474976710656) (w : World) (hE : Errs w) :
    Calls Tryd.prog 55 #[.string (st l)] w fun e w' => AtoiEnds l e ∧ Below w.heap.size w w' := by
  have hz : (st l).size ≤ 281474976710656 := by rw [st_size]; exact hl
  obtain ⟨⟨te, pe, h1⟩, ⟨te2, pe2, h2⟩⟩ := hE
  cases h : Lib.atoiAll l with
  | ok v =>
    refine (Any.strconv_Atoi_ok Tryd.laysC172 (st l) (by omega) v (by rw [st_list]; exact h) w).mono ?_
    rintro e w' ⟨rfl, hw⟩
    refine ⟨.inl ⟨v, h, rfl⟩, ?_⟩
    rcases hw with rfl | ⟨t, rfl⟩
    · exact Below.refl _ _
    · exact Lib.bytesWorld_below _ _ _
  | «syntax» =>
    refine (Any.strconv_Atoi_syntax Tryd.laysC172 (st l) hz (by rw [st_list]; exact h) _ w h1 (.inr ⟨_, _, rfl⟩)).mono ?_
    rintro e w' ⟨N, rfl, -, -, hb⟩
    exact ⟨.inr ⟨fun v e => by (rw [h] at e; cases e), _, _, rfl⟩, hb⟩
  | range =>
    refine (Any.strconv_Atoi_range Tryd.laysC172 (st l) hz (by rw [st_list]; exact h) _ w h2 (.inr ⟨_, _, rfl⟩)).mono ?_
    rintro e w' ⟨N, rfl, -, -, hb⟩
    exact ⟨.inr ⟨fun v e => by (rw [h] at e; cases e), _, _, rfl⟩, hb⟩

/-! ### Cut at a - -/
set_option maxHeartbeats 1000000 in
theorem lite_no (l : List UInt8) (h : (45 : UInt8) ∉ l) (w : World) :
    Calls Tryd.prog 54 #[.string (st l), .string ⟨#[45]⟩] w fun e w' => e = .returned (.tuple #[.string (st l), .string (st []), .bool false]) ∧ w = w' := by
  have HX := Lib.hid (ix_no h)
  clear h
  go_enter Tryd.func54, Tryd.ntmps54
  go_wp2_with fail
  refine (index_lite l 45 _).mono ?_
  rintro e' w' ⟨rfl, rfl⟩
  rw [HX.out]
  go_wp2
  go_ret3
  exact ⟨rfl, rfl⟩

set_option maxHeartbeats 1000000 in
theorem lite_at (x y : List UInt8) (h : (45 : UInt8) ∉ x) (hl : (x ++ 45 :: y).length ≤ 281474976710656) (w : World) :
    Calls Tryd.prog 54 #[.string (st (x ++ 45 :: y)), .string ⟨#[45]⟩] w fun e w' => e = .returned (.tuple #[.string (st x), .string (st y), .bool true]) ∧ Below w.heap.size w w' := by
  have HX := Lib.hid (ix_at (y := y) h)
  obtain ⟨l, hl0⟩ : ∃ l, l = x ++ 45 :: y := ⟨_, rfl⟩
  obtain ⟨n, hn⟩ : ∃ n, n = l.length := ⟨_, rfl⟩
  obtain ⟨k, hk⟩ : ∃ k, k = x.length := ⟨_, rfl⟩
  have hkn : k < n := by rw [hk, hn, hl0, List.length_append, List.length_cons]; omega
  have hn2 : n ≤ 281474976710656 := by rw [hn, hl0]; exact hl
  have hz : (st l).size = n := by rw [st_size, hn]
  have H1 : Hid ((st l).extract 0 k = st x) := by
    unfold Hid
    rw [st_take _ _ (by omega), hl0, hk]; simp
  have H2 : Hid ((st l).extract (k + 1) n = st y) := by
    unfold Hid
    rw [st_drop _ _ _ hn, hl0, hk]; simp
  have HX2 : Hid (Lib.indexByte l 45 = (k : Nat)) := by unfold Hid; rw [hl0, hk]; exact HX.out
  rw [← hl0]
  clear hl0 hn hk HX hl h
  go_enter Tryd.func54, Tryd.ntmps54
  go_wp2_with fail
  refine (index_lite l 45 _).mono ?_
  rintro e' w' ⟨rfl, rfl⟩
  rw [HX2.out]
  go_wp2
  go_quiet (fail)
  go_wp2
  go_ret3
  exact ⟨by rw [H1.out, H2.out]; rfl, below_drewN (Below.refl _ _) _⟩

theorem cut_no (l : List UInt8) (h : (45 : UInt8) ∉ l) (w : World) :
    Calls Tryd.prog 48 #[.string (st l), .string ⟨#[45]⟩] w fun e w' => e = .returned (.tuple #[.string (st l), .string (st []), .bool false]) ∧ Below w.heap.size w w' := by
  go_enter Tryd.func48, Tryd.ntmps48
  go_wp2_with fail
  refine (lite_no l h _).mono ?_
  rintro e' w' ⟨rfl, rfl⟩
  go_wp2
  go_ret3
  exact ⟨rfl, Below.refl _ _⟩
theorem cut_at (x y : List UInt8) (h : (45 : UInt8) ∉ x) (hl : (x ++ 45 :: y).length ≤ 281474976710656) (w : World) :
    Calls Tryd.prog 48 #[.string (st (x ++ 45 :: y)), .string ⟨#[45]⟩] w fun e w' => e = .returned (.tuple #[.string (st x), .string (st y), .bool true]) ∧ Below w.heap.size w w' := by
  go_enter Tryd.func48, Tryd.ntmps48
  go_wp2_with fail
  refine (lite_at x y h hl _).mono ?_
  rintro e' w_hb ⟨rfl, hb⟩
  go_wp2
  go_ret3
  exact ⟨rfl, hb⟩
/-- what stands behind the first -, if there is one. -/
def behind (l : List UInt8) : List UInt8 := if 45 ∈ l then tl 45 l else []
def dash (l : List UInt8) : Bool := decide (45 ∈ l)
theorem cut_any (l : List UInt8) (hl : l.length ≤ 281474976710656) (w : World) :
    Calls Tryd.prog 48 #[.string (st l), .string ⟨#[45]⟩] w fun e w' => e = .returned (.tuple #[.string (st (hd 45 l)), .string (st (behind l)), .bool (dash l)]) ∧ Below w.heap.size w w' := by
  unfold behind dash
  by_cases h : 45 ∈ l
  · rw [if_pos h, decide_eq_true h]
    obtain ⟨x, y, rfl, hx⟩ := parts h
    rw [hd_at hx, tl_at hx]
    exact cut_at x y hx hl w
  · rw [if_neg h, decide_eq_false h, hd_no h]
    exact cut_no l h w

/-! ### a CPU's number -/
def cpuI (l : List UInt8) : Int := ((cpuN l).getD 0 : Nat)
def cpuB (l : List UInt8) : Bool := (cpuN l).isSome
theorem cpu_no {l : List UInt8} (h : cpuN l = none) : cpuI l = 0 ∧ cpuB l = false := by unfold cpuI cpuB; rw [h]; exact ⟨rfl, rfl⟩
theorem cpu_at {l : List UInt8} {n : Nat} (h : cpuN l = some n) : cpuI l = n ∧ cpuB l = true := by unfold cpuI cpuB; rw [h]; exact ⟨rfl, rfl⟩

set_option maxHeartbeats 1000000 in
theorem cpu_any (l : List UInt8) (hl : l.length ≤ 281474976710656) (w : World) (hE : Errs w) :
    Calls Tryd.prog 49 #[.string (st l)] w fun e w' => e = .returned (.tuple #[.int .i64 (cpuI l), .bool (cpuB l)]) ∧ Below w.heap.size w w' := by
  go_enter Tryd.func49, Tryd.ntmps49
  go_wp2_with fail
  refine (atoi_any l hl _ hE).mono ?_
  rintro e w' ⟨⟨v, hv, rfl⟩ | ⟨hv, n, N, rfl⟩, hb⟩
  · by_cases h0 : v < 0
    · have H : Hid (cpuI l = 0 ∧ cpuB l = false) := by
        refine cpu_no (cpuN_none fun n hn e => ?_)
        rw [← e, atoi_dg n hn] at hv
        injection hv with hv
        omega
      clear hv hl hE
      go_wp2
      go_ret2
      exact ⟨by rw [H.out.1, H.out.2]; rfl, hb⟩
    · by_cases h1 : 64 ≤ v
      · have H : Hid (cpuI l = 0 ∧ cpuB l = false) := by
          refine cpu_no (cpuN_none fun n hn e => ?_)
          rw [← e, atoi_dg n hn] at hv
          injection hv with hv
          omega
        clear hv hl hE
        go_wp2
        go_ret2
        exact ⟨by rw [H.out.1, H.out.2]; rfl, hb⟩
      · obtain ⟨n, rfl⟩ : ∃ n : Nat, v = (n : Int) := ⟨v.toNat, by omega⟩
        have hn : n < 64 := by omega
        by_cases hd : dg n = l
        · have H : Hid (cpuI l = n ∧ cpuB l = true) := cpu_at (by rw [← hd]; exact cpuN_dg n hn)
          have hq : ((st (dg n)).toList == (st l).toList) = true := by rw [hd]; simp
          clear hv hl hE hd
          go_wp2_with fail
          refine (itoa_any n hn _).mono ?_
          rintro e' w' ⟨rfl, rfl⟩
          go_wp2
          go_ret2
          exact ⟨by rw [H.out.1, H.out.2]; rfl, hb⟩
        · have H : Hid (cpuI l = 0 ∧ cpuB l = false) := by
            refine cpu_no (cpuN_none fun k hk e => ?_)
            rw [← e, atoi_dg k hk] at hv
            injection hv with hv
            have : k = n := by omega
            subst this
            exact hd e
          have hq : ((st (dg n)).toList == (st l).toList) = false := by rw [st_toList, st_toList]; simpa using hd
          clear hv hl hE hd
          go_wp2_with fail
          refine (itoa_any n hn _).mono ?_
          rintro e' w' ⟨rfl, rfl⟩
          go_wp2
          go_ret2
          exact ⟨by rw [H.out.1, H.out.2]; rfl, hb⟩
  · have H : Hid (cpuI l = 0 ∧ cpuB l = false) := by
      refine cpu_no (cpuN_none fun k hk e => ?_)
      exact hv k (by rw [← e]; exact atoi_dg k hk)
    clear hv hl hE
    go_wp2
    go_ret2
    exact ⟨by rw [H.out.1, H.out.2]; rfl, hb⟩
end Go.Proofs.YteklgnmkalippaaDoor
