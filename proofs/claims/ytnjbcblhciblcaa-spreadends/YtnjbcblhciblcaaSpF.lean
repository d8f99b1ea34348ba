/-
  Contracts of layer 13's Busiest and Idlest (over the generic foremost), and of the document's.
-/
import Derived.Test.YtnjbcblhciblcaaSpA
namespace Go.Proofs.Ytnjbcblhciblcaa
open Go.RowKit Go.Shelf Mk Sp

/-- What the foremost tells. -/
def fmR (lt : Int → Int → Bool) (but : Int) (zs : List Int) : Option Nat := fm lt but zs zs.length
theorem fm_at {lt : Int → Int → Bool} {but : Int} {zs : List Int} {k : Nat} (h : k = zs.length) : fm lt but zs k = fmR lt but zs := by rw [h]; rfl

set_option maxHeartbeats 400000 in
theorem bus1_any (a b : Int) (w : World) : Calls Try.prog 28 #[.int .i64 a, .int .i64 b] w fun e w' => e = .returned (.bool (gtB a b)) ∧ w = w' := by
  go_enter Try.func28, Try.ntmps28
  go_wp2
  go_ret
  exact ⟨by unfold gtB; rfl, rfl⟩

set_option maxHeartbeats 2000000 in
theorem busF_any (v : Value) (zs : List Int) (but : Int) (w : World) (hv : Ints .i64 w v zs) :
    Calls Try.prog 27 #[v, .int .i64 but, .func (.func 28) #[] #[]] w fun e w' => e = .returned (.tuple #[.int .i64 (fmI (fmR gtB but zs)), .bool (fmR gtB but zs).isSome]) ∧ Below w.heap.size w w' := by
  rcases hv.parts with ⟨rfl, a, cap, rfl⟩ | ⟨hp, hm, b, off, cap, rfl, hbw, hc⟩
  · clear hv
    go_enter Try.func27, Try.ntmps27
    go_wp2
    go_loop [8, 9, 14] (fun p s i => i = .int .i64 0 ∧ p = .int .i64 0 ∧ s = .bool false) (fun _ _ _ => 0)
    case atStart => exact ⟨rfl, rfl, rfl⟩
    case round =>
      obtain ⟨rfl, rfl, rfl⟩ := hrel
      go_wp2
      go_ret2
      exact ⟨rfl, Below.refl _ _⟩
  · clear hv
    have hml : zs.length ≤ 9223372036854775807 := by unfold maxLen at hm; omega
    obtain ⟨n, hn⟩ : ∃ n, zs.length = n := ⟨_, rfl⟩
    rw [hn] at hp hml hc ⊢
    have HN := Lib.hid hn
    clear hm hn
    obtain ⟨o0, ho0⟩ : ∃ o0, fmR gtB but zs = o0 := ⟨_, rfl⟩
    rw [ho0]
    have HO := Lib.hid ho0
    clear ho0
    go_enter Try.func27, Try.ntmps27
    go_wp2
    go_loopw [8, 9, 10, 11, 14] (fun p s i x j wr => ∃ (k : Nat) (o : Option Nat), k ≤ n ∧ j = .int .i64 k ∧ fm gtB but zs k = o ∧ p = .int .i64 (fmI o) ∧ s = .bool o.isSome ∧ Below w.heap.size w wr) (fun _ _ _ _ j _ => n - (intOf j).toNat)
    case atStart => exact ⟨0, none, by omega, rfl, rfl, rfl, rfl, Below.refl _ _⟩
    case round =>
      obtain ⟨k, o, hk, rfl, hfm, rfl, rfl, hnx⟩ := hrel
      by_cases hlt : k < n
      · have ck := hc k hlt
        rw [← hnx.cell (p := ⟨b, off + k, none⟩) hbw] at ck
        by_cases hbt : (k : Int) = but
        · have HS := Lib.hid ((fm_but (lt := gtB) (zs := zs) k hbt).trans hfm)
          have hne : (((k : Int)) != but) = false := by simp [hbt]
          have hne2 : ¬ ((k : Int)) ≠ but := by simp [hbt]
          clear hc hfm hbt
          generalize zs.getD k 0 = z at *
          go_wp2
          exact ⟨⟨k + 1, o, by omega, by go_num, HS.out, rfl, rfl, hnx⟩, by simp [intOf]; omega⟩
        · have hne : (((k : Int)) != but) = true := by simpa using hbt
          cases o with
          | none =>
            have HS := Lib.hid (fm_first k hbt hfm)
            have e1 : fmI none = 0 := rfl
            have e2 : (none : Option Nat).isSome = false := rfl
            rw [e1, e2]
            clear hc hfm e1 e2
            generalize zs.getD k 0 = z at *
            go_wp2
            exact ⟨⟨k + 1, some k, by omega, by go_num, HS.out, rfl, rfl, hnx⟩, by simp [intOf]; omega⟩
          | some p =>
            have hpk := fm_lt hfm
            have cp := hc p (by omega)
            rw [← hnx.cell (p := ⟨b, off + p, none⟩) hbw] at cp
            have e1 : fmI (some p) = (p : Int) := rfl
            have e2 : (some p : Option Nat).isSome = true := rfl
            rw [e1, e2]
            cases hl : gtB (zs.getD k 0) (zs.getD p 0) with
            | true =>
              have HS := Lib.hid (fm_yes k hbt hfm hl)
              have HL := Lib.hid hl
              clear hc hfm hl e1 e2
              generalize zs.getD k 0 = z at *
              generalize zs.getD p 0 = y at *
              go_wp2_with fail
              refine (bus1_any z y _).mono ?_
              rintro e' w' ⟨rfl, rfl⟩
              rw [HL.out]
              go_wp2
              exact ⟨⟨k + 1, some k, by omega, by go_num, HS.out, rfl, rfl, hnx⟩, by simp [intOf]; omega⟩
            | false =>
              have HS := Lib.hid ((fm_no k hfm hl).trans hfm)
              have HL := Lib.hid hl
              clear hc hfm hl e1 e2
              generalize zs.getD k 0 = z at *
              generalize zs.getD p 0 = y at *
              go_wp2_with fail
              refine (bus1_any z y _).mono ?_
              rintro e' w' ⟨rfl, rfl⟩
              rw [HL.out]
              go_wp2
              exact ⟨⟨k + 1, some p, by omega, by go_num, HS.out, rfl, rfl, hnx⟩, by simp [intOf]; omega⟩
      · obtain rfl : k = n := by omega
        have HS : Hid (o0 = o) := by unfold Hid; rw [← hfm, fm_at HN.out.symm]; exact HO.out.symm
        clear hc hfm
        go_wp2
        go_ret2
        exact ⟨by rw [HS.out]; rfl, hnx⟩

set_option maxHeartbeats 400000 in
/-- **Busiest**. -/
theorem bus_any (v : Value) (zs : List Int) (but : Int) (w : World) (hv : Ints .i64 w v zs) :
    Calls Try.prog 15 #[v, .int .i64 but] w fun e w' => e = .returned (.tuple #[.int .i64 (fmI (fmR gtB but zs)), .bool (fmR gtB but zs).isSome]) ∧ Below w.heap.size w w' := by
  go_enter Try.func15, Try.ntmps15
  go_wp2_with fail
  refine (busF_any v zs but _ hv).mono ?_
  rintro e' w_hb ⟨rfl, hb⟩
  go_wp2
  go_ret2
  exact ⟨rfl, hb⟩

set_option maxHeartbeats 2000000 in
theorem rbus_any (v : Value) (zs : List Int) (but : Int) (w : World) (hv : Ints .i64 w v zs) :
    Calls Try.prog 16 #[v, .int .i64 but] w fun e w' => e = .returned (.tuple #[.int .i64 (fmI (fmR gtB but zs)), .bool (fmR gtB but zs).isSome]) ∧ Below w.heap.size w w' := by
  rcases hv.parts with ⟨rfl, a, cap, rfl⟩ | ⟨hp, hm, b, off, cap, rfl, hbw, hc⟩
  · clear hv
    go_enter Try.func16, Try.ntmps16
    go_wp2
    go_loop [6, 7] (fun p i => i = .int .i64 0 ∧ p = .int .i64 (-1)) (fun _ _ => 0)
    case atStart => exact ⟨rfl, rfl⟩
    case round =>
      obtain ⟨rfl, rfl⟩ := hrel
      go_wp2
      go_ret2
      exact ⟨rfl, Below.refl _ _⟩
  · clear hv
    have hml : zs.length ≤ 9223372036854775807 := by unfold maxLen at hm; omega
    obtain ⟨n, hn⟩ : ∃ n, zs.length = n := ⟨_, rfl⟩
    rw [hn] at hp hml hc ⊢
    have HN := Lib.hid hn
    clear hm hn
    obtain ⟨o0, ho0⟩ : ∃ o0, fmR gtB but zs = o0 := ⟨_, rfl⟩
    rw [ho0]
    have HO := Lib.hid ho0
    clear ho0
    go_enter Try.func16, Try.ntmps16
    go_wp2
    go_loopw [6, 7] (fun p j wr => ∃ (k : Nat) (o : Option Nat), k ≤ n ∧ j = .int .i64 k ∧ fm gtB but zs k = o ∧ p = .int .i64 (fmJ o) ∧ Below w.heap.size w wr) (fun _ j _ => n - (intOf j).toNat)
    case atStart => exact ⟨0, none, by omega, rfl, rfl, rfl, Below.refl _ _⟩
    case round =>
      obtain ⟨k, o, hk, rfl, hfm, rfl, hnx⟩ := hrel
      by_cases hlt : k < n
      · have ck := hc k hlt
        rw [← hnx.cell (p := ⟨b, off + k, none⟩) hbw] at ck
        by_cases hbt : (k : Int) = but
        · have HS := Lib.hid ((fm_but (lt := gtB) (zs := zs) k hbt).trans hfm)
          have hne : (((k : Int)) != but) = false := by simp [hbt]
          clear hc hfm hbt
          generalize zs.getD k 0 = z at *
          go_wp2
          all_goals go_quiet (fail)
          all_goals go_wp2
          all_goals exact ⟨⟨k + 1, o, by omega, by go_num, HS.out, rfl, below_drewN hnx _⟩, by simp [intOf]; omega⟩
        · have hne : (((k : Int)) != but) = true := by simpa using hbt
          cases o with
          | none =>
            have HS := Lib.hid (fm_first k hbt hfm)
            have e1 : fmJ none = -1 := rfl
            rw [e1]
            clear hc hfm e1
            generalize zs.getD k 0 = z at *
            go_wp2
            all_goals go_quiet (fail)
            all_goals go_wp2
            all_goals exact ⟨⟨k + 1, some k, by omega, by go_num, HS.out, rfl, below_drewN hnx _⟩, by simp [intOf]; omega⟩
          | some p =>
            have hpk := fm_lt hfm
            have cp := hc p (by omega)
            rw [← hnx.cell (p := ⟨b, off + p, none⟩) hbw] at cp
            have e1 : fmJ (some p) = (p : Int) := rfl
            rw [e1]
            have hpn : p < n := by omega
            have hp0 : decide ((p : Int) < 0) = false := by simp
            have hpn2 : (p : Int) < (n : Int) := by omega
            have hkn2 : (k : Int) < (n : Int) := by omega
            cases hl : gtB (zs.getD k 0) (zs.getD p 0) with
            | true =>
              have HS := Lib.hid (fm_yes k hbt hfm hl)
              have HL := of_decide_eq_true hl
              clear hc hfm hl e1
              generalize zs.getD k 0 = z at *
              generalize zs.getD p 0 = y at *
              go_wp2
              all_goals go_quiet (fail)
              all_goals go_wp2
              all_goals exact ⟨⟨k + 1, some k, by omega, by go_num, HS.out, rfl, below_drewN hnx _⟩, by simp [intOf]; omega⟩
            | false =>
              have HS := Lib.hid ((fm_no k hfm hl).trans hfm)
              have HL := of_decide_eq_false hl
              clear hc hfm hl e1
              generalize zs.getD k 0 = z at *
              generalize zs.getD p 0 = y at *
              go_wp2
              all_goals go_quiet (fail)
              all_goals go_wp2
              all_goals exact ⟨⟨k + 1, some p, by omega, by go_num, HS.out, rfl, below_drewN hnx _⟩, by simp [intOf]; omega⟩
      · obtain rfl : k = n := by omega
        have HS : Hid (o0 = o) := by unfold Hid; rw [← hfm, fm_at HN.out.symm]; exact HO.out.symm
        clear hc hfm
        cases o with
        | none =>
          have e1 : fmJ none = -1 := rfl
          rw [e1]
          clear e1
          go_wp2
          go_ret2
          exact ⟨by rw [HS.out]; rfl, hnx⟩
        | some p =>
          have e1 : fmJ (some p) = (p : Int) := rfl
          rw [e1]
          clear e1
          go_wp2
          go_ret2
          exact ⟨by rw [HS.out]; rfl, hnx⟩

set_option maxHeartbeats 400000 in
theorem idl1_any (a b : Int) (w : World) : Calls Try.prog 29 #[.int .i64 a, .int .i64 b] w fun e w' => e = .returned (.bool (ltB a b)) ∧ w = w' := by
  go_enter Try.func29, Try.ntmps29
  go_wp2
  go_ret
  exact ⟨by unfold ltB; rfl, rfl⟩

set_option maxHeartbeats 2000000 in
theorem idlF_any (v : Value) (zs : List Int) (but : Int) (w : World) (hv : Ints .i64 w v zs) :
    Calls Try.prog 27 #[v, .int .i64 but, .func (.func 29) #[] #[]] w fun e w' => e = .returned (.tuple #[.int .i64 (fmI (fmR ltB but zs)), .bool (fmR ltB but zs).isSome]) ∧ Below w.heap.size w w' := by
  rcases hv.parts with ⟨rfl, a, cap, rfl⟩ | ⟨hp, hm, b, off, cap, rfl, hbw, hc⟩
  · clear hv
    go_enter Try.func27, Try.ntmps27
    go_wp2
    go_loop [8, 9, 14] (fun p s i => i = .int .i64 0 ∧ p = .int .i64 0 ∧ s = .bool false) (fun _ _ _ => 0)
    case atStart => exact ⟨rfl, rfl, rfl⟩
    case round =>
      obtain ⟨rfl, rfl, rfl⟩ := hrel
      go_wp2
      go_ret2
      exact ⟨rfl, Below.refl _ _⟩
  · clear hv
    have hml : zs.length ≤ 9223372036854775807 := by unfold maxLen at hm; omega
    obtain ⟨n, hn⟩ : ∃ n, zs.length = n := ⟨_, rfl⟩
    rw [hn] at hp hml hc ⊢
    have HN := Lib.hid hn
    clear hm hn
    obtain ⟨o0, ho0⟩ : ∃ o0, fmR ltB but zs = o0 := ⟨_, rfl⟩
    rw [ho0]
    have HO := Lib.hid ho0
    clear ho0
    go_enter Try.func27, Try.ntmps27
    go_wp2
    go_loopw [8, 9, 10, 11, 14] (fun p s i x j wr => ∃ (k : Nat) (o : Option Nat), k ≤ n ∧ j = .int .i64 k ∧ fm ltB but zs k = o ∧ p = .int .i64 (fmI o) ∧ s = .bool o.isSome ∧ Below w.heap.size w wr) (fun _ _ _ _ j _ => n - (intOf j).toNat)
    case atStart => exact ⟨0, none, by omega, rfl, rfl, rfl, rfl, Below.refl _ _⟩
    case round =>
      obtain ⟨k, o, hk, rfl, hfm, rfl, rfl, hnx⟩ := hrel
      by_cases hlt : k < n
      · have ck := hc k hlt
        rw [← hnx.cell (p := ⟨b, off + k, none⟩) hbw] at ck
        by_cases hbt : (k : Int) = but
        · have HS := Lib.hid ((fm_but (lt := ltB) (zs := zs) k hbt).trans hfm)
          have hne : (((k : Int)) != but) = false := by simp [hbt]
          have hne2 : ¬ ((k : Int)) ≠ but := by simp [hbt]
          clear hc hfm hbt
          generalize zs.getD k 0 = z at *
          go_wp2
          exact ⟨⟨k + 1, o, by omega, by go_num, HS.out, rfl, rfl, hnx⟩, by simp [intOf]; omega⟩
        · have hne : (((k : Int)) != but) = true := by simpa using hbt
          cases o with
          | none =>
            have HS := Lib.hid (fm_first k hbt hfm)
            have e1 : fmI none = 0 := rfl
            have e2 : (none : Option Nat).isSome = false := rfl
            rw [e1, e2]
            clear hc hfm e1 e2
            generalize zs.getD k 0 = z at *
            go_wp2
            exact ⟨⟨k + 1, some k, by omega, by go_num, HS.out, rfl, rfl, hnx⟩, by simp [intOf]; omega⟩
          | some p =>
            have hpk := fm_lt hfm
            have cp := hc p (by omega)
            rw [← hnx.cell (p := ⟨b, off + p, none⟩) hbw] at cp
            have e1 : fmI (some p) = (p : Int) := rfl
            have e2 : (some p : Option Nat).isSome = true := rfl
            rw [e1, e2]
            cases hl : ltB (zs.getD k 0) (zs.getD p 0) with
            | true =>
              have HS := Lib.hid (fm_yes k hbt hfm hl)
              have HL := Lib.hid hl
              clear hc hfm hl e1 e2
              generalize zs.getD k 0 = z at *
              generalize zs.getD p 0 = y at *
              go_wp2_with fail
              refine (idl1_any z y _).mono ?_
              rintro e' w' ⟨rfl, rfl⟩
              rw [HL.out]
              go_wp2
              exact ⟨⟨k + 1, some k, by omega, by go_num, HS.out, rfl, rfl, hnx⟩, by simp [intOf]; omega⟩
            | false =>
              have HS := Lib.hid ((fm_no k hfm hl).trans hfm)
              have HL := Lib.hid hl
              clear hc hfm hl e1 e2
              generalize zs.getD k 0 = z at *
              generalize zs.getD p 0 = y at *
              go_wp2_with fail
              refine (idl1_any z y _).mono ?_
              rintro e' w' ⟨rfl, rfl⟩
              rw [HL.out]
              go_wp2
              exact ⟨⟨k + 1, some p, by omega, by go_num, HS.out, rfl, rfl, hnx⟩, by simp [intOf]; omega⟩
      · obtain rfl : k = n := by omega
        have HS : Hid (o0 = o) := by unfold Hid; rw [← hfm, fm_at HN.out.symm]; exact HO.out.symm
        clear hc hfm
        go_wp2
        go_ret2
        exact ⟨by rw [HS.out]; rfl, hnx⟩

set_option maxHeartbeats 400000 in
/-- **Idlest**. -/
theorem idl_any (v : Value) (zs : List Int) (but : Int) (w : World) (hv : Ints .i64 w v zs) :
    Calls Try.prog 17 #[v, .int .i64 but] w fun e w' => e = .returned (.tuple #[.int .i64 (fmI (fmR ltB but zs)), .bool (fmR ltB but zs).isSome]) ∧ Below w.heap.size w w' := by
  go_enter Try.func17, Try.ntmps17
  go_wp2_with fail
  refine (idlF_any v zs but _ hv).mono ?_
  rintro e' w_hb ⟨rfl, hb⟩
  go_wp2
  go_ret2
  exact ⟨rfl, hb⟩

set_option maxHeartbeats 2000000 in
theorem ridl_any (v : Value) (zs : List Int) (but : Int) (w : World) (hv : Ints .i64 w v zs) :
    Calls Try.prog 18 #[v, .int .i64 but] w fun e w' => e = .returned (.tuple #[.int .i64 (fmI (fmR ltB but zs)), .bool (fmR ltB but zs).isSome]) ∧ Below w.heap.size w w' := by
  rcases hv.parts with ⟨rfl, a, cap, rfl⟩ | ⟨hp, hm, b, off, cap, rfl, hbw, hc⟩
  · clear hv
    go_enter Try.func18, Try.ntmps18
    go_wp2
    go_loop [6, 7] (fun p i => i = .int .i64 0 ∧ p = .int .i64 (-1)) (fun _ _ => 0)
    case atStart => exact ⟨rfl, rfl⟩
    case round =>
      obtain ⟨rfl, rfl⟩ := hrel
      go_wp2
      go_ret2
      exact ⟨rfl, Below.refl _ _⟩
  · clear hv
    have hml : zs.length ≤ 9223372036854775807 := by unfold maxLen at hm; omega
    obtain ⟨n, hn⟩ : ∃ n, zs.length = n := ⟨_, rfl⟩
    rw [hn] at hp hml hc ⊢
    have HN := Lib.hid hn
    clear hm hn
    obtain ⟨o0, ho0⟩ : ∃ o0, fmR ltB but zs = o0 := ⟨_, rfl⟩
    rw [ho0]
    have HO := Lib.hid ho0
    clear ho0
    go_enter Try.func18, Try.ntmps18
    go_wp2
    go_loopw [6, 7] (fun p j wr => ∃ (k : Nat) (o : Option Nat), k ≤ n ∧ j = .int .i64 k ∧ fm ltB but zs k = o ∧ p = .int .i64 (fmJ o) ∧ Below w.heap.size w wr) (fun _ j _ => n - (intOf j).toNat)
    case atStart => exact ⟨0, none, by omega, rfl, rfl, rfl, Below.refl _ _⟩
    case round =>
      obtain ⟨k, o, hk, rfl, hfm, rfl, hnx⟩ := hrel
      by_cases hlt : k < n
      · have ck := hc k hlt
        rw [← hnx.cell (p := ⟨b, off + k, none⟩) hbw] at ck
        by_cases hbt : (k : Int) = but
        · have HS := Lib.hid ((fm_but (lt := ltB) (zs := zs) k hbt).trans hfm)
          have hne : (((k : Int)) != but) = false := by simp [hbt]
          clear hc hfm hbt
          generalize zs.getD k 0 = z at *
          go_wp2
          all_goals go_quiet (fail)
          all_goals go_wp2
          all_goals exact ⟨⟨k + 1, o, by omega, by go_num, HS.out, rfl, below_drewN hnx _⟩, by simp [intOf]; omega⟩
        · have hne : (((k : Int)) != but) = true := by simpa using hbt
          cases o with
          | none =>
            have HS := Lib.hid (fm_first k hbt hfm)
            have e1 : fmJ none = -1 := rfl
            rw [e1]
            clear hc hfm e1
            generalize zs.getD k 0 = z at *
            go_wp2
            all_goals go_quiet (fail)
            all_goals go_wp2
            all_goals exact ⟨⟨k + 1, some k, by omega, by go_num, HS.out, rfl, below_drewN hnx _⟩, by simp [intOf]; omega⟩
          | some p =>
            have hpk := fm_lt hfm
            have cp := hc p (by omega)
            rw [← hnx.cell (p := ⟨b, off + p, none⟩) hbw] at cp
            have e1 : fmJ (some p) = (p : Int) := rfl
            rw [e1]
            have hpn : p < n := by omega
            have hp0 : decide ((p : Int) < 0) = false := by simp
            have hpn2 : (p : Int) < (n : Int) := by omega
            have hkn2 : (k : Int) < (n : Int) := by omega
            cases hl : ltB (zs.getD k 0) (zs.getD p 0) with
            | true =>
              have HS := Lib.hid (fm_yes k hbt hfm hl)
              have HL := of_decide_eq_true hl
              clear hc hfm hl e1
              generalize zs.getD k 0 = z at *
              generalize zs.getD p 0 = y at *
              go_wp2
              all_goals go_quiet (fail)
              all_goals go_wp2
              all_goals exact ⟨⟨k + 1, some k, by omega, by go_num, HS.out, rfl, below_drewN hnx _⟩, by simp [intOf]; omega⟩
            | false =>
              have HS := Lib.hid ((fm_no k hfm hl).trans hfm)
              have HL := of_decide_eq_false hl
              clear hc hfm hl e1
              generalize zs.getD k 0 = z at *
              generalize zs.getD p 0 = y at *
              go_wp2
              all_goals go_quiet (fail)
              all_goals go_wp2
              all_goals exact ⟨⟨k + 1, some p, by omega, by go_num, HS.out, rfl, below_drewN hnx _⟩, by simp [intOf]; omega⟩
      · obtain rfl : k = n := by omega
        have HS : Hid (o0 = o) := by unfold Hid; rw [← hfm, fm_at HN.out.symm]; exact HO.out.symm
        clear hc hfm
        cases o with
        | none =>
          have e1 : fmJ none = -1 := rfl
          rw [e1]
          clear e1
          go_wp2
          go_ret2
          exact ⟨by rw [HS.out]; rfl, hnx⟩
        | some p =>
          have e1 : fmJ (some p) = (p : Int) := rfl
          rw [e1]
          clear e1
          go_wp2
          go_ret2
          exact ⟨by rw [HS.out]; rfl, hnx⟩
end Go.Proofs.Ytnjbcblhciblcaa
