/-
  Contracts of turnspitref05's Print and Canon.
-/
import Derived.Test.YteklgnmkalippaaDoorCpS
namespace Go.Proofs.YteklgnmkalippaaDoor
open Go.RowKit Go.Shelf Mk Cp
attribute [local go_sem] Oper.semAt_some

theorem join_le (m c : Nat) (hm : V m) (hc : c ≤ 64) : (joinC (runsTo m c)).length ≤ 200 := by
  have h1 := join_len (ps := runsTo m c) fun p hp => by
    obtain ⟨a, b, -, -, rfl⟩ := mem_runs hm hp
    exact (rnTxt_len a b).2
  have h2 := runs_le m c hc
  split at h1 <;> omega
theorem join_next (m c : Nat) (h : starts m c = true) : joinC (runsTo m (c + 1)) = (if runsTo m c = [] then [] else joinC (runsTo m c) ++ [44]) ++ rnTxt c (lastOf m c) := by
  rw [runsTo_succ, h]
  simp only [if_true]
  by_cases e : runsTo m c = []
  · rw [e, if_pos rfl]; simp [joinC_one]
  · rw [if_neg e, joinC_snoc _ _ e]; simp
theorem join_emp (m c : Nat) (hm : V m) : joinC (runsTo m c) = [] ↔ runsTo m c = [] := by
  constructor
  · intro h
    by_cases e : runsTo m c = []
    · exact e
    · exact absurd h (join_ne e fun p hp => by obtain ⟨a, b, -, -, rfl⟩ := mem_runs hm hp; exact rnTxt_ne a b)
  · intro h; rw [h]; rfl

set_option maxRecDepth 100000 in
set_option maxHeartbeats 8000000 in
theorem rprint_any (m : Nat) (hm : V m) (w : World) :
    Calls Tryd.prog 13 #[.int .u64 m] w fun e w' => e = .returned (.string (st (printL m))) ∧ w = w' := by
  have HV := Lib.hid hm
  clear hm
  go_enter Tryd.func13, Tryd.ntmps13
  go_wp2
  go_loop [3, 4] (fun o i => ∃ (c : Nat) (t : List UInt8), c ≤ 64 ∧ o = .string (st t) ∧ i = .int .i64 c ∧ t = joinC (runsTo m c)) (fun _ i => 64 - (intOf i).toNat)
  case atStart => exact ⟨0, [], by omega, rfl, rfl, rfl⟩
  case round =>
    obtain ⟨c, t, hc, rfl, rfl, ht⟩ := hrel
    have HT := Lib.hid ht
    clear ht
    by_cases hlt : c < 64
    · cases hs : starts m c with
      | false =>
        have HN : Hid (t = joinC (runsTo m (c + 1))) := by unfold Hid; rw [runsTo_succ, hs, HT.out]; simp
        have hh : has m (c : Int) = false ∨ (has m (c : Int) = true ∧ has m ((c : Int) - 1) = true) := by
          rw [has_at]
          cases hb : m.testBit c with
          | false => exact .inl rfl
          | true =>
            refine .inr ⟨rfl, ?_⟩
            unfold starts at hs
            rw [hb] at hs
            simp at hs
            have : (c : Int) - 1 = ((c - 1 : Nat) : Int) := by omega
            rw [this, has_at]
            exact hs.2
        have HH := Lib.hid hh
        clear hh hs
        go_wp2_with fail
        refine (rhas_any m HV.out ((c : Int) - 1) _).mono ?_
        rintro e1 w1 ⟨rfl, rfl⟩
        go_wp2_with fail
        refine (rhas_any m HV.out (c : Int) _).mono ?_
        rintro e1 w1 ⟨rfl, rfl⟩
        rcases HH.out with h | ⟨h, h'⟩
        · rw [h]
          generalize has m ((c : Int) - 1) = z
          clear HH h
          go_wp2
          exact ⟨⟨c + 1, t, by omega, rfl, by go_num, HN.out⟩, by simp [intOf]; omega⟩
        · rw [h, h']
          clear HH h h'
          go_wp2
          exact ⟨⟨c + 1, t, by omega, rfl, by go_num, HN.out⟩, by simp [intOf]; omega⟩
      | true =>
        have HS := Lib.hid hs
        have HH : Hid (has m (c : Int) = true ∧ has m ((c : Int) - 1) = false) := by
          refine ⟨by rw [has_at]; exact starts_bit hs, ?_⟩
          by_cases h0 : 0 < c
          · have : (c : Int) - 1 = ((c - 1 : Nat) : Int) := by omega
            rw [this, has_at]
            unfold starts at hs
            simp at hs
            exact hs.2.resolve_left (by omega)
          · exact has_neg _ _ (by omega)
        have HN := Lib.hid (join_next m c hs)
        clear hs
        go_wp2_with fail
        refine (rhas_any m HV.out ((c : Int) - 1) _).mono ?_
        rintro e1 w1 ⟨rfl, rfl⟩
        rw [HH.out.2]
        go_wp2_with fail
        refine (rhas_any m HV.out (c : Int) _).mono ?_
        rintro e1 w1 ⟨rfl, rfl⟩
        rw [HH.out.1]
        clear HH
        go_wp2
        go_loop [7, 8] (fun a i => ∃ k z : Nat, c ≤ k ∧ k ≤ 64 ∧ i = .int .i64 k ∧ a = .int .i64 z ∧ (k = c → z = c) ∧ (c < k → z + 1 = k) ∧ ∀ j, c ≤ j → j < k → m.testBit j = true) (fun _ i => 64 - (intOf i).toNat)
        case atStart => exact ⟨c, c, Nat.le_refl _, by omega, rfl, rfl, fun _ => rfl, fun h => by omega, fun j h1 h2 => by omega⟩
        case round =>
          obtain ⟨k, z, hk1, hk2, rfl, rfl, hz1, hz2, hj⟩ := hrel
          have HJ := Lib.hid hj
          have HZ1 := Lib.hid hz1
          have HZ2 := Lib.hid hz2
          clear hj hz1 hz2
          by_cases hkl : k < 64
          · cases hb : m.testBit k with
            | true =>
              have HB : Hid (has m (k : Int) = true) := by unfold Hid; rw [has_at, hb]
              have HJ2 : Hid (∀ j, c ≤ j → j < k + 1 → m.testBit j = true) := by
                intro j h1 h2
                by_cases e : j = k
                · rw [e]; exact hb
                · exact HJ.out j h1 (by omega)
              clear hb
              go_wp2_with fail
              refine (rhas_any m HV.out (k : Int) _).mono ?_
              rintro e1 w1 ⟨rfl, rfl⟩
              rw [HB.out]
              go_wp2
              exact ⟨⟨k + 1, k, by omega, by omega, by go_num, rfl, fun h => by omega, fun _ => rfl, HJ2.out⟩, by simp [intOf]; omega⟩
            | false =>
              have hck : c < k := by
                by_cases e : k = c
                · have := starts_bit HS.out; rw [← e, hb] at this; cases this
                · omega
              have hzk := HZ2.out hck
              have HL : Hid (lastOf m c = z) := last_uniq HV.out (by omega) (fun j h1 h2 => HJ.out j h1 (by omega)) (by rw [hzk]; exact hb)
              have HB : Hid (has m (k : Int) = false) := by unfold Hid; rw [has_at, hb]
              have hz64 : z < 64 := by omega
              clear hb
              go_wp2_with fail
              refine (rhas_any m HV.out (k : Int) _).mono ?_
              rintro e1 w1 ⟨rfl, rfl⟩
              rw [HB.out]
              clear HB
              obtain ⟨n0, s0⟩ : ∃ n, (st t).size = n := ⟨_, rfl⟩
              have s0' : n0 ≤ 200 := by rw [← s0, st_size, HT.out]; exact join_le m c HV.out hc
              obtain ⟨n1, s1⟩ : ∃ n, (st (dg c)).size = n := ⟨_, rfl⟩
              have s1' : n1 ≤ 2 := by rw [← s1, st_size]; exact (dg_len c).2
              obtain ⟨n2, s2⟩ : ∃ n, (st (dg z)).size = n := ⟨_, rfl⟩
              have s2' : n2 ≤ 2 := by rw [← s2, st_size]; exact (dg_len z).2
              have s3 : (st [44]).size = 1 := by rw [st_size]; rfl
              have s4 : (st [45]).size = 1 := by rw [st_size]; rfl
              have e44 : (⟨#[44]⟩ : ByteArray) = st [44] := rfl
              have e45 : (⟨#[45]⟩ : ByteArray) = st [45] := rfl
              by_cases hr : runsTo m c = []
              · have ht0 : t = [] := by rw [HT.out, hr]; rfl
                have hem : (st t).toList.isEmpty = true := by rw [ht0]; exact st_nil
                have p1 : (st t ++ st (dg c)).size = n0 + n1 := by rw [← s0, ← s1, ByteArray.size_append]
                have p2 : (st t ++ st (dg c) ++ st [45]).size = n0 + n1 + 1 := by rw [ByteArray.size_append, p1, s4]
                by_cases hz : c < z
                · have HEQ : Hid (st t ++ st (dg c) ++ st [45] ++ st (dg z) = st (joinC (runsTo m (c + 1)))) := by
                    unfold Hid
                    rw [HN.out, HL.out, if_pos hr, ht0, st_add, st_add, st_add]
                    unfold rnTxt
                    rw [if_neg (by omega)]; simp
                  clear hr ht0
                  go_wp2_with fail
                  refine (dig_any c hlt _).mono ?_
                  rintro e1 w1 ⟨rfl, rfl⟩
                  go_wp2_with fail
                  refine (dig_any z hz64 _).mono ?_
                  rintro e1 w1 ⟨rfl, rfl⟩
                  go_wp2
                  exact ⟨⟨c + 1, _, by omega, by rw [HEQ.out], by go_num, rfl⟩, by simp [intOf]; omega⟩
                · obtain rfl : z = c := by omega
                  have HEQ : Hid (st t ++ st (dg z) = st (joinC (runsTo m (z + 1)))) := by
                    unfold Hid
                    rw [HN.out, HL.out, if_pos hr, ht0, st_add]
                    unfold rnTxt
                    rw [if_pos rfl]
                  clear hr ht0
                  go_wp2_with fail
                  refine (dig_any z hlt _).mono ?_
                  rintro e1 w1 ⟨rfl, rfl⟩
                  go_wp2
                  exact ⟨⟨z + 1, _, by omega, by rw [HEQ.out], by go_num, rfl⟩, by simp [intOf]; omega⟩
              · have ht0 : t ≠ [] := by rw [HT.out]; exact fun e => hr ((join_emp m c HV.out).1 e)
                have hem := st_nil_ne ht0
                have p0 : (st t ++ st [44]).size = n0 + 1 := by rw [ByteArray.size_append, s0, s3]
                have p1 : (st t ++ st [44] ++ st (dg c)).size = n0 + 1 + n1 := by rw [ByteArray.size_append, p0, s1]
                have p2 : (st t ++ st [44] ++ st (dg c) ++ st [45]).size = n0 + 1 + n1 + 1 := by rw [ByteArray.size_append, p1, s4]
                by_cases hz : c < z
                · have HEQ : Hid (st t ++ st [44] ++ st (dg c) ++ st [45] ++ st (dg z) = st (joinC (runsTo m (c + 1)))) := by
                    unfold Hid
                    rw [HN.out, HL.out, if_neg hr, ← HT.out, st_add, st_add, st_add, st_add]
                    unfold rnTxt
                    rw [if_neg (by omega)]; simp
                  clear hr ht0
                  go_wp2_with fail
                  refine (dig_any c hlt _).mono ?_
                  rintro e1 w1 ⟨rfl, rfl⟩
                  go_wp2_with fail
                  refine (dig_any z hz64 _).mono ?_
                  rintro e1 w1 ⟨rfl, rfl⟩
                  go_wp2
                  exact ⟨⟨c + 1, _, by omega, by rw [HEQ.out], by go_num, rfl⟩, by simp [intOf]; omega⟩
                · obtain rfl : z = c := by omega
                  have HEQ : Hid (st t ++ st [44] ++ st (dg z) = st (joinC (runsTo m (z + 1)))) := by
                    unfold Hid
                    rw [HN.out, HL.out, if_neg hr, ← HT.out, st_add, st_add]
                    unfold rnTxt
                    rw [if_pos rfl]
                  clear hr ht0
                  go_wp2_with fail
                  refine (dig_any z hlt _).mono ?_
                  rintro e1 w1 ⟨rfl, rfl⟩
                  go_wp2
                  exact ⟨⟨z + 1, _, by omega, by rw [HEQ.out], by go_num, rfl⟩, by simp [intOf]; omega⟩
          · obtain rfl : k = 64 := by omega
            have hzk := HZ2.out hlt
            have HL : Hid (lastOf m c = z) := last_uniq HV.out (by omega) (fun j h1 h2 => HJ.out j h1 (by omega)) (by rw [hzk]; exact hi_bit HV.out (Nat.le_refl _))
            have hz64 : z < 64 := by omega
            obtain ⟨n0, s0⟩ : ∃ n, (st t).size = n := ⟨_, rfl⟩
            have s0' : n0 ≤ 200 := by rw [← s0, st_size, HT.out]; exact join_le m c HV.out hc
            obtain ⟨n1, s1⟩ : ∃ n, (st (dg c)).size = n := ⟨_, rfl⟩
            have s1' : n1 ≤ 2 := by rw [← s1, st_size]; exact (dg_len c).2
            obtain ⟨n2, s2⟩ : ∃ n, (st (dg z)).size = n := ⟨_, rfl⟩
            have s2' : n2 ≤ 2 := by rw [← s2, st_size]; exact (dg_len z).2
            have s3 : (st [44]).size = 1 := by rw [st_size]; rfl
            have s4 : (st [45]).size = 1 := by rw [st_size]; rfl
            have e44 : (⟨#[44]⟩ : ByteArray) = st [44] := rfl
            have e45 : (⟨#[45]⟩ : ByteArray) = st [45] := rfl
            by_cases hr : runsTo m c = []
            · have ht0 : t = [] := by rw [HT.out, hr]; rfl
              have hem : (st t).toList.isEmpty = true := by rw [ht0]; exact st_nil
              have p1 : (st t ++ st (dg c)).size = n0 + n1 := by rw [← s0, ← s1, ByteArray.size_append]
              have p2 : (st t ++ st (dg c) ++ st [45]).size = n0 + n1 + 1 := by rw [ByteArray.size_append, p1, s4]
              by_cases hz : c < z
              · have HEQ : Hid (st t ++ st (dg c) ++ st [45] ++ st (dg z) = st (joinC (runsTo m (c + 1)))) := by
                  unfold Hid
                  rw [HN.out, HL.out, if_pos hr, ht0, st_add, st_add, st_add]
                  unfold rnTxt
                  rw [if_neg (by omega)]; simp
                clear hr ht0
                go_wp2_with fail
                refine (dig_any c hlt _).mono ?_
                rintro e1 w1 ⟨rfl, rfl⟩
                go_wp2_with fail
                refine (dig_any z hz64 _).mono ?_
                rintro e1 w1 ⟨rfl, rfl⟩
                go_wp2
                exact ⟨⟨c + 1, _, by omega, by rw [HEQ.out], by go_num, rfl⟩, by simp [intOf]; omega⟩
              · obtain rfl : z = c := by omega
                have HEQ : Hid (st t ++ st (dg z) = st (joinC (runsTo m (z + 1)))) := by
                  unfold Hid
                  rw [HN.out, HL.out, if_pos hr, ht0, st_add]
                  unfold rnTxt
                  rw [if_pos rfl]
                clear hr ht0
                go_wp2_with fail
                refine (dig_any z hlt _).mono ?_
                rintro e1 w1 ⟨rfl, rfl⟩
                go_wp2
                exact ⟨⟨z + 1, _, by omega, by rw [HEQ.out], by go_num, rfl⟩, by simp [intOf]; omega⟩
            · have ht0 : t ≠ [] := by rw [HT.out]; exact fun e => hr ((join_emp m c HV.out).1 e)
              have hem := st_nil_ne ht0
              have p0 : (st t ++ st [44]).size = n0 + 1 := by rw [ByteArray.size_append, s0, s3]
              have p1 : (st t ++ st [44] ++ st (dg c)).size = n0 + 1 + n1 := by rw [ByteArray.size_append, p0, s1]
              have p2 : (st t ++ st [44] ++ st (dg c) ++ st [45]).size = n0 + 1 + n1 + 1 := by rw [ByteArray.size_append, p1, s4]
              by_cases hz : c < z
              · have HEQ : Hid (st t ++ st [44] ++ st (dg c) ++ st [45] ++ st (dg z) = st (joinC (runsTo m (c + 1)))) := by
                  unfold Hid
                  rw [HN.out, HL.out, if_neg hr, ← HT.out, st_add, st_add, st_add, st_add]
                  unfold rnTxt
                  rw [if_neg (by omega)]; simp
                clear hr ht0
                go_wp2_with fail
                refine (dig_any c hlt _).mono ?_
                rintro e1 w1 ⟨rfl, rfl⟩
                go_wp2_with fail
                refine (dig_any z hz64 _).mono ?_
                rintro e1 w1 ⟨rfl, rfl⟩
                go_wp2
                exact ⟨⟨c + 1, _, by omega, by rw [HEQ.out], by go_num, rfl⟩, by simp [intOf]; omega⟩
              · obtain rfl : z = c := by omega
                have HEQ : Hid (st t ++ st [44] ++ st (dg z) = st (joinC (runsTo m (z + 1)))) := by
                  unfold Hid
                  rw [HN.out, HL.out, if_neg hr, ← HT.out, st_add, st_add]
                  unfold rnTxt
                  rw [if_pos rfl]
                clear hr ht0
                go_wp2_with fail
                refine (dig_any z hlt _).mono ?_
                rintro e1 w1 ⟨rfl, rfl⟩
                go_wp2
                exact ⟨⟨z + 1, _, by omega, by rw [HEQ.out], by go_num, rfl⟩, by simp [intOf]; omega⟩
    · obtain rfl : c = 64 := by omega
      by_cases h0 : m = 0
      · have ht0 : t = [] := by rw [HT.out, h0]; decide +kernel
        have hem : (st t).toList.isEmpty = true := by rw [ht0]; exact st_nil
        have HP : Hid (printL m = [45]) := by unfold Hid printL; rw [if_pos h0]
        clear ht0 h0
        go_wp2
        go_ret
        exact ⟨by rw [HP.out]; rfl, rfl⟩
      · have hem := st_nil_ne (x := t) (by rw [HT.out]; exact fun e => runs_ne HV.out h0 ((join_emp m 64 HV.out).1 e))
        have HP : Hid (printL m = t) := by unfold Hid printL; rw [if_neg h0, HT.out]
        clear h0
        go_wp2
        go_ret
        exact ⟨by rw [HP.out]; rfl, rfl⟩

set_option maxHeartbeats 1000000 in
theorem rcanon_any (l : List UInt8) (hl : l.length ≤ 1000000) (w : World) :
    Calls Tryd.prog 16 #[.string (st l)] w fun e w' => e = .returned (.tuple #[.string (st (canonL l)), .int .i64 (parseE l)]) ∧ Below w.heap.size w w' := by
  go_enter Tryd.func16, Tryd.ntmps16
  go_wp2_with fail
  refine (rparse_any l hl _).mono ?_
  rintro e' w_b1 ⟨rfl, b1⟩
  have HV := Lib.hid (V_parseM l)
  by_cases h : parseE l = 0
  · have H : Hid (canonL l = printL (parseM l)) := by unfold Hid canonL; rw [if_pos h]
    rw [h]
    have HZ := Lib.hid h
    clear h hl
    generalize parseM l = m at *
    go_wp2_with fail
    refine (rprint_any m HV.out _).mono ?_
    rintro e' w' ⟨rfl, rfl⟩
    go_wp2
    go_ret2
    exact ⟨by rw [H.out, HZ.out]; rfl, b1⟩
  · have H : Hid (canonL l = []) := by unfold Hid canonL; rw [if_neg h]
    obtain ⟨k, hk⟩ : ∃ k, parseE l = k := ⟨_, rfl⟩
    have hq : (k != 0) = true := by rw [← hk]; simpa using h
    rw [hk]
    have HK := Lib.hid hk
    clear h hl hk
    generalize parseM l = m at *
    go_wp2
    go_ret2
    exact ⟨by rw [H.out, HK.out]; rfl, b1⟩
end Go.Proofs.YteklgnmkalippaaDoor
