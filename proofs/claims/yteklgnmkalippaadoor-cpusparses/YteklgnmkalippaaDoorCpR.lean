/-
  Contracts of turnspitref05's small functions: digits, split, number.
-/
import Derived.Test.YteklgnmkalippaaDoorCpC
import Derived.Test.YteklgnmkalippaaDoorMskR
namespace Go.Proofs.YteklgnmkalippaaDoor
open Go.RowKit Go.Shelf Mk Cp
attribute [local go_sem] Oper.semAt_some

/-! ### a text's bytes -/
theorem st_get (l : List UInt8) (k : Nat) (h : k < (st l).size) (h' : k < l.length) : (st l)[k]'h = l[k] := by simp [st, ByteArray.getElem_eq_getElem_data]
theorem st_byte (l : List UInt8) (k : Nat) (h : k < (st l).size) (b : UInt8) (hb : l[k]? = some b) : (((st l)[k]'h).toNat : Int) = (b.toNat : Int) := by
  obtain ⟨h', e⟩ := List.getElem?_eq_some_iff.1 hb
  rw [st_get l k h h', e]

/-! ### digits -/
def tens : List UInt8 := [48, 49, 50, 51, 52, 53, 54, 55, 56, 57]
theorem tens_at : ∀ n, n < 10 → (tens.take (n + 1)).drop n = dg n := by decide +kernel
theorem dg_two : ∀ n, n < 64 → 10 ≤ n → dg (n / 10) ++ dg (n % 10) = dg n := by decide +kernel
theorem dig_small (n : Nat) (h : n < 10) (w : World) : Calls Tryd.prog 25 #[.int .i64 n] w fun e w' => e = .returned (.string (st (dg n))) ∧ w = w' := by
  have H : Hid ((st tens).extract n (n + 1) = st (dg n)) := by unfold Hid; rw [st_mid, tens_at n h]
  have e : (⟨#[48, 49, 50, 51, 52, 53, 54, 55, 56, 57]⟩ : ByteArray) = st tens := rfl
  have s : (st tens).size = 10 := by rw [st_size]; rfl
  go_enter Tryd.func25, Tryd.ntmps25
  go_wp2
  go_ret
  exact ⟨by rw [← H.out]; rfl, rfl⟩
theorem dig_any (n : Nat) (h : n < 64) (w : World) : Calls Tryd.prog 25 #[.int .i64 n] w fun e w' => e = .returned (.string (st (dg n))) ∧ w = w' := by
  by_cases h1 : n < 10
  · exact dig_small n h1 w
  · obtain ⟨q, hq⟩ : ∃ q, n / 10 = q := ⟨_, rfl⟩
    obtain ⟨r, hr⟩ : ∃ r, n % 10 = r := ⟨_, rfl⟩
    have q1 : (n : Int).tdiv 10 = (q : Int) := by rw [Int.tdiv_eq_ediv_of_nonneg (by omega)]; omega
    have r1 : (n : Int).tmod 10 = (r : Int) := by rw [Int.tmod_eq_emod_of_nonneg (by omega)]; omega
    have q2 : q < 10 := by omega
    have r2 : r < 10 := by omega
    have HD : Hid (st (dg q) ++ st (dg r) = st (dg n)) := by unfold Hid; rw [st_add, ← hq, ← hr, dg_two n h (by omega)]
    obtain ⟨n1, s1⟩ : ∃ k, (st (dg q)).size = k := ⟨_, rfl⟩
    obtain ⟨n2, s2⟩ : ∃ k, (st (dg r)).size = k := ⟨_, rfl⟩
    have s1' : n1 ≤ 2 := by rw [← s1, st_size]; exact (dg_len q).2
    have s2' : n2 ≤ 2 := by rw [← s2, st_size]; exact (dg_len r).2
    clear hq hr
    go_enter Tryd.func25, Tryd.ntmps25
    go_wp2_with fail
    refine (dig_small q q2 _).mono ?_
    rintro e' w' ⟨rfl, rfl⟩
    go_wp2_with fail
    refine (dig_small r r2 _).mono ?_
    rintro e' w' ⟨rfl, rfl⟩
    go_wp2
    go_ret
    exact ⟨by rw [← HD.out]; rfl, rfl⟩

/-! ### split -/
theorem take_next (l : List UInt8) (k : Nat) (b : UInt8) (h : l[k]? = some b) : l.take (k + 1) = l.take k ++ [b] := by rw [List.take_add_one, h]; rfl

set_option maxRecDepth 100000 in
set_option maxHeartbeats 4000000 in
theorem split_any (l : List UInt8) (c : UInt8) (k : Int) (hk : k = (c.toNat : Int)) (hl : l.length ≤ 100000) (w : World) :
    Calls Tryd.prog 26 #[.string (st l), .int .u8 k] w fun e w' => ∃ v, e = .returned v ∧ OwnT w' w.heap.size 9 v (splitB c l) ∧ Below w.heap.size w w' := by
  obtain ⟨n, hn⟩ : ∃ n, n = l.length := ⟨_, rfl⟩
  have hz : (st l).size = n := by rw [st_size, hn]
  have hn2 : n ≤ 100000 := by omega
  have HN := Lib.hid hn
  have HK := Lib.hid hk
  clear hn hl hk
  go_enter Tryd.func26, Tryd.ntmps26
  go_wp2
  go_loopw [5, 6, 7] (fun v f i wr => ∃ (j s : Nat) (o : List (List UInt8)), j ≤ n ∧ s ≤ j ∧ o.length ≤ j ∧ f = .int .i64 s ∧ i = .int .i64 j ∧ splitB c (l.take j) = o ++ [(l.take j).drop s] ∧ OwnT wr w.heap.size 9 v o ∧ Below w.heap.size w wr) (fun _ _ i _ => n - (intOf i).toNat)
  case atStart => exact ⟨0, 0, [], by omega, by omega, by simp, rfl, rfl, by simp [splitB], OwnT.nil _ _ _, Below.refl _ _⟩
  case round =>
    obtain ⟨j, s, o, hj, hs, hol, rfl, rfl, hsp, hO, hB⟩ := hrel
    have HS := Lib.hid hsp
    have HO := Lib.hid hO
    have HB := Lib.hid hB
    clear hsp hO hB
    by_cases hlt : j < n
    · obtain ⟨b, hb⟩ : ∃ b, l[j]? = some b := ⟨_, List.getElem?_eq_getElem (by have := HN.out; omega)⟩
      have hbyte := st_byte l j (by rw [hz]; exact hlt) b hb
      by_cases e : b = c
      · have hq : ((b.toNat : Int) == k) = true := by rw [HK.out, e]; simp
        have HX : Hid ((st l).extract s j = st ((l.take j).drop s)) := st_mid _ _ _
        have HT : Hid (splitB c (l.take (j + 1)) = (o ++ [(l.take j).drop s]) ++ [(l.take (j + 1)).drop (j + 1)]) := by
          unfold Hid
          rw [take_next l j b hb, splitB_push b HS.out, if_pos e, ← take_next l j b hb]
          have : (l.take (j + 1)).drop (j + 1) = [] := List.drop_eq_nil_of_le (by rw [List.length_take]; omega)
          rw [this]
        clear hb e
        go_wp2_with (at_builtin; go_loud (refine wpList_append_text (bytes := 16) (B := w.heap.size) (ts := o) rfl (.tmp 19) (.tmp 24) rfl Tryd.underlying37 str_info (by decide) ((l.take j).drop s) (HO.out.alloc _) _ _ rfl (by rw [HX.out]; exact (Boxed.new _ _ _).cell) (by omega) (by have := HB.out.size; simp; omega) ?_); intro v' w2 hown2 hbel2)
        have B2 : Hid (Below w.heap.size w w2) := (HB.out.alloc HB.out.size _).trans hbel2
        clear hbel2
        exact ⟨⟨j + 1, j + 1, _, by omega, by omega, by rw [List.length_append]; simp only [List.length_cons, List.length_nil]; omega, by go_num, by go_num, HT.out, hown2, B2.out⟩, by simp [intOf]; omega⟩
      · have hq : ((b.toNat : Int) == k) = false := by
          rw [HK.out]
          have : b.toNat ≠ c.toNat := fun h => e (UInt8.toNat.inj h)
          simp; omega
        have HT : Hid (splitB c (l.take (j + 1)) = o ++ [(l.take (j + 1)).drop s]) := by
          unfold Hid
          rw [take_next l j b hb, splitB_push b HS.out, if_neg e, List.drop_append_of_le_length (by rw [List.length_take]; have := HN.out; omega)]
        clear hb e
        go_wp2
        exact ⟨⟨j + 1, s, o, by omega, by omega, by omega, rfl, by go_num, HT.out, HO.out, HB.out⟩, by simp [intOf]; omega⟩
    · obtain rfl : j = n := by omega
      have HX : Hid ((st l).extract s j = st (l.drop s)) := st_drop _ _ _ HN.out
      have HT : Hid (splitB c l = o ++ [l.drop s]) := by
        have := HS.out
        rwa [HN.out, List.take_length] at this
      go_wp2_with (at_builtin; go_loud (refine wpList_append_text (bytes := 16) (B := w.heap.size) (ts := o) rfl (.tmp 28) (.tmp 32) rfl Tryd.underlying37 str_info (by decide) (l.drop s) (HO.out.alloc _) _ _ rfl (by rw [HX.out]; exact (Boxed.new _ _ _).cell) (by omega) (by have := HB.out.size; simp; omega) ?_); intro v' w2 hown2 hbel2)
      have B2 : Hid (Below w.heap.size w w2) := (HB.out.alloc HB.out.size _).trans hbel2
      clear hbel2
      go_wp2
      go_ret
      exact ⟨_, rfl, by rw [HT.out]; exact hown2, B2.out⟩

/-! ### number -/
def val (l : List UInt8) : Nat := l.foldl (fun a b => a * 10 + (b.toNat - 48)) 0
theorem val_snoc (l : List UInt8) (b : UInt8) : val (l ++ [b]) = val l * 10 + (b.toNat - 48) := by simp [val, List.foldl_append]
theorem val_dg : ∀ n, n < 64 → val (dg n) = n := by decide +kernel
def numI (l : List UInt8) : Int := match cpuN l with
  | some n => (n : Int)
  | none => -1
theorem num_no {l : List UInt8} (h : cpuN l = none) : numI l = -1 := by unfold numI; rw [h]
theorem num_at {l : List UInt8} {n : Nat} (h : cpuN l = some n) : numI l = n := by unfold numI; rw [h]
theorem cpuN_long {l : List UInt8} (h : 2 < l.length) : cpuN l = none := cpuN_none fun n _ e => by
  have := (dg_len n).2
  rw [e] at this
  omega
theorem cpuN_val {l : List UInt8} {n : Nat} (h : cpuN l = some n) : val l = n := by
  obtain ⟨h1, h2⟩ := cpuN_some h
  rw [← h2, val_dg n h1]

set_option maxRecDepth 100000 in
set_option maxHeartbeats 4000000 in
theorem number_any (l : List UInt8) (hl : l.length ≤ 100000) (w : World) :
    Calls Tryd.prog 27 #[.string (st l)] w fun e w' => e = .returned (.int .i64 (numI l)) ∧ w = w' := by
  obtain ⟨n, hn⟩ : ∃ n, n = l.length := ⟨_, rfl⟩
  have hz : (st l).size = n := by rw [st_size, hn]
  have hn2 : n ≤ 100000 := by omega
  have HN := Lib.hid hn
  clear hn hl
  go_enter Tryd.func27, Tryd.ntmps27
  go_wp2
  go_loop [3, 4] (fun a i => ∃ (k v : Nat), k ≤ n ∧ k ≤ 2 ∧ a = .int .i64 v ∧ i = .int .i64 k ∧ v = val (l.take k) ∧ (k = 0 → v = 0) ∧ (k = 1 → v ≤ 9) ∧ v ≤ 99) (fun _ i => n - (intOf i).toNat)
  case atStart => exact ⟨0, 0, by omega, by omega, rfl, rfl, rfl, fun _ => rfl, fun h => by omega, by omega⟩
  case round =>
    obtain ⟨k, v, hk, hk2, rfl, rfl, hv, hv0, hv1, hv2⟩ := hrel
    have HV := Lib.hid hv
    clear hv
    by_cases hlt : k < n
    · obtain ⟨b, hb⟩ : ∃ b, l[k]? = some b := ⟨_, List.getElem?_eq_getElem (by have := HN.out; omega)⟩
      have hbyte := st_byte l k (by rw [hz]; exact hlt) b hb
      have hmem : b ∈ l := List.mem_of_getElem? hb
      have HB := Lib.hid hb
      have HMem := Lib.hid hmem
      obtain ⟨t, ht⟩ : ∃ t, b.toNat = t := ⟨_, rfl⟩
      have HTb := Lib.hid ht
      rw [ht] at hbyte
      clear hb hmem ht
      by_cases d1 : t < 48
      · have H : Hid (numI l = -1) := num_no (cpuN_bad HMem.out (by unfold isDig; rw [HTb.out]; simp; omega))
        clear hv0 hv1
        go_wp2
        go_ret
        exact ⟨by rw [H.out]; rfl, rfl⟩
      · by_cases d2 : 57 < t
        · have H : Hid (numI l = -1) := num_no (cpuN_bad HMem.out (by unfold isDig; rw [HTb.out]; simp; omega))
          clear hv0 hv1
          go_wp2
          go_ret
          exact ⟨by rw [H.out]; rfl, rfl⟩
        · by_cases d3 : k = 2
          · have H : Hid (numI l = -1) := num_no (cpuN_long (by have := HN.out; omega))
            clear hv0 hv1
            subst d3
            go_wp2
            go_ret
            exact ⟨by rw [H.out]; rfl, rfl⟩
          · have hv9 : v ≤ 9 := by
              by_cases e0 : k = 0
              · have := hv0 e0; omega
              · exact hv1 (by omega)
            have hk1 : k ≤ 1 := by omega
            have HZ : Hid (k = 0 → v = 0) := hv0
            have HT : Hid (v * 10 + (t - 48) = val (l.take (k + 1))) := by unfold Hid; rw [take_next l k b HB.out, val_snoc, ← HV.out, HTb.out]
            have t1 : 48 ≤ t := by omega
            have t2 : t ≤ 57 := by omega
            clear hv0 hv1 hk2 d1 d2 d3 hv2
            go_wp2
            exact ⟨⟨k + 1, v * 10 + (t - 48), by omega, by omega, by congr 1; omega, by go_num, HT.out, fun h => by omega, fun h => by have := HZ.out (by omega); omega, by omega⟩, by simp [intOf]; omega⟩
    · obtain rfl : k = n := by omega
      have HV2 : Hid (v = val l) := by
        have := HV.out
        rwa [HN.out, List.take_length] at this
      clear hv0 hv1 hk hlt
      by_cases h0 : l = []
      · have H : Hid (numI l = -1) := num_no (by rw [h0]; exact cpuN_nil)
        have hq : (st l).toList.isEmpty = true := by rw [h0]; exact st_nil
        clear h0
        go_wp2
        go_ret
        exact ⟨by rw [H.out]; rfl, rfl⟩
      · have hq := st_nil_ne h0
        by_cases h1 : 63 < v
        · have H : Hid (numI l = -1) := by
            refine num_no ?_
            cases e : cpuN l with
            | none => rfl
            | some x =>
              have e1 := cpuN_val e
              have e2 := (cpuN_some e).1
              have := HV2.out
              omega
          clear h0
          go_wp2
          go_ret
          exact ⟨by rw [H.out]; rfl, rfl⟩
        · have h2 : v < 64 := by omega
          by_cases h3 : dg v = l
          · have H : Hid (numI l = v) := num_at (by rw [← h3]; exact cpuN_dg v h2)
            have hq2 : ((st (dg v)).toList == (st l).toList) = true := by rw [h3]; simp
            clear h0 h3
            go_wp2_with fail
            refine (dig_any v h2 _).mono ?_
            rintro e' w' ⟨rfl, rfl⟩
            go_wp2
            go_ret
            exact ⟨by rw [H.out]; rfl, rfl⟩
          · have H : Hid (numI l = -1) := by
              refine num_no ?_
              cases e : cpuN l with
              | none => rfl
              | some x =>
                have e1 := cpuN_val e
                obtain ⟨e2, e3⟩ := cpuN_some e
                have := HV2.out
                have e4 : x = v := by omega
                rw [e4] at e3
                exact absurd e3 h3
            have hq2 : ((st (dg v)).toList == (st l).toList) = false := by rw [st_toList, st_toList]; simpa using h3
            clear h0 h3
            go_wp2_with fail
            refine (dig_any v h2 _).mono ?_
            rintro e' w' ⟨rfl, rfl⟩
            go_wp2
            go_ret
            exact ⟨by rw [H.out]; rfl, rfl⟩
end Go.Proofs.YteklgnmkalippaaDoor
