/-
  Contracts of the document's own answers of layer 1 (turnspitref01), of every argument in its kind's bounds: the same numbers.
-/
import Derived.Test.YtlfcnhggleagaaaDoorWideB
import Derived.Test.YtlfcnhggleagaaaDoorWideN
namespace Go.Proofs.YtlfcnhggleagaaaDoor
open Go.RowKit Go.Shelf Wd

theorem rbit (a : Int) (ha : U a) (k : Nat) : ((a / 2 ^ (63 - k)).tmod 2 == 1) = bitAt a k := by
  unfold bitAt
  rw [Int.tmod_eq_emod_of_nonneg (Int.ediv_nonneg ha.1 (Int.le_of_lt (Int.pow_pos (by omega))))]
theorem rbit' (a : Int) (ha : U a) (k : Nat) : (a / 2 ^ (63 - k)).tmod 2 = b2i (bitAt a k) := by
  rw [b2i_bitAt, Int.tmod_eq_emod_of_nonneg (Int.ediv_nonneg ha.1 (Int.le_of_lt (Int.pow_pos (by omega))))]
theorem rdblH (a b : Int) (hb : U b) : IntKind.u64.wrap (IntKind.u64.wrap (a * 2) + IntKind.u64.wrap (b.tdiv 9223372036854775808)) = dblH a b := by
  have hq : 0 ≤ b / 9223372036854775808 ∧ b / 9223372036854775808 < 2 := by unfold U M at hb; omega
  have he : IntKind.u64.wrap (a * 2) % 2 = 0 := by rw [wrapM]; unfold M; omega
  unfold dblH
  rw [or_even _ _ (U_wrap _) he hq, Int.tdiv_eq_ediv_of_nonneg hb.1]
  have hu := U_wrap (a * 2)
  generalize IntKind.u64.wrap (a * 2) = x at *
  simp only [wrapM]
  unfold U M at *
  omega
theorem rdblL (b : Int) : IntKind.u64.wrap (IntKind.u64.wrap (b * 2)) = dblL b := wrap_U (U_wrap _)
theorem U_mulSt (a : Int) (ha : U a) (l : List Bool) (hl : l.length ≤ 64) : U (mulSt a l).1 ∧ U (mulSt a l).2 := by
  have hv := val_bound l
  have hp : (2 : Int) ^ l.length ≤ 2 ^ 64 := pow_le hl
  have e : (2 : Int) ^ 64 = M := rfl
  rw [mulSt_eq a ha l.length l rfl hl]
  exact ⟨U_mulH a (val l) ha ⟨hv.1, by omega⟩, U_mulL a (val l)⟩
theorem U_divFold (d : Int) : ∀ (l : List Bool) (s : Int × Int), U s.1 → U s.2 → U (l.foldl (divStep d) s).1 ∧ U (l.foldl (divStep d) s).2 := by
  intro l
  induction l with
  | nil => intro s h1 h2; exact ⟨h1, h2⟩
  | cons b l ih =>
    intro s h1 h2
    rw [List.foldl_cons]
    refine ih _ ?_ ?_
    · unfold divStep; split; exact U_wrap _; exact U_divR1 _ _
    · unfold divStep; split; exact U_divQ2 _; exact U_wrap _
theorem U_divSt (h d : Int) (hh : U h) (l : List Bool) : U (divSt h d l).1 ∧ U (divSt h d l).2 := U_divFold d l (h, 0) hh U_zero

theorem divR1_wrap (r : Int) (b : Bool) : IntKind.u64.wrap (IntKind.u64.wrap (r * 2) + b2i b) = divR1 r b := by
  have hu := U_divR1 r b
  rw [divR1_eq] at *
  have : IntKind.u64.wrap (r * 2) = r * 2 % M := wrapM _
  rw [this]
  exact wrap_U hu

set_option maxHeartbeats 400000 in
theorem radd_any (a b c : Int) (w : World) :
    Calls Tryd.prog 32 #[.int .u64 a, .int .u64 b, .int .u64 c] w fun e w' => e = .returned (.tuple #[.int .u64 (addH a b c), .int .u64 (addL b c)]) ∧ w = w' := by
  unfold addH addL
  by_cases h : IntKind.u64.wrap (b + c) < b
  · go_enter Tryd.func32, Tryd.ntmps32
    go_wp2
    go_ret2
    exact ⟨rfl, rfl⟩
  · go_enter Tryd.func32, Tryd.ntmps32
    go_wp2
    go_ret2
    exact ⟨rfl, rfl⟩

set_option maxHeartbeats 400000 in
theorem rdbl_any (a b : Int) (hb : U b) (w : World) :
    Calls Tryd.prog 31 #[.int .u64 a, .int .u64 b, .int .u64 0] w fun e w' => e = .returned (.tuple #[.int .u64 (dblH a b), .int .u64 (dblL b)]) ∧ w = w' := by
  have E1 := Lib.hid (rdblH a b hb)
  have E2 := Lib.hid (rdblL b)
  go_enter Tryd.func31, Tryd.ntmps31
  go_wp2
  go_ret2
  rw [← E1.out, ← E2.out]
  exact ⟨rfl, rfl⟩

set_option maxHeartbeats 400000 in
theorem rmul_any (a b : Int) (ha : U a) (hb : U b) (w : World) :
    Calls Tryd.prog 26 #[.int .u64 a, .int .u64 b] w fun e w' => e = .returned (.tuple #[.int .u64 (mulH a b), .int .u64 (mulL a b)]) ∧ w = w' := by
  go_enter Tryd.func26, Tryd.ntmps26
  go_wp2
  go_loop [6, 7, 8] (fun h l i => ∃ k : Nat, k ≤ 64 ∧ h = .int .u64 (mulSt b (bitsUpto a k)).1 ∧ l = .int .u64 (mulSt b (bitsUpto a k)).2 ∧ i = .int .i64 (63 - k)) (fun _ _ i => (intOf i + 1).toNat)
  case atStart => exact ⟨0, by omega, rfl, rfl, rfl⟩
  case round =>
    obtain ⟨k, hk, rfl, rfl, rfl⟩ := hrel
    by_cases hlt : k < 64
    · have hge : (0 : Int) ≤ 63 - k := by omega
      have hge2 : (63 : Int) - k ≤ 64 := by omega
      have hU := U_mulSt b hb (bitsUpto a k) (by rw [bitsUpto_length]; omega)
      have hS : mulSt b (bitsUpto a (k + 1)) = mulStep b (mulSt b (bitsUpto a k)) (bitAt a k) := by rw [bitsUpto_succ, mulSt_snoc]
      have hbit := rbit a ha k
      cases hb' : bitAt a k with
      | true =>
        rw [hb'] at hbit hS
        have HS := Lib.hid hS
        clear hS hb'
        go_wp2_with fail
        refine (rdbl_any _ _ hU.2 _).mono ?_
        rintro e w' ⟨rfl, rfl⟩
        go_wp2_with fail
        refine (radd_any _ _ _ _).mono ?_
        rintro e w' ⟨rfl, rfl⟩
        go_wp2
        exact ⟨⟨k + 1, by omega, by rw [HS.out]; rfl, by rw [HS.out]; rfl, by go_num⟩, by simp [intOf]; omega⟩
      | false =>
        rw [hb'] at hbit hS
        have HS := Lib.hid hS
        clear hS hb'
        go_wp2_with fail
        refine (rdbl_any _ _ hU.2 _).mono ?_
        rintro e w' ⟨rfl, rfl⟩
        go_wp2
        exact ⟨⟨k + 1, by omega, by rw [HS.out]; rfl, by rw [HS.out]; rfl, by go_num⟩, by simp [intOf]; omega⟩
    · obtain rfl : k = 64 := by omega
      have E := Lib.hid (mulSt_all b a hb ha)
      go_wp2
      go_ret2
      rw [mulH_comm a b, mulL_comm a b]
      refine ⟨?_, rfl⟩
      have e1 : (mulSt b (bitsUpto a 64)).1 = mulH b a := by rw [E.out]
      have e2 : (mulSt b (bitsUpto a 64)).2 = mulL b a := by rw [E.out]
      rw [← e1, ← e2]
      rfl

theorem rdivR1 (r l : Int) (hl : U l) (k : Nat) : IntKind.u64.wrap (IntKind.u64.wrap (r * 2) + (l / 2 ^ (63 - k)).tmod 2) = divR1 r (bitAt l k) := by
  rw [rbit' l hl k, divR1_wrap]
theorem rdivQ2 (q : Int) : IntKind.u64.wrap (IntKind.u64.wrap (q * 2) + 1) = divQ2 q := by
  have hu := U_divQ2 q
  rw [divQ2_eq] at *
  have : IntKind.u64.wrap (q * 2) = q * 2 % M := wrapM _
  rw [this]
  exact wrap_U hu
theorem rover (r : Int) (hr : U r) : decide (9223372036854775808 ≤ r) = true ↔ r / 9223372036854775808 = 1 := by
  rw [decide_eq_true_eq]; unfold U M at hr; omega

set_option maxHeartbeats 400000 in
theorem rdiv_zero (h l d : Int) (w : World) (h0 : (d == 0) = true) :
    Calls Tryd.prog 27 #[.int .u64 h, .int .u64 l, .int .u64 d] w fun e w' => e = .returned (.tuple #[.int .u64 0, .int .u64 0, .bool false]) ∧ w = w' := by
  go_enter Tryd.func27, Tryd.ntmps27
  go_wp2
  go_ret3
  exact ⟨rfl, rfl⟩

set_option maxHeartbeats 400000 in
theorem rdiv_over (h l d : Int) (w : World) (h0 : (d == 0) = false) (h1 : d ≤ h) :
    Calls Tryd.prog 27 #[.int .u64 h, .int .u64 l, .int .u64 d] w fun e w' => e = .returned (.tuple #[.int .u64 0, .int .u64 0, .bool false]) ∧ w = w' := by
  go_enter Tryd.func27, Tryd.ntmps27
  go_wp2
  go_ret3
  exact ⟨rfl, rfl⟩

set_option maxRecDepth 100000 in
set_option maxHeartbeats 1000000 in
theorem rdiv_yes (h l d : Int) (hh : U h) (hl : U l) (hd : U d) (w : World) (h0 : (d == 0) = false) (h1 : h < d) :
    Calls Tryd.prog 27 #[.int .u64 h, .int .u64 l, .int .u64 d] w fun e w' => e = .returned (.tuple #[.int .u64 (divQ h l d), .int .u64 (divR h l d), .bool true]) ∧ w = w' := by
  have h1' : decide (d ≤ h) = false := by simp; omega
  go_enter Tryd.func27, Tryd.ntmps27
  go_wp2
  go_loop [9, 10, 11] (fun r q i => ∃ k : Nat, k ≤ 64 ∧ r = .int .u64 (divSt h d (bitsUpto l k)).1 ∧ q = .int .u64 (divSt h d (bitsUpto l k)).2 ∧ i = .int .i64 (63 - k)) (fun _ _ i => (intOf i + 1).toNat)
  case atStart => exact ⟨0, by omega, rfl, rfl, rfl⟩
  case round =>
    obtain ⟨k, hk, rfl, rfl, rfl⟩ := hrel
    by_cases hlt : k < 64
    · have hge : (0 : Int) ≤ 63 - k := by omega
      have hge2 : (63 : Int) - k ≤ 64 := by omega
      have hU := U_divSt h d hh (bitsUpto l k)
      have hS : divSt h d (bitsUpto l (k + 1)) = divStep d (divSt h d (bitsUpto l k)) (bitAt l k) := by rw [bitsUpto_succ, divSt_snoc]
      generalize divSt h d (bitsUpto l k) = s at *
      obtain ⟨r, q⟩ := s
      dsimp only at *
      have hr1 := rdivR1 r l hl k
      have hq2 := rdivQ2 q
      have ho := rover r hU.1
      by_cases hov : r / 9223372036854775808 = 1
      · have hS2 : divSt h d (bitsUpto l (k + 1)) = (divR2 r d (bitAt l k), divQ2 q) := by rw [hS]; unfold divStep; rw [if_pos (.inl hov)]
        have hov' := ho.2 hov
        have HS := Lib.hid hS2
        clear hS hS2 ho hov
        go_wp2
        exact ⟨⟨k + 1, by omega, by rw [HS.out]; rfl, by rw [HS.out], by go_num⟩, by simp [intOf]; omega⟩
      · have hov' : decide (9223372036854775808 ≤ r) = false := by rw [← Bool.not_eq_true]; exact fun x => hov (ho.1 x)
        by_cases hg : d ≤ divR1 r (bitAt l k)
        · have hS2 : divSt h d (bitsUpto l (k + 1)) = (divR2 r d (bitAt l k), divQ2 q) := by rw [hS]; unfold divStep; rw [if_pos (.inr hg)]
          have HS := Lib.hid hS2
          clear hS hS2 ho hov
          go_wp2
          exact ⟨⟨k + 1, by omega, by rw [HS.out]; rfl, by rw [HS.out], by go_num⟩, by simp [intOf]; omega⟩
        · have hS2 : divSt h d (bitsUpto l (k + 1)) = (divR1 r (bitAt l k), divQ1 q) := by rw [hS]; unfold divStep; rw [if_neg (by rintro (x | x); exact hov x; exact hg x)]
          have HS := Lib.hid hS2
          clear hS hS2 ho hov
          go_wp2
          exact ⟨⟨k + 1, by omega, by rw [HS.out], by rw [HS.out]; rfl, by go_num⟩, by simp [intOf]; omega⟩
    · obtain rfl : k = 64 := by omega
      have E := Lib.hid (divSt_all h l d hh hl hd h1)
      go_wp2
      go_ret3
      refine ⟨?_, rfl⟩
      have e1 : (divSt h d (bitsUpto l 64)).1 = divR h l d := by rw [E.out]
      have e2 : (divSt h d (bitsUpto l 64)).2 = divQ h l d := by rw [E.out]
      rw [← e1, ← e2]
      rfl

theorem rdiv_any (h l d : Int) (hh : U h) (hl : U l) (hd : U d) (w : World) :
    Calls Tryd.prog 27 #[.int .u64 h, .int .u64 l, .int .u64 d] w fun e w' => e = .returned (.tuple #[.int .u64 (divQq h l d), .int .u64 (divRr h l d), .bool (divOk h d)]) ∧ w = w' := by
  by_cases h0 : d = 0
  · have hk : divOk h d = false := by simp [divOk, h0]
    unfold divQq divRr
    rw [hk]
    exact rdiv_zero h l d w (by simp [h0])
  · by_cases h1 : h < d
    · have hk : divOk h d = true := by simp [divOk, h0, h1]
      unfold divQq divRr
      rw [hk]
      exact rdiv_yes h l d hh hl hd w (by simp [h0]) h1
    · have hk : divOk h d = false := by simp [divOk, h0]; omega
      unfold divQq divRr
      rw [hk]
      exact rdiv_over h l d w (by simp [h0]) (by omega)

set_option maxHeartbeats 400000 in
theorem rscale_any (a b d : Int) (ha : U a) (hb : U b) (hd : U d) (w : World) :
    Calls Tryd.prog 23 #[.int .u64 a, .int .u64 b, .int .u64 d] w fun e w' => e = .returned (.int .u64 (scl a b d)) ∧ w = w' := by
  have hH := U_mulH a b ha hb
  have hL := U_mulL a b
  cases hk : divOk (mulH a b) d with
  | true =>
    have HF : Hid (scl a b d = divQq (mulH a b) (mulL a b) d) := by unfold Hid scl divQq; rw [hk]; rfl
    have HK : Hid (divOk (mulH a b) d = true) := hk
    clear hk
    go_enter Tryd.func23, Tryd.ntmps23
    go_wp2_with fail
    refine (rmul_any a b ha hb _).mono ?_
    rintro e w1 ⟨rfl, rfl⟩
    go_wp2_with fail
    refine (rdiv_any _ _ d hH hL hd _).mono ?_
    rintro e w2 ⟨rfl, rfl⟩
    rw [HK.out]
    go_wp2
    go_ret
    exact ⟨by rw [HF.out]; rfl, rfl⟩
  | false =>
    have HF : Hid (scl a b d = 18446744073709551615) := by unfold Hid scl; rw [hk]; rfl
    have HK : Hid (divOk (mulH a b) d = false) := hk
    clear hk
    go_enter Tryd.func23, Tryd.ntmps23
    go_wp2_with fail
    refine (rmul_any a b ha hb _).mono ?_
    rintro e w1 ⟨rfl, rfl⟩
    go_wp2_with fail
    refine (rdiv_any _ _ d hH hL hd _).mono ?_
    rintro e w2 ⟨rfl, rfl⟩
    rw [HK.out]
    go_wp2
    go_ret
    exact ⟨by rw [HF.out]; rfl, rfl⟩

end Go.Proofs.YtlfcnhggleagaaaDoor
