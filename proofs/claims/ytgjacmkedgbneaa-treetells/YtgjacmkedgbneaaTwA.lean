/-
  Contracts of tree's readers: has, red, key, leftOf, rightOf, other; of a work's: child, at, placeOf.
-/
import Derived.Test.YtgjacmkedgbneaaSlW
namespace Go.Proofs.Ytgjacmkedgbneaa
open Go.RowKit Go.Sort Wd Tn Ky Tr

theorem has_nat {t : T} {i : Int} (h : t.has i) : ∃ k : Nat, i = (k : Int) ∧ k < t.ns.length := by
  unfold T.has at h
  exact ⟨i.toNat, by omega, by omega⟩

theorem red_at {w : World} {b : Nat} {v : Value} {t : T} (h : Tp w b v t) {i : Int} (hi : t.ok i) :
    Calls Try.prog 57 #[.pointer (some ⟨b, 0, none⟩), .int .i64 i] w fun e w' => e = .returned (.bool (t.redB i)) ∧ w = w' := by
  rcases hi with rfl | hi
  · go_enter Try.func57, Try.ntmps57
    go_wp2
    go_ret
    exact ⟨rfl, rfl⟩
  · obtain ⟨k, rfl, hk⟩ := has_nat hi
    obtain ⟨nb, off, cap, rfl, hc1, hc2, hn⟩ := h.node hk
    have c1 := h.2.1
    have r1 := hn.2.1
    obtain ⟨x, hx⟩ : ∃ x, (t.nd k).red = x := ⟨_, rfl⟩
    have HX : Hid (t.redB k = x) := Lib.hid (by unfold T.redB; rw [hx, decide_eq_true (by omega)]; rfl)
    rw [hx] at r1
    have hne : ((k : Int) == -1) = false := by rw [beq_eq_false_iff_ne]; omega
    clear hn h hx
    go_enter Try.func57, Try.ntmps57
    go_wp2
    go_ret
    exact ⟨by rw [HX.out]; rfl, rfl⟩

theorem has_at {w : World} {b : Nat} {v : Value} {t : T} (h : Tp w b v t) (i : Int) :
    Calls Try.prog 33 #[.pointer (some ⟨b, 0, none⟩), .int .i64 i] w fun e w' => e = .returned (.bool (decide (t.has i))) ∧ w = w' := by
  obtain ⟨a, cap, rfl, h1, h2⟩ := h.2.2.len
  have c1 := h.2.1
  obtain ⟨r, hr⟩ : ∃ r, decide (t.has i) = r := ⟨_, rfl⟩
  have HR : Hid (r = (decide (0 ≤ i) && decide (i < (t.ns.length : Int)))) := Lib.hid (by rw [← hr, Bool.eq_iff_iff, decide_eq_true_iff]; simp [T.has])
  rw [hr]
  unfold maxLen at h2
  clear h hr
  by_cases hp : 0 ≤ i
  · go_enter Try.func33, Try.ntmps33
    go_wp2
    go_ret
    exact ⟨by rw [HR.out, decide_eq_true hp]; simp, rfl⟩
  · go_enter Try.func33, Try.ntmps33
    go_wp2
    go_ret
    exact ⟨by rw [HR.out]; simp; omega, rfl⟩

theorem key_at {w : World} {b : Nat} {v : Value} {t : T} (h : Tp w b v t) {i : Int} (hi : t.has i) :
    Calls Try.prog 65 #[.pointer (some ⟨b, 0, none⟩), .int .i64 i] w fun e w' => e = .returned (.agg #[.int .u64 (t.nd i).v, .int .i64 i]) ∧ Gr w w' := by
  obtain ⟨k, rfl, hk⟩ := has_nat hi
  obtain ⟨nb, off, cap, rfl, hc1, hc2, hn⟩ := h.node hk
  have c1 := (Gr.alloc w (.cells #[.int .u64 0, .int .i64 0] 27)).cell h.2.1
  have r1 := (Gr.alloc w (.cells #[.int .u64 0, .int .i64 0] 27)).cell hn.2.2.1
  generalize (t.nd k).v = x at r1
  clear hn h
  go_enter Try.func65, Try.ntmps65
  go_wp2
  exact bodyPost_ret (v := .agg #[.int .u64 x, .int .i64 k]) (by simp [results, Try.results65, go_sem]) rfl ⟨rfl, Gr.alloc _ _⟩

theorem left_at {w : World} {b : Nat} {v : Value} {t : T} (h : Tp w b v t) {k : Nat} (hk : k < t.ns.length) {nb off cap : Nat} (hv : v = .slice (some ⟨nb, off, none⟩) t.ns.length cap) :
    Calls Try.prog 61 #[.pointer (some ⟨b, 0, none⟩), .int .i64 k] w fun e w' => e = .returned (.pointer (some ⟨nb, off + k * 6 + 3, none⟩)) ∧ w = w' := by
  obtain ⟨nb', off', cap', he, hc1, hc2, hn⟩ := h.node hk
  subst hv
  simp only [Value.slice.injEq, Option.some.injEq, Addr.mk.injEq] at he
  obtain ⟨⟨rfl, rfl, -⟩, -, rfl⟩ := he
  have c1 := h.2.1
  clear hn h
  go_enter Try.func61, Try.ntmps61
  go_wp2
  go_ret
  exact ⟨rfl, rfl⟩
theorem right_at {w : World} {b : Nat} {v : Value} {t : T} (h : Tp w b v t) {k : Nat} (hk : k < t.ns.length) {nb off cap : Nat} (hv : v = .slice (some ⟨nb, off, none⟩) t.ns.length cap) :
    Calls Try.prog 62 #[.pointer (some ⟨b, 0, none⟩), .int .i64 k] w fun e w' => e = .returned (.pointer (some ⟨nb, off + k * 6 + 4, none⟩)) ∧ w = w' := by
  obtain ⟨nb', off', cap', he, hc1, hc2, hn⟩ := h.node hk
  subst hv
  simp only [Value.slice.injEq, Option.some.injEq, Addr.mk.injEq] at he
  obtain ⟨⟨rfl, rfl, -⟩, -, rfl⟩ := he
  have c1 := h.2.1
  clear hn h
  go_enter Try.func62, Try.ntmps62
  go_wp2
  go_ret
  exact ⟨rfl, rfl⟩

theorem other_at (s : Bool) (w : World) : Calls Try.prog 78 #[.int .i64 (sI s)] w fun e w' => e = .returned (.int .i64 (sI (!s))) ∧ w = w' := by
  cases s
  · show Calls Try.prog 78 #[.int .i64 0] w fun e w' => e = .returned (.int .i64 1) ∧ w = w'
    go_enter Try.func78, Try.ntmps78
    go_wp2
    go_ret
    exact ⟨rfl, rfl⟩
  · show Calls Try.prog 78 #[.int .i64 1] w fun e w' => e = .returned (.int .i64 0) ∧ w = w'
    go_enter Try.func78, Try.ntmps78
    go_wp2
    go_ret
    exact ⟨rfl, rfl⟩

theorem child_at {p : Wp} {w : World} {t : T} (h : Wk p w t) {i : Int} (hi : t.has i) (s : Bool) :
    Calls Try.prog 71 #[.pointer (some ⟨p.b, 0, none⟩), .int .i64 i, .int .i64 (sI s)] w fun e w' => e = .returned (.int .i64 (t.kid i s)) ∧ w = w' := by
  obtain ⟨k, rfl, hk⟩ := has_nat hi
  have hn := h.nc hk
  obtain ⟨c0, c1, c2, c3, -⟩ := h.cells
  cases s with
  | false =>
    show Calls Try.prog 71 #[.pointer (some ⟨p.b, 0, none⟩), .int .i64 k, .int .i64 0] w fun e w' => e = .returned (.int .i64 (t.nd k).l) ∧ w = w'
    have HL := Lib.hid (left_at h.tp hk (nb := p.nb) (off := 0) (cap := p.cap) rfl)
    rw [Nat.zero_add] at HL
    have d := hn.2.2.2.1
    generalize (t.nd k).l = x at d ⊢
    clear hn h
    go_enter Try.func71, Try.ntmps71
    go_wp2_with fail
    refine (HL.out).mono ?_
    rintro e' w' ⟨rfl, rfl⟩
    go_wp2
    go_ret
    exact ⟨rfl, rfl⟩
  | true =>
    show Calls Try.prog 71 #[.pointer (some ⟨p.b, 0, none⟩), .int .i64 k, .int .i64 1] w fun e w' => e = .returned (.int .i64 (t.nd k).r) ∧ w = w'
    have HL := Lib.hid (right_at h.tp hk (nb := p.nb) (off := 0) (cap := p.cap) rfl)
    rw [Nat.zero_add] at HL
    have d := hn.2.2.2.2.1
    generalize (t.nd k).r = x at d ⊢
    clear hn h
    go_enter Try.func71, Try.ntmps71
    go_wp2_with fail
    refine (HL.out).mono ?_
    rintro e' w' ⟨rfl, rfl⟩
    go_wp2
    go_ret
    exact ⟨rfl, rfl⟩

theorem at_at {p : Wp} {w : World} {t : T} (h : Wk p w t) {u : Int} (hu : t.ok u) (s : Bool) :
    Calls Try.prog 63 #[.pointer (some ⟨p.b, 0, none⟩), .agg #[.int .i64 u, .int .i64 (sI s)]] w fun e w' => e = .returned (.int .i64 (t.at u s)) ∧ Gr w w' := by
  obtain ⟨c0, -, -, -, -⟩ := h.cells
  generalize hs : sI s = si
  rcases hu with rfl | hu
  · have c0' := (Gr.alloc w (.cells #[.int .i64 (-1), .int .i64 si] 91)).cell c0
    show Calls Try.prog 63 #[.pointer (some ⟨p.b, 0, none⟩), .agg #[.int .i64 (-1), .int .i64 si]] w fun e w' => e = .returned (.int .i64 t.root) ∧ Gr w w'
    generalize t.root = x at c0' ⊢
    clear h c0 hs
    go_enter Try.func63, Try.ntmps63
    go_wp2
    go_ret
    exact ⟨rfl, Gr.alloc _ _⟩
  · have HC := Lib.hid (child_at (h.alloc (.cells #[.int .i64 u, .int .i64 si] 91)) hu s)
    rw [hs] at HC
    have hne : (u == -1) = false := by unfold T.has at hu; rw [beq_eq_false_iff_ne]; omega
    have HE : Hid (t.at u s = t.kid u s) := Lib.hid (by unfold T.at; rw [if_neg (by simpa using hne)])
    rw [HE.out]
    clear h c0 hs hu
    go_enter Try.func63, Try.ntmps63
    go_wp2_with fail
    refine (HC.out).mono ?_
    rintro e' w' ⟨rfl, rfl⟩
    go_wp2
    go_ret
    exact ⟨rfl, Gr.alloc _ _⟩

theorem place_at {p : Wp} {w : World} {t : T} (h : Wk p w t) {i : Int} (hi : t.has i) (hu : t.ok (t.up i)) :
    Calls Try.prog 70 #[.pointer (some ⟨p.b, 0, none⟩), .int .i64 i] w fun e w' => e = .returned (.agg #[.int .i64 (t.up i), .int .i64 (sI (t.side i))]) ∧ Gr w w' := by
  obtain ⟨k, rfl, hk⟩ := has_nat hi
  have h1 := h.alloc (.cells #[.int .i64 0, .int .i64 0] 91)
  have hn := h1.nc hk
  obtain ⟨-, c1, -, -, -⟩ := h1.cells
  have d := hn.2.2.2.2.2
  obtain ⟨cap1, cap2⟩ := And.intro h.cap1 h.cap2
  change t.ok (t.nd k).u at hu
  have HS : Hid (t.side k = (decide ((t.nd k).u ≠ -1) && decide (t.kid (t.nd k).u true = k))) := Lib.hid rfl
  show Calls Try.prog 70 #[.pointer (some ⟨p.b, 0, none⟩), .int .i64 k] w fun e w' => e = .returned (.agg #[.int .i64 (t.nd k).u, .int .i64 (sI (t.side k))]) ∧ Gr w w'
  unfold Wp.sl at c1
  rcases hu with hu | hu
  · have HS2 : Hid (sI (t.side k) = 0) := Lib.hid (by rw [HS.out, hu]; rfl)
    rw [hu] at d ⊢
    clear hn h h1 HS
    go_enter Try.func70, Try.ntmps70
    go_wp2
    exact bodyPost_ret (v := .agg #[.int .i64 (-1), .int .i64 0]) (by simp [results, Try.results70, go_sem]) rfl ⟨by rw [HS2.out], Gr.alloc _ _⟩
  · have HC := Lib.hid (child_at h1 hu true)
    have hne : ((t.nd k).u == -1) = false := by unfold T.has at hu; rw [beq_eq_false_iff_ne]; omega
    have HN : Hid (decide ((t.nd k).u ≠ -1) = true) := Lib.hid (by simpa using hne)
    have hne2 : ¬ (t.nd k).u = -1 := by simpa using hne
    generalize (t.nd k).u = u at *
    by_cases he : t.kid u true = k
    · have HS2 : Hid (sI (t.side k) = 1) := Lib.hid (by rw [HS.out, HN.out, decide_eq_true he]; rfl)
      rw [he] at HC
      clear hn h h1 HS hu HN he
      change Hid (Calls Try.prog _ #[_, _, .int .i64 1] _ _) at HC
      go_enter Try.func70, Try.ntmps70
      go_wp2_with fail
      refine (HC.out).mono ?_
      rintro e' w' ⟨rfl, rfl⟩
      go_wp2
      exact bodyPost_ret (v := .agg #[.int .i64 u, .int .i64 1]) (by simp [results, Try.results70, go_sem]) rfl ⟨by rw [HS2.out], Gr.alloc _ _⟩
    · have HS2 : Hid (sI (t.side k) = 0) := Lib.hid (by rw [HS.out, decide_eq_false he, Bool.and_false]; rfl)
      have he2 : (t.kid u true == k) = false := by rw [beq_eq_false_iff_ne]; exact he
      change Hid (Calls Try.prog _ #[_, _, .int .i64 1] _ _) at HC
      generalize t.kid u true = z at *
      clear hn h h1 HS hu HN he
      go_enter Try.func70, Try.ntmps70
      go_wp2_with fail
      refine (HC.out).mono ?_
      rintro e' w' ⟨rfl, rfl⟩
      go_wp2
      exact bodyPost_ret (v := .agg #[.int .i64 u, .int .i64 0]) (by simp [results, Try.results70, go_sem]) rfl ⟨by rw [HS2.out], Gr.alloc _ _⟩
end Go.Proofs.Ytgjacmkedgbneaa
