/-
  Contracts of key.met and key.Sorted: whether keys are sorted, and the map of their Ids.
-/
import Derived.Test.YtgjacmkedgbneaaKyD
namespace Go.Proofs.Ytgjacmkedgbneaa
open Go.RowKit Go.Sort Go.Maps Wd Tn Ky

/-- What met tells. -/
def Met (W : World) (m : Int) (l : List K) (e : Ending) (w' : World) : Prop :=
  ((okK m l ∧ ∃ b, e = .returned (.tuple #[.map (some b), .bool true]) ∧ Mt w' b l l.length ∧ W.heap.size ≤ b) ∨ (¬ okK m l ∧ e = .returned (.tuple #[.map none, .bool false]))) ∧ Below W.heap.size W w'

theorem met_none (m : Int) (a : Option Addr) (cap : Nat) (W : World) : Calls Try.prog 76 #[.int .u64 m, .slice a 0 cap] W (Met W m []) := by
  have hmm := @run_makeMap Try.prog
  go_enter Try.func76, Try.ntmps76
  go_wp2
  refine wp_loop_rounds 1 ?_
  rw [rounds_succ]
  go_wp2
  go_ret2
  exact ⟨.inl ⟨List.Pairwise.nil, _, rfl, Mt.none W [], Nat.le_refl _⟩, (Below.refl _ _).alloc (Nat.le_refl _) _⟩

set_option maxHeartbeats 400000 in
set_option maxRecDepth 100000 in
theorem met_some (m : Int) {l : List K} {W : World} {b off cap : Nat} (hp : 0 < l.length) (hl : l.length ≤ 1000) (hin : ∀ x ∈ l, Kin x) (hb : b < W.heap.size)
    (hc : ∀ i, i < l.length → W.cell? ⟨b, off + i * 2, none⟩ = some (.int .u64 (l.getD i (0, 0)).1) ∧ W.cell? ⟨b, off + i * 2 + 1, none⟩ = some (.int .i64 (l.getD i (0, 0)).2)) :
    Calls Try.prog 76 #[.int .u64 m, .slice (some ⟨b, off, none⟩) l.length cap] W (Met W m l) := by
  have hmm := @run_makeMap Try.prog
  have mixed : Try.prog.follows .mixedOrders = true := by kernel_rfl
  have HC := Lib.hid hc
  have HIN := Lib.hid hin
  clear hc hin
  go_enter Try.func76, Try.ntmps76
  go_wp2
  go_loopw [14] (fun i wr => ∃ k : Nat, k ≤ l.length ∧ i = .int .i64 k ∧ Hid (okK m (l.take k) ∧ Mt wr W.heap.size l k ∧ Below W.heap.size W wr)) (fun i _ => l.length - (intOf i).toNat)
  case atStart => exact ⟨0, by omega, rfl, Lib.hid ⟨List.Pairwise.nil, Mt.none W l, (Below.refl _ _).alloc (Nat.le_refl _) _⟩⟩
  case round =>
    obtain ⟨k, hk, rfl, HR⟩ := hrel
    by_cases hlt : k < l.length
    · obtain ⟨x, hx⟩ : ∃ x, l.getD k (0, 0) = x := ⟨_, rfl⟩
      have c := HC.out k hlt
      rw [hx] at c
      have hbl := HR.out.2.2
      have c0 : wr.cell? ⟨b, off + k * 2, none⟩ = some (.int .u64 x.1) := (hbl.cell (p := ⟨b, off + k * 2, none⟩) hb).trans c.1
      have c1 : wr.cell? ⟨b, off + k * 2 + 1, none⟩ = some (.int .i64 x.2) := (hbl.cell (p := ⟨b, off + k * 2 + 1, none⟩) hb).trans c.2
      have HX := Lib.hid hx
      have HXI : Hid (I x.2) := Lib.hid (by rw [← hx]; exact (HIN.out _ (by simp [List.getD, hlt])).2)
      clear c hx hbl
      by_cases hk0 : k = 0
      · have HK0 := Lib.hid hk0
        have hd : decide ((0 : Int) < (k : Int)) = false := decide_eq_false (by omega)
        have hd2 : decide (0 < k) = false := decide_eq_false (by omega)
        clear hk0
        go_wp2_with fail
        go_quiet (fail)
        have hM : Mt ((wr.alloc (.cells #[.int .u64 x.1, .int .i64 x.2] 27)).drewN nq) W.heap.size l k ∧ Below W.heap.size W ((wr.alloc (.cells #[.int .u64 x.1, .int .i64 x.2] 27)).drewN nq) := by
          have hg : Gr wr ((wr.alloc (.cells #[.int .u64 x.1, .int .i64 x.2] 27)).drewN nq) := (Gr.alloc _ _).trans (Gr.drew _ _)
          exact ⟨HR.out.2.1.below hg.below, bOn HR.out.2.2 hg.below⟩
        have cb : ((wr.alloc (.cells #[.int .u64 x.1, .int .i64 x.2] 27)).drewN nq).cell? ⟨wr.heap.size, 1, none⟩ = some (.int .i64 x.2) := by
          show (wr.alloc (.cells #[.int .u64 x.1, .int .i64 x.2] 27)).cell? _ = _
          rw [World.cell?_alloc_at _ _ _ _ rfl]; rfl
        generalize (wr.alloc (.cells #[.int .u64 x.1, .int .i64 x.2] 27)).drewN nq = wq at hM cb ⊢
        have cb2 := (Gr.alloc wq (.cells #[.int .i64 0] 113)).cell cb
        have HM := Lib.hid hM
        have HNO : Hid (∀ i, i < k → (l.getD i (0, 0)).2 ≠ x.2) := Lib.hid (fun i hi => by have := HK0.out; omega)
        clear hM
        go_wp2_with (first
          | (refine wpList_look_none rfl (.tmp 33) (.tmp 36) rfl W.heap.size k l x.2 HXI.out HNO.out rfl rfl HM.out.1 ?_)
          | (refine wpList_put_next rfl (.tmp 41) (.tmp 44) (.tmp 46) rfl W.heap.size k l x.2 HXI.out HIN.out hlt hl (by rw [HX.out]) HNO.out rfl rfl rfl (HM.out.1.below ((Below.refl _ _).alloc (Nat.le_refl _) _)) ?_; intro w2 hM2 hg2))
        refine ⟨⟨k + 1, by omega, by go_num, Lib.hid ⟨?_, hM2, ?_⟩⟩, by simp [intOf]; omega⟩
        · exact okK_more hlt HR.out.1 (fun h => by have := HK0.out; omega) (fun i hi => by have := HK0.out; omega)
        · exact (HM.out.2.alloc HM.out.2.size _).grown hg2 (by have := HM.out.2.size; simp; omega) (fun r hr => by cases hr; exact Nat.le_refl _)
      · obtain ⟨j, hj⟩ : ∃ j, j + 1 = k := ⟨k - 1, by omega⟩
        obtain ⟨y, hy⟩ : ∃ y, l.getD j (0, 0) = y := ⟨_, rfl⟩
        have c := HC.out j (by omega)
        rw [hy] at c
        have d0 := (HR.out.2.2.cell (p := ⟨b, off + j * 2, none⟩) hb).trans c.1
        have d1 := (HR.out.2.2.cell (p := ⟨b, off + j * 2 + 1, none⟩) hb).trans c.2
        have hg0 := fun n os => ((Gr.alloc wr (.cells #[.int .u64 x.1, .int .i64 x.2] 27)).trans ⟨n, os, rfl⟩ : Gr wr (grow ((wr.alloc (.cells #[.int .u64 x.1, .int .i64 x.2] 27)).drewN n) os))
        have f0 : ∀ n os, (grow ((wr.alloc (.cells #[.int .u64 x.1, .int .i64 x.2] 27)).drewN n) os).cell? ⟨b, off + j * 2, none⟩ = some (.int .u64 y.1) := fun n os => (hg0 n os).cell d0
        have f1 : ∀ n os, (grow ((wr.alloc (.cells #[.int .u64 x.1, .int .i64 x.2] 27)).drewN n) os).cell? ⟨b, off + j * 2 + 1, none⟩ = some (.int .i64 y.2) := fun n os => (hg0 n os).cell d1
        have e0 : (wr.alloc (.cells #[.int .u64 x.1, .int .i64 x.2] 27)).cell? ⟨wr.heap.size, 0, none⟩ = some (.int .u64 x.1) := by rw [World.cell?_alloc_at _ _ _ _ rfl]; rfl
        have e1 : (wr.alloc (.cells #[.int .u64 x.1, .int .i64 x.2] 27)).cell? ⟨wr.heap.size, 1, none⟩ = some (.int .i64 x.2) := by rw [World.cell?_alloc_at _ _ _ _ rfl]; rfl
        have f2 : ∀ n os, (grow ((wr.alloc (.cells #[.int .u64 x.1, .int .i64 x.2] 27)).drewN n) os).cell? ⟨wr.heap.size, 0, none⟩ = some (.int .u64 x.1) := fun n os => Gr.cell ⟨n, os, rfl⟩ e0
        have f3 : ∀ n os, (grow ((wr.alloc (.cells #[.int .u64 x.1, .int .i64 x.2] 27)).drewN n) os).cell? ⟨wr.heap.size, 1, none⟩ = some (.int .i64 x.2) := fun n os => Gr.cell ⟨n, os, rfl⟩ e1
        have HM0 := Lib.hid (fun n os => (⟨HR.out.2.1.below (hg0 n os).below, bOn HR.out.2.2 (hg0 n os).below⟩ : Mt (grow ((wr.alloc (.cells #[.int .u64 x.1, .int .i64 x.2] 27)).drewN n) os) W.heap.size l k ∧ Below W.heap.size W (grow ((wr.alloc (.cells #[.int .u64 x.1, .int .i64 x.2] 27)).drewN n) os)))
        have HE1 := Lib.hid f3
        have HY := Lib.hid hy
        have hd : decide ((0 : Int) < (k : Int)) = true := decide_eq_true (by omega)
        have hd2 : decide (0 < k) = true := decide_eq_true (by omega)
        have hw1 : IntKind.i64.wrap ((k : Int) - 1) = (j : Int) := by rw [IntKind.wrap_i64]; omega
        have hjl : j < l.length := by omega
        have HJ := Lib.hid hj
        cases hlt2 : ltK m y x with
        | false =>
          have hcg : ∀ n os, Calls Try.prog 64 #[.int .u64 m, .agg #[.int .u64 y.1, .int .i64 y.2], .agg #[.int .u64 x.1, .int .i64 x.2]] (grow ((wr.alloc (.cells #[.int .u64 x.1, .int .i64 x.2] 27)).drewN n) os) fun e w' => e = .returned (.bool false) ∧ ∃ q os', w' = grow ((grow ((wr.alloc (.cells #[.int .u64 x.1, .int .i64 x.2] 27)).drewN n) os).drewN q) os' := fun n os => by
            rw [← hlt2]; exact less_gr m y x _
          have HL := Lib.hid hlt2
          clear hlt2 c hy hj d0 d1 hg0 e0 e1 hk0
          go_wp2_with fail
          generalize wr.alloc (.cells #[.int .u64 x.1, .int .i64 x.2] 27) = w1 at f0 f1 f2 f3 HM0 HE1 hcg ⊢
          go_quiet_grown (first | (go_at_call 64; refine Calls.grown_of (hcg _ _)))
          go_wp2
          go_ret2
          refine ⟨.inr ⟨fun ho => ?_, rfl⟩, (HM0.out nq osq).2⟩
          have h2 := okK_less hlt ho (by have := HJ.out; omega)
          rw [show k - 1 = j by have := HJ.out; omega, HY.out, HX.out, HL.out] at h2
          cases h2
        | true =>
          have hcg : ∀ n os, Calls Try.prog 64 #[.int .u64 m, .agg #[.int .u64 y.1, .int .i64 y.2], .agg #[.int .u64 x.1, .int .i64 x.2]] (grow ((wr.alloc (.cells #[.int .u64 x.1, .int .i64 x.2] 27)).drewN n) os) fun e w' => e = .returned (.bool true) ∧ ∃ q os', w' = grow ((grow ((wr.alloc (.cells #[.int .u64 x.1, .int .i64 x.2] 27)).drewN n) os).drewN q) os' := fun n os => by
            rw [← hlt2]; exact less_gr m y x _
          have HL := Lib.hid hlt2
          clear hlt2 c hy hj d0 d1 hg0 e0 e1 hk0
          go_wp2_with fail
          generalize wr.alloc (.cells #[.int .u64 x.1, .int .i64 x.2] 27) = w1 at f0 f1 f2 f3 HM0 HE1 hcg ⊢
          go_quiet_grown (first | (go_at_call 64; refine Calls.grown_of (hcg _ _)))
          have cb := HE1.out nq osq
          have HM := Lib.hid (HM0.out nq osq)
          clear HM0 HE1 f0 f1 f2 f3 hcg
          generalize grow (w1.drewN nq) osq = wq at cb HM ⊢
          by_cases hdup : ∃ i, i < k ∧ (l.getD i (0, 0)).2 = x.2
          · obtain ⟨i, hik, hix⟩ := hdup
            have HIX := Lib.hid hix
            clear hix
            go_wp2_with (refine wpList_look_at rfl (.tmp 33) (.tmp 36) rfl W.heap.size k i l x.2 HXI.out hik HIX.out rfl rfl HM.out.1 ?_)
            go_ret2
            refine ⟨.inr ⟨fun ho => ?_, rfl⟩, HM.out.2.alloc HM.out.2.size _⟩
            exact (okK_at ho hik hlt).2 (by rw [HIX.out, HX.out])
          · have HNO : Hid (∀ i, i < k → (l.getD i (0, 0)).2 ≠ x.2) := Lib.hid (fun i hi e => hdup ⟨i, hi, e⟩)
            have cb2 := (Gr.alloc wq (.cells #[.int .i64 0] 113)).cell cb
            clear hdup
            go_wp2_with (first
              | (refine wpList_look_none rfl (.tmp 33) (.tmp 36) rfl W.heap.size k l x.2 HXI.out HNO.out rfl rfl HM.out.1 ?_)
              | (refine wpList_put_next rfl (.tmp 41) (.tmp 44) (.tmp 46) rfl W.heap.size k l x.2 HXI.out HIN.out hlt hl (by rw [HX.out]) HNO.out rfl rfl rfl (HM.out.1.below ((Below.refl _ _).alloc (Nat.le_refl _) _)) ?_; intro w2 hM2 hg2))
            refine ⟨⟨k + 1, by omega, by go_num, Lib.hid ⟨?_, hM2, ?_⟩⟩, by simp [intOf]; omega⟩
            · refine okK_more hlt HR.out.1 (fun _ => ?_) (fun i hi => by rw [HX.out]; exact HNO.out i hi)
              rw [show k - 1 = j by have := HJ.out; omega, HY.out, HX.out]
              exact HL.out
            · exact (HM.out.2.alloc HM.out.2.size _).grown hg2 (by have := HM.out.2.size; simp; omega) (fun r hr => by cases hr; exact Nat.le_refl _)
    · obtain rfl : k = l.length := by omega
      go_wp2
      go_ret2
      obtain ⟨h1, h2, h3⟩ := HR.out
      rw [List.take_length] at h1
      exact ⟨.inl ⟨h1, _, rfl, h2, Nat.le_refl _⟩, h3⟩

theorem met_any (m : Int) {W : World} {v : Value} {l : List K} (h : Keys W v l) (hl : l.length ≤ 1000) : Calls Try.prog 76 #[.int .u64 m, v] W (Met W m l) := by
  rcases h.parts with ⟨rfl, a, cap, rfl⟩ | ⟨hp, b, off, cap, rfl, -, hb, hc⟩
  · exact met_none m a cap W
  · exact met_some m hp hl h.kin hb hc

theorem sorted_any (m : Int) {W : World} {v : Value} {l : List K} (h : Keys W v l) (hl : l.length ≤ 1000) :
    Calls Try.prog 58 #[.int .u64 m, v] W fun e w' => e = .returned (.bool (decide (okK m l))) ∧ Below W.heap.size W w' := by
  have HM := Lib.hid (met_any m h hl)
  clear h
  by_cases hok : okK m l
  · rw [decide_eq_true hok]
    go_enter Try.func58, Try.ntmps58
    go_wp2_with fail
    refine HM.out.mono ?_
    rintro e' w1 ⟨⟨-, b, rfl, -, -⟩ | ⟨hn, -⟩, hb⟩
    · go_wp2
      go_ret
      exact ⟨rfl, hb⟩
    · exact absurd hok hn
  · rw [decide_eq_false hok]
    go_enter Try.func58, Try.ntmps58
    go_wp2_with fail
    refine HM.out.mono ?_
    rintro e' w1 ⟨⟨hy, -⟩ | ⟨-, rfl⟩, hb⟩
    · exact absurd hy hok
    · go_wp2
      go_ret
      exact ⟨rfl, hb⟩
end Go.Proofs.Ytgjacmkedgbneaa
