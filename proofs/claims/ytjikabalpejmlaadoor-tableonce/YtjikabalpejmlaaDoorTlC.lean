/-
  Contracts of layer 14: Check, Live.
-/
import Derived.Test.YtjikabalpejmlaaDoorTlB
namespace Go.Proofs.YtjikabalpejmlaaDoor
open Go.RowKit Go.Deep Pk Lf
open Mk (V allM cpus fstI anyB)

theorem info_handle : (Tryd.prog.info? 27).map (fun i => (i.zero, i.size, i.bytes)) = some (some (.agg #[.int .i64 0, .int .i64 0]), 2, 16) := by kernel_rfl
theorem G_ni (n : Int) : Ni (G n) := by
  unfold Ni G; omega

/-! ### Check -/
set_option maxHeartbeats 4000000 in
theorem check_any (t : Tl.T) (s g : Int) (v : Value) (W : World) (hV : Tv W v t) (hT : Tab W) :
    Calls Tryd.prog 22 #[v, .agg #[.int .i64 s, .int .i64 g]] W fun e w' => e = .returned (.int .i64 (Tl.chk t s g)) ∧ Below W.heap.size W w' := by
  obtain ⟨c0, c1, rfl, hI, hK⟩ := hV
  have HB1 := Lib.hid ((Below.refl W.heap.size W).alloc (Nat.le_refl _) (.cells #[c0, c1] 25))
  have HB2 := Lib.hid ((Below.refl (W.alloc (.cells #[c0, c1] 25)).heap.size (W.alloc (.cells #[c0, c1] 25))).alloc (Nat.le_refl _) (.cells #[.int .i64 s, .int .i64 g] 27))
  have HX := Lib.hid ((Bt.new W c0 c1).below HB2.out)
  have HH : Hid (Bh ((W.alloc (.cells #[c0, c1] 25)).alloc (.cells #[.int .i64 s, .int .i64 g] 27)) (W.heap.size + 1) ⟨s, g⟩) := Lib.hid (by
    have := Bh.new (W.alloc (.cells #[c0, c1] 25)) ⟨s, g⟩
    rwa [show (W.alloc (.cells #[c0, c1] 25)).heap.size = W.heap.size + 1 by simp] at this)
  have HB3 := Lib.hid (bOn HB1.out HB2.out)
  have HI1 := Lib.hid (hI.below HB3.out)
  have HT1 := Lib.hid (hT.below HB3.out)
  obtain ⟨a0, p0, rfl, hm0, -, -⟩ := hI
  obtain ⟨n0, hn0⟩ : ∃ n, t.ws.length = n := ⟨_, rfl⟩
  have HN0 := Lib.hid hn0
  rw [hn0] at HB1 HB2 HB3 HX HH HI1 HT1 hm0 ⊢
  clear hn0 hT HB1 HB2
  unfold maxLen at hm0
  go_enter Tryd.func22, Tryd.ntmps22
  go_upto_region 1 with fail
  generalize (W.alloc _).alloc _ = w1 at HX HB3 HI1 HT1 HH ⊢
  obtain ⟨x0, x1⟩ := HX.out.cells
  obtain ⟨y0, y1⟩ := HH.out.cells
  by_cases hs0 : s < 0
  · have HR : Hid (Tl.chk t s g = 1) := Lib.hid (Tl.chk_out (by omega))
    go_wp2
    go_ret
    exact ⟨by rw [HR.out]; rfl, HB3.out⟩
  · by_cases hs1 : (n0 : Int) ≤ s
    · have HR : Hid (Tl.chk t s g = 1) := Lib.hid (Tl.chk_out (by rw [HN0.out]; omega))
      have hd : decide (s < 0) = false := decide_eq_false hs0
      have hd1 : decide (s ≥ (n0 : Int)) = true := decide_eq_true hs1
      go_wp2
      go_ret
      exact ⟨by rw [HR.out]; rfl, HB3.out⟩
    · obtain ⟨i, rfl⟩ : ∃ i : Nat, s = (i : Int) := ⟨s.toNat, by omega⟩
      have hlt : i < n0 := by omega
      rcases HI1.out.parts with ⟨h, -⟩ | ⟨-, -, b, off, cap', hv, hb, hc⟩
      · have := HN0.out; rw [h] at this; simp at this; omega
      simp only [Value.slice.injEq] at hv
      obtain ⟨rfl, -, rfl⟩ := hv
      have d0 := hc i (by rw [HN0.out]; exact hlt)
      have HU : Hid (U (Tl.W t i)) := Lib.hid (pkU_of_wf (HI1.out.wf _ (by unfold Tl.W; rw [List.getD_eq_getElem?_getD, List.getElem?_eq_getElem (by rw [HN0.out]; exact hlt)]; exact List.getElem_mem _)))
      have HC : Hid (Tl.chk t (i : Int) g = if K (Tl.W t i) = 0 ∨ G (Tl.W t i) ≠ g then 6 else 0) := Lib.hid (Tl.chk_in (by rw [HN0.out]; exact hlt))
      change w1.cell? _ = some (.int .u64 (Tl.W t i)) at d0
      clear hc hb hs0 hs1
      generalize Tl.W t i = z at d0 HU HC
      have hd : decide ((i : Int) < 0) = false := decide_eq_false (by omega)
      have hd1 : decide ((i : Int) ≥ (n0 : Int)) = false := decide_eq_false (by omega)
      have hk : ∀ n, Calls Tryd.prog 47 #[.int .u64 z] (w1.drewN n) fun e w' => e = .returned (.int .i64 (K z)) ∧ ∃ q, w' = (w1.drewN n).drewN q := fun n => kind_q z HU.out _ (HT1.out.drew n)
      have hg : ∀ n, Calls Tryd.prog 42 #[.int .u64 z] (w1.drewN n) fun e w' => e = .returned (.int .i64 (G z)) ∧ ∃ q, w' = (w1.drewN n).drewN q := fun n => gen_q z HU.out _ (HT1.out.drew n)
      have f1 : ∀ n, (w1.drewN n).cell? ⟨W.heap.size + 1, 1, none⟩ = some (.int .i64 g) := fun n => y1
      by_cases hz : K z = 0
      · have HR : Hid (Tl.chk t (i : Int) g = 6) := Lib.hid (by rw [HC.out, if_pos (.inl hz)])
        rw [hz] at hk
        clear hz
        go_upto_region 4 with fail
        go_quiet (first | (go_at_call 47; exact Calls.quiet_of (hk _)) | (go_at_call 42; exact Calls.quiet_of (hg _)))
        go_wp2
        go_ret
        exact ⟨by rw [HR.out]; rfl, below_drewN HB3.out _⟩
      · have e1 : (K z == 0) = false := by simp [hz]
        by_cases hgz : G z = g
        · have HR : Hid (Tl.chk t (i : Int) g = 0) := Lib.hid (by rw [HC.out, if_neg (fun h => by rcases h with h | h; exact hz h; exact h hgz)])
          rw [hgz] at hg
          have e2 : (g != g) = false := by simp
          clear hz hgz
          go_upto_region 4 with fail
          go_quiet (first | (go_at_call 47; exact Calls.quiet_of (hk _)) | (go_at_call 42; exact Calls.quiet_of (hg _)))
          go_wp2
          go_ret
          exact ⟨by rw [HR.out]; rfl, below_drewN HB3.out _⟩
        · have HR : Hid (Tl.chk t (i : Int) g = 6) := Lib.hid (by rw [HC.out, if_pos (.inr hgz)])
          have e2 : (G z != g) = true := by simp [hgz]
          clear hz hgz
          go_upto_region 4 with fail
          go_quiet (first | (go_at_call 47; exact Calls.quiet_of (hk _)) | (go_at_call 42; exact Calls.quiet_of (hg _)))
          go_wp2
          go_ret
          exact ⟨by rw [HR.out]; rfl, below_drewN HB3.out _⟩

/-! ### Live -/
set_option maxHeartbeats 4000000 in
theorem live_any (t : Tl.T) (v : Value) (W : World) (hV : Tv W v t) (hT : Tab W) (hl : t.ws.length ≤ 1000) :
    Calls Tryd.prog 23 #[v] W fun e w' => (∃ v', e = .returned v' ∧ Hs w' v' (Tl.live t.ws t.ws.length)) ∧ Below W.heap.size W w' := by
  obtain ⟨c0, c1, rfl, hI, hK⟩ := hV
  have HB1 := Lib.hid ((Below.refl W.heap.size W).alloc (Nat.le_refl _) (.cells #[c0, c1] 25))
  have HX := Lib.hid (Bt.new W c0 c1)
  have HI1 := Lib.hid (hI.below HB1.out)
  have HT1 := Lib.hid (hT.below HB1.out)
  obtain ⟨a0, p0, rfl, hm0, -, -⟩ := hI
  obtain ⟨n0, hn0⟩ : ∃ n, t.ws.length = n := ⟨_, rfl⟩
  have HN0 := Lib.hid hn0
  have HF : Hid (∀ h ∈ Tl.live t.ws n0, encH.ok h) := Lib.hid (by
    have : ∀ n, n ≤ 1000 → ∀ h ∈ Tl.live t.ws n, encH.ok h := by
      intro n
      induction n with
      | zero => intro _ h hh; simp [Tl.live] at hh
      | succ n ih =>
        intro hn h hh
        unfold Tl.live at hh
        split at hh
        · exact ih (by omega) h hh
        · rcases List.mem_append.1 hh with hh | hh
          · exact ih (by omega) h hh
          · simp only [List.mem_singleton] at hh
            subst hh
            exact ⟨by unfold Ni; simp; omega, G_ni _⟩
    exact this n0 (by omega))
  rw [hn0] at HB1 HX HI1 HT1 hm0 hl ⊢
  clear hn0 hT
  unfold maxLen at hm0
  go_enter Tryd.func23, Tryd.ntmps23
  go_upto_region 1 with fail
  generalize W.alloc _ = w1 at HX HB1 HI1 HT1 ⊢
  obtain ⟨x0, x1⟩ := HX.out.cells
  go_wp2
  go_loopw [3, 9] (fun u i wr => ∃ k : Nat, k ≤ n0 ∧ i = .int .i64 k ∧ Hid (OwnE encH wr w1.heap.size 27 u (Tl.live t.ws k) ∧ Below w1.heap.size w1 wr)) (fun _ i _ => n0 - (intOf i).toNat)
  case atStart => exact ⟨0, by omega, rfl, Lib.hid ⟨OwnE.nil _ _ _, Below.refl _ _⟩⟩
  case round =>
    obtain ⟨k, hk, rfl, HJ⟩ := hrel
    by_cases hlt : k < n0
    · rcases HI1.out.parts with ⟨h, -⟩ | ⟨-, -, b, off, cap', hv, hb, hc⟩
      · have := HN0.out; rw [h] at this; simp at this; omega
      simp only [Value.slice.injEq] at hv
      obtain ⟨rfl, -, rfl⟩ := hv
      have d0 := (HJ.out.2.cell (p := ⟨b, off + k, none⟩) hb).trans (hc k (by rw [HN0.out]; exact hlt))
      have HU : Hid (U (t.ws.getD k 0)) := Lib.hid (pkU_of_wf (HI1.out.wf _ (by rw [List.getD_eq_getElem?_getD, List.getElem?_eq_getElem (by rw [HN0.out]; exact hlt)]; exact List.getElem_mem _)))
      have HSK := Lib.hid (fun h => Tl.live_skip (ws := t.ws) (n := k) h)
      have HPU := Lib.hid (fun h => Tl.live_put (ws := t.ws) (n := k) h)
      have HLE := Lib.hid (Tl.live_le t.ws k)
      clear hc hb
      obtain ⟨z, hz⟩ : ∃ z, t.ws.getD k 0 = z := ⟨_, rfl⟩
      rw [hz] at d0 HU HSK HPU
      clear hz
      go_wp2_with fail
      refine (kind_any z HU.out wr (HT1.out.below HJ.out.2)).mono ?_
      rintro e' w2 ⟨rfl, hb2⟩
      have HB2 := Lib.hid (HJ.out.2.trans (hb2.mono HJ.out.2.size))
      have HO2 := Lib.hid (HJ.out.1.below hb2)
      clear hb2 d0 HJ
      by_cases hkz : K z = 0
      · have HS := Lib.hid (HSK.out hkz)
        have e1 : (K z != 0) = false := by simp [hkz]
        clear hkz HSK HPU
        go_wp2
        exact ⟨⟨k + 1, by omega, by go_num, Lib.hid ⟨by rw [HS.out]; exact HO2.out, HB2.out⟩⟩, by simp [intOf]; omega⟩
      · have HS := Lib.hid (HPU.out hkz)
        have e1 : (K z != 0) = true := by simp [hkz]
        clear hkz HSK HPU
        go_wp2_with fail
        refine (gen_any z HU.out w2 (HT1.out.below HB2.out)).mono ?_
        rintro e' w3 ⟨rfl, hb3⟩
        have HB3 := Lib.hid (HB2.out.trans (hb3.mono HB2.out.size))
        have HO3 := Lib.hid (HO2.out.below hb3)
        have HN3 : Hid (Hs (w3.alloc (.cells #[.int .i64 (k : Int), .int .i64 (G z)] 27)) (.slice (some ⟨w3.heap.size, 0, none⟩) 1 1) [Tl.Hd.mk (k : Nat) (G z)]) := Lib.hid (els_new w3 _ [Tl.Hd.mk (k : Nat) (G z)] (by
          intro x hx
          simp only [List.mem_singleton] at hx
          subst hx
          exact ⟨by unfold Ni; simp; omega, G_ni _⟩) _ rfl _ rfl _ rfl _ ⟨Nat.le_refl _, by decide⟩)
        clear hb3 HO2
        have hsz : (w3.alloc (.cells #[.int .i64 (k : Int), .int .i64 (G z)] 27)).heap.size = w3.heap.size + 1 := by simp
        have hszB : w1.heap.size ≤ w3.heap.size := HB3.out.size
        go_wp2_with (at_builtin; go_loud (refine wpList_append_els encH rfl (.tmp 17) (.tmp 22) 55 rfl w1.heap.size 27 Tryd.underlying55 info_handle rfl (by decide) (Tl.live t.ws k) [Tl.Hd.mk (k : Nat) (G z)] (HO3.out.alloc _) HN3.out (by have := HLE.out; simp [encH]; omega) (by have := HLE.out; simp; omega) (by simp; omega) ?_); intro v' w4 hown4 hbel4)
        have HO4 := Lib.hid hown4
        have HB4 := Lib.hid ((HB3.out.alloc HB3.out.size _).trans hbel4)
        clear hown4 hbel4
        go_wp2
        exact ⟨⟨k + 1, by omega, by go_num, Lib.hid ⟨by rw [HS.out]; exact HO4.out, HB4.out⟩⟩, by simp [intOf]; omega⟩
    · obtain rfl : k = n0 := by omega
      go_wp2
      go_ret
      exact ⟨⟨_, rfl, HJ.out.1.els HF.out⟩, HB1.out.trans (HJ.out.2.mono HB1.out.size)⟩
end Go.Proofs.YtjikabalpejmlaaDoor
