/-
  turnspitlaw07.run: the words of a run.
-/
import Derived.Test.YtijbnojcehjcaaaDoorLfV
import Derived.Test.YtijbnojcehjcaaaDoorLfN
import Derived.Laws.OwnMore
namespace Go.Proofs.YtijbnojcehjcaaaDoor
open Go.RowKit Go.Joins Go.Maps Pk Lf

theorem u64_wf {n : Int} (h : U n) : (Lit.int .u64 n).wf = true := by
  unfold U at h
  simp only [Lit.wf, IntKind.min, IntKind.max, IntKind.signed, IntKind.bits, Bool.and_eq_true]
  constructor
  · simpa using h.1
  · have := h.2; simp; omega
/-- A slice of one number, just laid, is the call's own. -/
theorem own_lit {k : IntKind} (w : World) (B : Nat) (e : TypeId) (x : Int) (hB : B ≤ w.heap.size) : Own k (w.alloc (.cells #[.int k x] e)) B e (.slice (some ⟨w.heap.size, 0, none⟩) 1 1) [x] :=
  World.ownsRow_lit w #[.int k x] 1 hB (by unfold maxLen; omega) rfl
/-- A slice of one pair, just laid, is the call's own. -/
theorem ownP_lit (w : World) (B : Nat) (e : TypeId) (x : Int × Int) (hB : B ≤ w.heap.size) : OwnP (w.alloc (.cells #[.int .i64 x.1, .int .i64 x.2] e)) B e (.slice (some ⟨w.heap.size, 0, none⟩) 1 1) [x] :=
  World.ownsRow_lit w #[.int .i64 x.1, .int .i64 x.2] 1 hB (by unfold maxLen; omega) rfl

set_option maxHeartbeats 4000000 in
theorem run_any (w : Int) (hw : U w) (l : List (Int × Int)) (bl off cap : Nat) (W : World) (hT : Tab W) (hp : 0 < l.length) (hm : l.length ≤ 1000) (hbl : bl < W.heap.size)
    (hwf : ∀ x ∈ l, (Lit.int .i64 x.1).wf = true ∧ (Lit.int .i64 x.2).wf = true)
    (hc : ∀ i, i < l.length → W.cell? ⟨bl, off + i * 2, none⟩ = some (.int .i64 (l.getD i (0, 0)).1) ∧ W.cell? ⟨bl, off + i * 2 + 1, none⟩ = some (.int .i64 (l.getD i (0, 0)).2)) :
    Calls Tryd.prog 23 #[.int .u64 w, .slice (some ⟨bl, off, none⟩) l.length cap] W fun e w' => (∃ u, e = .returned u ∧ Own .u64 w' W.heap.size 22 u (runSt w l).2) ∧ Below W.heap.size W w' := by
  obtain ⟨n, hn⟩ : ∃ n, l.length = n := ⟨_, rfl⟩
  have HN := Lib.hid hn
  have HT := Lib.hid hT
  have HU := Lib.hid hw
  have HW := Lib.hid hwf
  have HRL := Lib.hid (run_len w l)
  have HRU := Lib.hid (run_U hw l)
  rw [hn] at hp hc hm ⊢
  have HC := Lib.hid hc
  have HS0 : Hid (Own .u64 (W.alloc (.cells #[.int .u64 w] 22)) W.heap.size 22 (.slice (some ⟨W.heap.size, 0, none⟩) 1 1) (runSt w (l.take 0)).2) := Lib.hid (by
    have e0 : (runSt w (l.take 0)).2 = [w] := by simp [runSt]
    rw [e0]; exact own_lit W _ _ w (Nat.le_refl _))
  clear hn hT hw hwf hc
  go_enter Tryd.func23, Tryd.ntmps23
  go_wp2
  go_loopw [0, 5, 6] (fun s u i wr => ∃ k : Nat, k ≤ n ∧ s = .int .u64 (runSt w (l.take k)).1 ∧ Own .u64 wr W.heap.size 22 u (runSt w (l.take k)).2 ∧ i = .int .i64 k ∧ Below W.heap.size W wr) (fun _ _ i _ => n - (intOf i).toNat)
  case atStart => exact ⟨0, by omega, by simp [runSt], HS0.out, rfl, by go_grown⟩
  case round =>
    obtain ⟨k, hk, rfl, hown, rfl, hnx⟩ := hrel
    have HO := Lib.hid hown
    have HX := Lib.hid hnx
    have HTr := Lib.hid (HT.out.below hnx)
    have HUv := Lib.hid (HRU.out k (by have := HN.out; omega)).1
    by_cases hlt : k < n
    · have hck : wr.cell? ⟨bl, off + k * 2, none⟩ = some (.int .i64 (l.getD k (0, 0)).1) := (hnx.cell (p := ⟨bl, off + k * 2, none⟩) hbl).trans (HC.out k hlt).1
      have hck' : wr.cell? ⟨bl, off + k * 2 + 1, none⟩ = some (.int .i64 (l.getD k (0, 0)).2) := (hnx.cell (p := ⟨bl, off + k * 2 + 1, none⟩) hbl).trans (HC.out k hlt).2
      have HWF := Lib.hid (getD_wf HW.out (k := k) (by have := HN.out; omega))
      have HSN := Lib.hid (runSt_snoc w l k (by have := HN.out; omega))
      have HLEN := Lib.hid (HRL.out k (by have := HN.out; omega))
      clear hown hnx
      obtain ⟨⟨ev, cp⟩, hx⟩ : ∃ x, l.getD k (0, 0) = x := ⟨_, rfl⟩
      rw [hx] at hck hck' HWF HSN
      clear hx
      dsimp only at hck hck' HWF
      obtain ⟨⟨v, ys⟩, hst⟩ : ∃ x, runSt w (l.take k) = x := ⟨_, rfl⟩
      rw [hst] at HSN HLEN HO HUv ⊢
      clear hst
      dsimp only at HLEN HO HUv ⊢
      obtain ⟨v', hv'⟩ : ∃ x, nxW v ev cp = x := ⟨_, rfl⟩
      have HV' := Lib.hid hv'
      obtain ⟨er, her⟩ : ∃ x, nxE v ev cp = x := ⟨_, rfl⟩
      have HE0 := Lib.hid her
      have HU' : Hid (U v') := Lib.hid (by rw [← hv']; exact nx_U)
      by_cases he : er = 0
      · subst he
        have HR : Hid (runSt w (l.take (k + 1)) = (v', ys ++ [v'])) := Lib.hid (by rw [HSN.out, rs_yes (s := (v, ys)) (x := (ev, cp)) her]; simp only [hv'])
        clear hv' her
        go_wp2
        go_region_with (go_at_call 10; refine (next_at HV'.out HE0.out HUv.out HWF.out _ ?_).mono ?_; exact tab_drew HTr.out; rintro e' w3 ⟨rfl, h3⟩)
        all_goals
          have HO3 := Lib.hid (HO.out.below (drew_below' h3))
          have H3 := Lib.hid (bOn HX.out (drew_below' h3))
          have HI := Lib.hid (ints_new (k := .u64) w3 22 [v'] (by unfold maxLen; simp) (by intro y hy; simp at hy; subst hy; exact u64_wf HU'.out))
          clear h3 hck hck'
          go_wp2_with (at_builtin; (refine wpList_append_ints (k := .u64) (bytes := 8) rfl (.tmp 35) (.tmp 37) 42 rfl W.heap.size 22 Tryd.underlying42 info_u64 (by decide) ys [v'] (HO3.out.alloc _) HI.out (by have := HLEN.out; simp only [List.length_cons, List.length_nil]; omega) (by have := H3.out.size; simp; omega) ?_); intro u4 w4 hown4 hbel4)
          have HO4 := Lib.hid hown4
          have H4 : Hid (Below W.heap.size W w4) := Lib.hid ((H3.out.alloc H3.out.size _).trans hbel4)
          clear hown4 hbel4
          exact ⟨⟨k + 1, by omega, by rw [HR.out], by rw [HR.out]; exact HO4.out, by go_num, H4.out⟩, by simp [intOf]; omega⟩
      · have he' : (er == 0) = false := by simpa using he
        have HR : Hid (runSt w (l.take (k + 1)) = (v, ys)) := Lib.hid (by rw [HSN.out, rs_no (s := (v, ys)) (x := (ev, cp)) (by rw [← her] at he; exact he)])
        clear hv' her he
        go_wp2
        go_region_with (go_at_call 10; refine (next_at HV'.out HE0.out HUv.out HWF.out _ ?_).mono ?_; exact tab_drew HTr.out; rintro e' w3 ⟨rfl, h3⟩)
        all_goals
          have HO3 := Lib.hid (HO.out.below (drew_below' h3))
          have H3 := Lib.hid (bOn HX.out (drew_below' h3))
          clear h3 hck hck'
          go_wp2
          exact ⟨⟨k + 1, by omega, by rw [HR.out], by rw [HR.out]; exact HO3.out, by go_num, H3.out⟩, by simp [intOf]; omega⟩
    · obtain rfl : k = n := by omega
      have HE : Hid (l.take k = l) := Lib.hid (List.take_of_length_le (by have := HN.out; omega))
      clear hown hnx
      go_wp2
      go_ret
      exact ⟨⟨_, rfl, by have := HO.out; rwa [HE.out] at this⟩, HX.out⟩
end Go.Proofs.YtijbnojcehjcaaaDoor
