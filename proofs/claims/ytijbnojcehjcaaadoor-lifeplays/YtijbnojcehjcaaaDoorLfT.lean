/-
  Contract of turnspitref07's Play, of every word and every row of events.
-/
import Derived.Test.YtijbnojcehjcaaaDoorLfS
import Derived.Deep.RegionWith
namespace Go.Proofs.YtijbnojcehjcaaaDoor
open Go.RowKit Go.Joins Go.Maps Pk Lf

theorem rplay_nil (w : Int) (a : Option Addr) (cap : Nat) (W : World) :
    Calls Tryd.prog 20 #[.int .u64 w, .slice a 0 cap] W fun e w' => e = .returned (.tuple #[.int .u64 w, .int .i64 0]) ∧ Below W.heap.size W w' := by
  go_enter Tryd.func20, Tryd.ntmps20
  go_wp2
  go_loop [0, 6] (fun s i => s = .int .u64 w ∧ i = .int .i64 0) (fun _ _ => 0)
  case atStart => exact ⟨rfl, rfl⟩
  case round =>
    obtain ⟨rfl, rfl⟩ := hrel
    go_wp2
    go_ret2
    exact ⟨rfl, Below.refl _ _⟩

theorem rnext_at {w ev cpu v' e' : Int} (hv : nxW w ev cpu = v') (he : nxE w ev cpu = e') (hw : U w) (W : World) :
    Calls Tryd.prog 11 #[.int .u64 w, .int .i64 ev, .int .i64 cpu] W fun e w' => e = .returned (.tuple #[.int .u64 v', .int .i64 e']) ∧ Below W.heap.size W w' := by
  subst hv he
  exact rnext_any w ev cpu hw W
theorem drew_below {w w' : World} (h : Below w.drew.heap.size w.drew w') : Below w.heap.size w w' := ⟨h.os, h.tape, h.output, h.size, h.block⟩

set_option maxHeartbeats 4000000 in
theorem rplay_some (w : Int) (hw : U w) (l : List (Int × Int)) (bl off cap : Nat) (W : World) (hp : 0 < l.length) (hm : l.length ≤ maxLen) (hbl : bl < W.heap.size)
    (hc : ∀ i, i < l.length → W.cell? ⟨bl, off + i * 2, none⟩ = some (.int .i64 (l.getD i (0, 0)).1) ∧ W.cell? ⟨bl, off + i * 2 + 1, none⟩ = some (.int .i64 (l.getD i (0, 0)).2)) :
    Calls Tryd.prog 20 #[.int .u64 w, .slice (some ⟨bl, off, none⟩) l.length cap] W fun e w' => e = .returned (.tuple #[.int .u64 (pl w l).1, .int .i64 ((pl w l).2 : Nat)]) ∧ Below W.heap.size W w' := by
  obtain ⟨n, hn⟩ : ∃ n, l.length = n := ⟨_, rfl⟩
  have hl : n ≤ 9223372036854775807 := by rw [← hn]; unfold maxLen at hm; omega
  have HN := Lib.hid hn
  have HU := Lib.hid hw
  rw [hn] at hp hc ⊢
  have HC := Lib.hid hc
  clear hm hn hw hc
  go_enter Tryd.func20, Tryd.ntmps20
  go_wp2
  go_loopw [0, 6] (fun s i wr => ∃ (k : Nat) (v : Int), k ≤ n ∧ s = .int .u64 v ∧ U v ∧ i = .int .i64 k ∧ pl w (l.take k) = (v, k) ∧ Below W.heap.size W wr) (fun _ i _ => n - (intOf i).toNat)
  case atStart => exact ⟨0, w, by omega, rfl, HU.out, rfl, rfl, Below.refl _ _⟩
  case round =>
    obtain ⟨k, v, hk, rfl, hv, rfl, hpl, hnx⟩ := hrel
    have HV := Lib.hid hv
    have HP := Lib.hid hpl
    have HX := Lib.hid hnx
    by_cases hlt : k < n
    · have hck : wr.cell? ⟨bl, off + k * 2, none⟩ = some (.int .i64 (l.getD k (0, 0)).1) := (hnx.cell (p := ⟨bl, off + k * 2, none⟩) hbl).trans (HC.out k hlt).1
      have hck' : wr.cell? ⟨bl, off + k * 2 + 1, none⟩ = some (.int .i64 (l.getD k (0, 0)).2) := (hnx.cell (p := ⟨bl, off + k * 2 + 1, none⟩) hbl).trans (HC.out k hlt).2
      clear hv hpl hnx
      obtain ⟨⟨ev, cpu⟩, hx⟩ : ∃ x, l.getD k (0, 0) = x := ⟨_, rfl⟩
      have hk' : k < l.length := by have := HN.out; omega
      have HST := Lib.hid (fun h => pl_step (w := w) (v := v) hk' HP.out h)
      have HEN := Lib.hid (fun h => pl_end (w := w) (v := v) hk' HP.out h)
      rw [hx] at hck hck' HST HEN
      clear hx hk' HP
      dsimp only at hck hck' HST HEN
      have HN2 := Lib.hid (nx_U (w := v) (ev := ev) (cpu := cpu))
      obtain ⟨v', hv'⟩ : ∃ x, nxW v ev cpu = x := ⟨_, rfl⟩
      have HV' := Lib.hid hv'
      clear hv'
      rw [HV'.out] at HN2 HST
      by_cases he : nxE v ev cpu = 0
      · have HS2 := Lib.hid (HST.out he)
        have HE0 := Lib.hid he
        clear he HST HEN
        go_wp2
        go_region_with (go_at_call 11; refine (rnext_at HV'.out HE0.out HV.out _).mono ?_; rintro e' w2 ⟨rfl, h2⟩)
        all_goals
          have H2 := Lib.hid (bOn HX.out (drew_below h2))
          clear h2
          go_wp2
          exact ⟨⟨k + 1, v', by omega, rfl, HN2.out, by go_num, HS2.out, H2.out⟩, by simp [intOf]; omega⟩
      · have HE2 := Lib.hid (HEN.out he)
        obtain ⟨er, her⟩ : ∃ x, nxE v ev cpu = x := ⟨_, rfl⟩
        have HE0 := Lib.hid her
        have he' : (er != 0) = true := by rw [← her]; simpa using he
        clear he her HST HEN
        go_wp2
        go_region_with (go_at_call 11; refine (rnext_at HV'.out HE0.out HV.out _).mono ?_; rintro e' w2 ⟨rfl, h2⟩)
        all_goals
          have H2 := Lib.hid (bOn HX.out (drew_below h2))
          clear h2
          go_wp2
          go_ret2
          exact ⟨by rw [HE2.out]; rfl, H2.out⟩
    · obtain rfl : k = n := by omega
      have HE2 : Hid (pl w l = (v, k)) := Lib.hid (by
        have := HP.out
        rwa [List.take_of_length_le (by have := HN.out; omega)] at this)
      clear hv hpl hnx HP
      go_wp2
      go_ret2
      exact ⟨by rw [HE2.out]; rfl, HX.out⟩

/-- **Play** of the document's own answers, of every word and every row of events. -/
theorem rplay_any (w : Int) (hw : U w) (l : List (Int × Int)) (v : Value) (W : World) (hP : Prs W v l) :
    Calls Tryd.prog 20 #[.int .u64 w, v] W fun e w' => e = .returned (.tuple #[.int .u64 (pl w l).1, .int .i64 ((pl w l).2 : Nat)]) ∧ Below W.heap.size W w' := by
  rcases hP.parts with ⟨rfl, a, cap, rfl⟩ | ⟨hp, hm, b, off, cap, rfl, hb, hc⟩
  · exact rplay_nil w a cap W
  · exact rplay_some w hw l b off cap W hp hm hb hc
end Go.Proofs.YtijbnojcehjcaaaDoor
