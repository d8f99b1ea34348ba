/-
  Contracts of life's Play, of every word and every row of events.
-/
import Derived.Test.YtijbnojcehjcaaaDoorLfE
import Derived.Test.YtijbnojcehjcaaaDoorSlP
namespace Go.Proofs.YtijbnojcehjcaaaDoor
open Go.RowKit Go.Joins Go.Maps Pk Lf

theorem take_snoc (l : List (Int × Int)) (k : Nat) (hk : k < l.length) : l.take (k + 1) = l.take k ++ [l.getD k (0, 0)] := by
  rw [List.take_succ_eq_append_getElem hk]
  simp [List.getD, hk]
theorem cut_at (l : List (Int × Int)) (k : Nat) (hk : k < l.length) : l = l.take k ++ l.getD k (0, 0) :: l.drop (k + 1) := by
  have e : l.getD k (0, 0) = l[k] := by simp [List.getD, hk]
  rw [e, ← List.drop_eq_getElem_cons hk, List.take_append_drop]
theorem pl_step {w : Int} {l : List (Int × Int)} {k : Nat} {v : Int} (hk : k < l.length) (h : pl w (l.take k) = (v, k)) (hx : nxE v (l.getD k (0, 0)).1 (l.getD k (0, 0)).2 = 0) :
    pl w (l.take (k + 1)) = (nxW v (l.getD k (0, 0)).1 (l.getD k (0, 0)).2, k + 1) := by
  have hl : (l.take k).length = k := by rw [List.length_take]; omega
  have := pl_snoc (a := l.take k) (x := l.getD k (0, 0)) (by rw [hl]; exact h) hx
  rw [take_snoc l k hk, this, hl]
theorem pl_end {w : Int} {l : List (Int × Int)} {k : Nat} {v : Int} (hk : k < l.length) (h : pl w (l.take k) = (v, k)) (hx : nxE v (l.getD k (0, 0)).1 (l.getD k (0, 0)).2 ≠ 0) :
    pl w l = (v, k) := by
  have hl : (l.take k).length = k := by rw [List.length_take]; omega
  have := pl_stop (a := l.take k) (b := l.drop (k + 1)) (x := l.getD k (0, 0)) (by rw [hl]; exact h) hx
  rw [hl, ← cut_at l k hk] at this
  exact this

theorem play_nil (w : Int) (a : Option Addr) (cap : Nat) (W : World) :
    Calls Tryd.prog 19 #[.int .u64 w, .slice a 0 cap] W fun e w' => e = .returned (.tuple #[.int .u64 w, .int .i64 0]) ∧ Below W.heap.size W w' := by
  go_enter Tryd.func19, Tryd.ntmps19
  go_wp2_with fail
  refine (rules_any _).mono ?_
  rintro e' w1 ⟨⟨b, rfl, hS⟩, h1⟩
  have H1 := Lib.hid h1
  clear h1 hS
  go_wp2
  go_loop [0, 14] (fun s i => s = .int .u64 w ∧ i = .int .i64 0) (fun _ _ => 0)
  case atStart => exact ⟨rfl, rfl⟩
  case round =>
    obtain ⟨rfl, rfl⟩ := hrel
    go_wp2
    go_ret2
    exact ⟨rfl, H1.out⟩

set_option maxHeartbeats 4000000 in
theorem play_some (w : Int) (hw : U w) (l : List (Int × Int)) (bl off cap : Nat) (W : World) (hT : Tab W) (hp : 0 < l.length) (hm : l.length ≤ maxLen) (hbl : bl < W.heap.size)
    (hwf : ∀ x ∈ l, (Lit.int .i64 x.1).wf = true ∧ (Lit.int .i64 x.2).wf = true)
    (hc : ∀ i, i < l.length → W.cell? ⟨bl, off + i * 2, none⟩ = some (.int .i64 (l.getD i (0, 0)).1) ∧ W.cell? ⟨bl, off + i * 2 + 1, none⟩ = some (.int .i64 (l.getD i (0, 0)).2)) :
    Calls Tryd.prog 19 #[.int .u64 w, .slice (some ⟨bl, off, none⟩) l.length cap] W fun e w' => e = .returned (.tuple #[.int .u64 (pl w l).1, .int .i64 ((pl w l).2 : Nat)]) ∧ Below W.heap.size W w' := by
  obtain ⟨n, hn⟩ : ∃ n, l.length = n := ⟨_, rfl⟩
  have hl : n ≤ 9223372036854775807 := by rw [← hn]; unfold maxLen at hm; omega
  have HN := Lib.hid hn
  have HT := Lib.hid hT
  have HU := Lib.hid hw
  have HW := Lib.hid hwf
  rw [hn] at hp hc ⊢
  clear hm hn hT hw hwf
  go_enter Tryd.func19, Tryd.ntmps19
  go_wp2_with fail
  refine (rules_any _).mono ?_
  rintro e' w1 ⟨⟨b, rfl, hS⟩, h1⟩
  have H1 := Lib.hid h1
  have HS := Lib.hid hS
  have HC : Hid (∀ i, i < n → w1.cell? ⟨bl, off + i * 2, none⟩ = some (.int .i64 (l.getD i (0, 0)).1) ∧ w1.cell? ⟨bl, off + i * 2 + 1, none⟩ = some (.int .i64 (l.getD i (0, 0)).2)) := fun i hi => ⟨(h1.cell (p := ⟨bl, off + i * 2, none⟩) hbl).trans (hc i hi).1, (h1.cell (p := ⟨bl, off + i * 2 + 1, none⟩) hbl).trans (hc i hi).2⟩
  have hbl1 : bl < w1.heap.size := Nat.lt_of_lt_of_le hbl h1.size
  clear h1 hS hc hbl
  go_wp2
  go_loopw [0, 14] (fun s i wr => ∃ (k : Nat) (v : Int), k ≤ n ∧ s = .int .u64 v ∧ U v ∧ i = .int .i64 k ∧ pl w (l.take k) = (v, k) ∧ Below w1.heap.size w1 wr) (fun _ i _ => n - (intOf i).toNat)
  case atStart => exact ⟨0, w, by omega, rfl, HU.out, rfl, rfl, Below.refl _ _⟩
  case round =>
    obtain ⟨k, v, hk, rfl, hv, rfl, hpl, hnx⟩ := hrel
    have HV := Lib.hid hv
    have HP := Lib.hid hpl
    have HX := Lib.hid hnx
    by_cases hlt : k < n
    · have hck : wr.cell? ⟨bl, off + k * 2, none⟩ = some (.int .i64 (l.getD k (0, 0)).1) := (hnx.cell (p := ⟨bl, off + k * 2, none⟩) hbl1).trans (HC.out k hlt).1
      have hck' : wr.cell? ⟨bl, off + k * 2 + 1, none⟩ = some (.int .i64 (l.getD k (0, 0)).2) := (hnx.cell (p := ⟨bl, off + k * 2 + 1, none⟩) hbl1).trans (HC.out k hlt).2
      have HS' := Lib.hid (HS.out.below hnx)
      have HT' := Lib.hid (HT.out.below (bOn H1.out hnx))
      clear hv hpl hnx
      obtain ⟨⟨ev, cpu⟩, hx⟩ : ∃ x, l.getD k (0, 0) = x := ⟨_, rfl⟩
      have hk' : k < l.length := by have := HN.out; omega
      have HWF : Hid ((Lit.int .i64 ev).wf = true) := Lib.hid (by
        have e : l.getD k (0, 0) = l[k] := by simp [List.getD, hk']
        have := (HW.out _ (List.getElem_mem hk')).1
        rwa [← e, hx] at this)
      have HST := Lib.hid (fun h => pl_step (w := w) (v := v) hk' HP.out h)
      have HEN := Lib.hid (fun h => pl_end (w := w) (v := v) hk' HP.out h)
      rw [hx] at hck hck' HST HEN
      clear hx hk' HP
      dsimp only at hck hck' HST HEN
      go_wp2_with fail
      refine (step_any b v ev cpu HV.out HWF.out _ (HT'.out.below (by go_grown)) (HS'.out.below (by go_grown))).mono ?_
      rintro e' w_h2 ⟨rfl, h2⟩
      have H2 := Lib.hid (bOn (w := wr) (by go_grown) h2)
      have HN2 := Lib.hid (nx_U (w := v) (ev := ev) (cpu := cpu))
      clear h2
      by_cases he : nxE v ev cpu = 0
      · have HS2 := Lib.hid (HST.out he)
        rw [he]
        clear he HST HEN
        generalize nxW v ev cpu = v' at *
        go_wp2
        exact ⟨⟨k + 1, v', by omega, rfl, HN2.out, by go_num, HS2.out, bOn HX.out H2.out⟩, by simp [intOf]; omega⟩
      · have HE2 := Lib.hid (HEN.out he)
        have he' : (nxE v ev cpu != 0) = true := by simpa using he
        clear he HST HEN
        generalize nxE v ev cpu = er at *
        generalize nxW v ev cpu = v' at *
        go_wp2
        go_ret2
        exact ⟨by rw [HE2.out]; rfl, bOn H1.out (bOn HX.out H2.out)⟩
    · obtain rfl : k = n := by omega
      have HE2 : Hid (pl w l = (v, k)) := Lib.hid (by
        have := HP.out
        rwa [List.take_of_length_le (by have := HN.out; omega)] at this)
      clear hv hpl hnx HP
      go_wp2
      go_ret2
      exact ⟨by rw [HE2.out]; rfl, bOn H1.out HX.out⟩

/-- **Play**, of every word and every row of events. -/
theorem play_any (w : Int) (hw : U w) (l : List (Int × Int)) (v : Value) (W : World) (hT : Tab W) (hP : Prs W v l) :
    Calls Tryd.prog 19 #[.int .u64 w, v] W fun e w' => e = .returned (.tuple #[.int .u64 (pl w l).1, .int .i64 ((pl w l).2 : Nat)]) ∧ Below W.heap.size W w' := by
  have hwf := hP.wf
  rcases hP.parts with ⟨rfl, a, cap, rfl⟩ | ⟨hp, hm, b, off, cap, rfl, hb, hc⟩
  · exact play_nil w a cap W
  · exact play_some w hw l b off cap W hT hp hm hb hwf hc
end Go.Proofs.YtijbnojcehjcaaaDoor
