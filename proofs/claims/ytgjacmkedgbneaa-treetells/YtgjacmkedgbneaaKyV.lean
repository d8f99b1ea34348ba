/-
  Contracts of turnspitref08's put of no keys, Sort, Put and Drop: the document's own answers for keys.
-/
import Derived.Test.YtgjacmkedgbneaaKyU
namespace Go.Proofs.Ytgjacmkedgbneaa
open Go.RowKit Go.Sort Wd Tn Ky

set_option maxHeartbeats 400000 in
theorem rput_none (m : Int) (a : Option Addr) (cap : Nat) (k : K) (hkin : Kin k) (W : World) :
    Calls Try.prog 56 #[.int .u64 m, .slice a 0 cap, .agg #[.int .u64 k.1, .int .i64 k.2]] W fun e w' => (∃ v', e = .returned v' ∧ Keys w' v' [k]) ∧ Below W.heap.size W w' := by
  have HK := Lib.hid hkin
  have HS : Hid ((W.alloc (.cells #[.int .u64 k.1, .int .i64 k.2] 27)).heap.size = W.heap.size + 1) := Lib.hid (by simp)
  obtain ⟨g0, g1, -, -, -⟩ := (Kb.new W k).all
  clear hkin
  go_enter Try.func56, Try.ntmps56
  go_wp2
  refine wp_loop_rounds 1 ?_
  rw [rounds_succ]
  go_wp2_with (at_builtin; refine wpList_append_keys rfl (.tmp 42) (.tmp 44) 38 rfl (W.heap.size + 1) 27 Try.underlying38 info_key (by decide) [] [k] (OwnK.nil _ _ _) (by have h := one_new (W.alloc (.cells #[.int .u64 k.1, .int .i64 k.2] 27)) k HK.out; rw [HS.out] at h; exact h) (by simp) (by simp) ?_; intro v2 w2 hO2 hb2)
  go_ret
  exact ⟨⟨_, rfl, hO2.keys (by simpa using HK.out)⟩, (((Below.refl _ _).alloc (Nat.le_refl _) _).alloc (by simp) _).trans (hb2.mono (by omega))⟩
theorem rput_any (m : Int) {W : World} {v : Value} {l : List K} (k : K) (hkin : Kin k) (h : Keys W v l) (hl : l.length ≤ 1000) :
    Calls Try.prog 56 #[.int .u64 m, v, .agg #[.int .u64 k.1, .int .i64 k.2]] W fun e w' => (∃ v', e = .returned v' ∧ Keys w' v' (insK m k l)) ∧ Below W.heap.size W w' := by
  rcases h.parts with ⟨rfl, a, cap, rfl⟩ | ⟨hp, b, off, cap, rfl, hcap, hb, hc⟩
  · exact rput_none m a cap k hkin W
  · exact rput_some m k hkin hl h.kin hb hc

theorem atI_in {id : Int} {l : List K} (h : idxK id l < l.length) : atI id l = (idxK id l : Int) := by unfold atI; rw [if_pos h]
theorem atI_out {id : Int} {l : List K} (h : ¬ idxK id l < l.length) : atI id l = -1 := by unfold atI; rw [if_neg h]
theorem nil_keys (w : World) : Keys w (.slice none 0 0) [] := ⟨none, 0, rfl, ⟨Nat.le_refl _, Nat.zero_le _⟩, by simp, fun h => absurd rfl h⟩

set_option maxHeartbeats 400000 in
theorem rputs_any (m : Int) {W : World} {v : Value} {l : List K} (k : K) (hkin : Kin k) (h : Keys W v l) (hl : l.length ≤ 1000) :
    Calls Try.prog 30 #[.int .u64 m, v, .agg #[.int .u64 k.1, .int .i64 k.2]] W fun e w' => (∃ v', e = .returned (.tuple #[v', .int .i64 (putE m l k)]) ∧ Keys w' v' (putL m l k)) ∧ Below W.heap.size W w' := by
  have HKIN := Lib.hid hkin
  have HK := Lib.hid (h.below ((Below.refl _ _).alloc (Nat.le_refl _) (.cells #[.int .u64 k.1, .int .i64 k.2] 27)))
  have HB0 : Hid (Below W.heap.size W (W.alloc (.cells #[.int .u64 k.1, .int .i64 k.2] 27))) := Lib.hid ((Below.refl _ _).alloc (Nat.le_refl _) _)
  have HS := Lib.hid (rsorted_any m HK.out)
  clear h hkin
  by_cases hok : okK m l
  · rw [decide_eq_true hok] at HS
    have HOK := Lib.hid hok
    by_cases hin : idxK k.2 l < l.length
    · have HA : Hid (∀ X, Gr (W.alloc (.cells #[.int .u64 k.1, .int .i64 k.2] 27)) X → Calls Try.prog 55 #[v, .int .i64 k.2] X fun e w' => e = .returned (.int .i64 (idxK k.2 l : Nat)) ∧ X = w') := Lib.hid (fun X hX => by rw [← atI_in hin]; exact at_any k.2 (HK.out.below hX.below))
      obtain ⟨e1, e2⟩ := put_has hok hin
      have HE := Lib.hid (And.intro e1 e2)
      clear e1 e2 hok
      go_enter Try.func30, Try.ntmps30
      go_wp2_with fail
      refine HS.out.mono ?_
      rintro e' w1 ⟨rfl, hg⟩
      obtain ⟨g0, g1, -, -, -⟩ := ((Kb.new W k).gr hg).all
      have HA1 := Lib.hid (HA.out w1 hg)
      have HB1 := Lib.hid (bOn HB0.out hg.below)
      clear hg
      go_wp2_with fail
      refine HA1.out.mono ?_
      rintro e' w2 ⟨rfl, rfl⟩
      go_wp2
      go_ret2
      exact ⟨⟨.slice none 0 0, by rw [HE.out.1]; rfl, by rw [HE.out.2]; exact nil_keys _⟩, HB1.out⟩
    · have HA : Hid (∀ X, Gr (W.alloc (.cells #[.int .u64 k.1, .int .i64 k.2] 27)) X → Calls Try.prog 55 #[v, .int .i64 k.2] X fun e w' => e = .returned (.int .i64 (-1)) ∧ X = w') := Lib.hid (fun X hX => by rw [← atI_out hin]; exact at_any k.2 (HK.out.below hX.below))
      have HP : Hid (∀ X, Gr (W.alloc (.cells #[.int .u64 k.1, .int .i64 k.2] 27)) X → Calls Try.prog 56 #[.int .u64 m, v, .agg #[.int .u64 k.1, .int .i64 k.2]] X fun e w' => (∃ v', e = .returned v' ∧ Keys w' v' (insK m k l)) ∧ Below X.heap.size X w') := Lib.hid (fun X hX => rput_any m k HKIN.out (HK.out.below hX.below) hl)
      obtain ⟨e1, e2⟩ := put_new hok hin
      have HE := Lib.hid (And.intro e1 e2)
      clear e1 e2 hok hin
      go_enter Try.func30, Try.ntmps30
      go_wp2_with fail
      refine HS.out.mono ?_
      rintro e' w1 ⟨rfl, hg⟩
      obtain ⟨g0, g1, -, -, -⟩ := ((Kb.new W k).gr hg).all
      have HA1 := Lib.hid (HA.out w1 hg)
      have HP1 := Lib.hid (HP.out w1 hg)
      have HB1 := Lib.hid (bOn HB0.out hg.below)
      clear hg
      go_wp2_with fail
      refine HA1.out.mono ?_
      rintro e' w2 ⟨rfl, rfl⟩
      go_wp2_with fail
      refine HP1.out.mono ?_
      rintro e' w2 ⟨⟨v2, rfl, hK2⟩, hb2⟩
      have HB2 := Lib.hid (bOn HB1.out hb2)
      go_wp2
      go_ret2
      exact ⟨⟨v2, by rw [HE.out.1]; rfl, by rw [HE.out.2]; exact hK2⟩, HB2.out⟩
  · rw [decide_eq_false hok] at HS
    obtain ⟨e1, e2⟩ := put_unsorted hok k
    have HE := Lib.hid (And.intro e1 e2)
    clear e1 e2
    go_enter Try.func30, Try.ntmps30
    go_wp2_with fail
    refine HS.out.mono ?_
    rintro e' w1 ⟨rfl, hg⟩
    go_wp2
    go_ret2
    exact ⟨⟨.slice none 0 0, by rw [HE.out.1]; rfl, by rw [HE.out.2]; exact nil_keys _⟩, bOn HB0.out hg.below⟩
end Go.Proofs.Ytgjacmkedgbneaa
