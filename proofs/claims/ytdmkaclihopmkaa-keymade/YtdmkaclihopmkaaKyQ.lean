/-
  Contract of the law's Made: keys by numbers, near a least time, each Id once, at most 40.
-/
import Derived.Test.YtdmkaclihopmkaaKyW
import Derived.Test.YtdmkaclihopmkaaKyN
namespace Go.Proofs.Ytdmkaclihopmkaa
open Go.RowKit Go.Sort Wd Tn Ky

/-- The block n holds, for each Id, whether it was met. -/
def Seen (w : World) (n : Nat) (l : List K) : Prop := ∀ j : Nat, j < 64 → w.cell? ⟨n, j, none⟩ = some (.bool (decide ((j : Int) ∈ idsK l))) ∧ w.frozen? ⟨n, j, none⟩ = false
theorem Seen.below {w w' : World} {n B : Nat} {l : List K} (h : Seen w n l) (hb : Below B w w') (hn : n < B) : Seen w' n l := fun j hj => by
  rw [hb.cell (p := ⟨n, j, none⟩) hn, hb.frozen (p := ⟨n, j, none⟩) hn]
  exact h j hj
theorem Seen.lt {w : World} {n : Nat} {l : List K} (h : Seen w n l) : n < w.heap.size := World.block_lt_of_cell? w _ (h 0 (by decide)).1
theorem Seen.more {w : World} {n i : Nat} {l : List K} {x : K} (h : Seen w n l) (hi : i < 64) (hx : x.2 = (i : Int)) : Seen (w.setCell ⟨n, i, none⟩ (.bool true)) n (l ++ [x]) := fun j hj => by
  rw [World.frozen?_setCell]
  refine ⟨?_, (h j hj).2⟩
  by_cases e : j = i
  · subst e
    rw [World.cell?_setCell_same _ _ _ (h j hj).1, decide_eq_true (by simp [idsK, hx])]
  · rw [World.cell?_setCell_other _ _ _ _ (fun e2 => e (by simpa using e2.symm)), (h j hj).1]
    congr 2
    rw [decide_eq_decide]
    simp only [idsK, List.map_append, List.map_cons, List.map_nil, List.mem_append, List.mem_cons, List.not_mem_nil, or_false, hx]
    constructor
    · exact Or.inl
    · rintro (h1 | h1)
      · exact h1
      · exact absurd (Int.ofNat.inj h1) e
theorem Seen.new (W : World) : Seen (W.alloc (.cells (Array.replicate 64 (.bool false)) 65)) W.heap.size [] := fun j hj => by
  refine ⟨?_, World.frozen?_alloc_at _ _ _ _ rfl⟩
  rw [World.cell?_alloc_at _ _ _ _ rfl]
  simp [idsK, hj]

theorem OwnK.set {w : World} {B : Nat} {e : TypeId} {v u : Value} {l : List K} {p : Addr} (h : OwnK w B e v l) (hp : p.block < B) : OwnK (w.setCell p u) B e v l := by
  obtain ⟨h1, h2⟩ := h
  refine ⟨h1, ?_⟩
  rcases h2 with h2 | ⟨g, cap, cur, hv, hB, hg, rest⟩
  · exact .inl h2
  · exact .inr ⟨g, cap, cur, hv, hB, by rw [Below.heap_setCell _ _ _ _ (by omega)]; exact hg, rest⟩
theorem mkK_walk {m z : Int} {i : Nat} (h0 : 0 ≤ z) (h1 : z ≤ 65535) (hi : z % 64 = (i : Int)) : mkK m z = (IntKind.u64.wrap (IntKind.u64.wrap (m + IntKind.u64.wrap (IntKind.u16.wrap (z.tdiv 64))) - 300), (i : Int)) := by
  have d1 : z.tdiv 64 = z / 64 := Int.tdiv_eq_ediv_of_nonneg h0
  have d2 : IntKind.u16.wrap (z / 64) = z / 64 := by
    simp only [IntKind.wrap, IntKind.signed, IntKind.bits]
    simp
    omega
  have d3 : IntKind.u64.wrap (z / 64) = z / 64 := by rw [wrapM]; unfold M; omega
  unfold mkK
  rw [d1, d2, d3, hi]

set_option maxHeartbeats 800000 in
set_option maxRecDepth 100000 in
theorem made_some (m : Int) (zs : List Int) (b off cap : Nat) (W : World) (hp : 0 < zs.length) (hm : zs.length ≤ maxLen) (hb : b < W.heap.size) (hw : ∀ z ∈ zs, (Lit.int .u16 z).wf = true)
    (hc : ∀ i, i < zs.length → W.cell? ⟨b, off + i, none⟩ = some (.int .u16 (zs.getD i 0))) :
    Calls Try.prog 23 #[.int .u64 m, .slice (some ⟨b, off, none⟩) zs.length cap] W fun e w' => (∃ v', e = .returned v' ∧ Keys w' v' (madeK m zs)) ∧ Below W.heap.size W w' := by
  obtain ⟨n, hn⟩ : ∃ n, zs.length = n := ⟨_, rfl⟩
  have hl : n ≤ 9223372036854775807 := by rw [← hn]; unfold maxLen at hm; omega
  have HN := Lib.hid hn
  have HWF : Hid (∀ z ∈ zs, 0 ≤ z ∧ z ≤ 65535) := Lib.hid (fun z hz => by have := bounds_u16 (hw z hz); omega)
  rw [hn] at hp hc ⊢
  have HC := Lib.hid hc
  have hz64 : ∀ w, (zeroValue 65).run Try.prog w = .ok (.agg (Array.replicate 64 (.bool false))) w := fun w => by kernel_rfl
  clear hm hn hw hc
  go_enter Try.func23, Try.ntmps23
  go_wp2
  go_loopw [5, 7] (fun v i wr => ∃ k : Nat, k ≤ n ∧ k ≤ 40 ∧ i = .int .i64 k ∧ Hid (OwnK wr (W.heap.size + 1) 26 v (foldM m (zs.take k)) ∧ Seen wr W.heap.size (foldM m (zs.take k)) ∧ Below W.heap.size W wr ∧ W.heap.size + 1 ≤ wr.heap.size)) (fun _ i _ => n - (intOf i).toNat)
  case atStart => exact ⟨0, by omega, by omega, rfl, Lib.hid ⟨OwnK.nil _ _ _, Seen.new W, (Below.refl _ _).alloc (Nat.le_refl _) _, by simp⟩⟩
  case round =>
    obtain ⟨k, hk, hk4, rfl, HR⟩ := hrel
    by_cases hlt : k < n ∧ k < 40
    · obtain ⟨hlt, hlt4⟩ := hlt
      have hk' : k < zs.length := by have := HN.out; omega
      obtain ⟨z, hz⟩ : ∃ z, zs.getD k 0 = z := ⟨_, rfl⟩
      have ck := (HR.out.2.2.1.cell (p := ⟨b, off + k, none⟩) hb).trans (HC.out k hlt)
      rw [hz] at ck
      have hzm : z ∈ zs := by rw [← hz]; simp [List.getD, hk']
      obtain ⟨z0, z1⟩ := HWF.out z hzm
      have HT : Hid (foldM m (zs.take (k + 1)) = stepK m (foldM m (zs.take k)) z) := Lib.hid (by
        rw [List.take_add_one, List.getElem?_eq_getElem hk', Option.toList_some, foldM_more]
        congr 1
        rw [← hz]; simp [List.getD, hk'])
      obtain ⟨out, ho⟩ : ∃ out, foldM m (zs.take k) = out := ⟨_, rfl⟩
      have HLN : Hid (out.length ≤ 40) := Lib.hid (by rw [← ho]; exact Nat.le_trans (foldM_len m _) (by rw [List.length_take]; omega))
      have hr := HR.out
      rw [ho] at HT hr
      obtain ⟨i, hi⟩ : ∃ i : Nat, z % 64 = (i : Int) := ⟨(z % 64).toNat, by omega⟩
      have hi64 : i < 64 := by omega
      obtain ⟨s0, s1⟩ := hr.2.1 i hi64
      have HR2 := Lib.hid hr
      have HI := Lib.hid hi
      have HZ : Hid (0 ≤ z ∧ z ≤ 65535) := Lib.hid ⟨z0, z1⟩
      clear hz hzm ho hr hk'
      by_cases hmem : (i : Int) ∈ idsK out
      · rw [decide_eq_true hmem] at s0
        have HE : Hid (stepK m out z = out) := Lib.hid (by unfold stepK; rw [HI.out, if_pos hmem])
        clear hmem
        go_wp2
        exact ⟨⟨k + 1, by omega, by omega, by go_num, Lib.hid (by rw [HT.out, HE.out]; exact HR2.out)⟩, by simp [intOf]; omega⟩
      · rw [decide_eq_false hmem] at s0
        have HE : Hid (stepK m out z = out ++ [mkK m z]) := Lib.hid (by unfold stepK; rw [HI.out, if_neg hmem])
        clear hmem
        obtain ⟨V, hV⟩ : ∃ V, IntKind.u64.wrap (IntKind.u64.wrap (m + IntKind.u64.wrap (IntKind.u16.wrap (z.tdiv 64))) - 300) = V := ⟨_, rfl⟩
        have HMK : Hid (mkK m z = (V, (i : Int))) := Lib.hid (by rw [mkK_walk HZ.out.1 HZ.out.2 HI.out, hV])
        have HKI : Hid (Kin (V, (i : Int))) := Lib.hid (by rw [← HMK.out]; exact (mkK_near HZ.out.1 HZ.out.2).1)
        have HO : Hid (OwnK (wr.setCell ⟨W.heap.size, i, none⟩ (.bool true)) (W.heap.size + 1) 26 u5 out) := Lib.hid (HR2.out.1.set (by show W.heap.size < W.heap.size + 1; omega))
        have HSN : Hid (Seen (wr.setCell ⟨W.heap.size, i, none⟩ (.bool true)) W.heap.size (out ++ [(V, (i : Int))])) := Lib.hid (HR2.out.2.1.more hi64 rfl)
        have HBS : Hid (Below W.heap.size W (wr.setCell ⟨W.heap.size, i, none⟩ (.bool true)) ∧ W.heap.size + 1 ≤ (wr.setCell ⟨W.heap.size, i, none⟩ (.bool true)).heap.size) := Lib.hid ⟨HR2.out.2.2.1.setCell (p := ⟨W.heap.size, i, none⟩) (Nat.le_refl _) _, by have := HR2.out.2.2.2; simp [World.setCell]; omega⟩
        have HKX : Hid (Keys ((wr.setCell ⟨W.heap.size, i, none⟩ (.bool true)).alloc (.cells #[.int .u64 V, .int .i64 (i : Int)] 26)) (.slice (some ⟨wr.heap.size, 0, none⟩) 1 1) [(V, (i : Int))]) := Lib.hid (by
          have := one_new (wr.setCell ⟨W.heap.size, i, none⟩ (.bool true)) (V, (i : Int)) HKI.out
          rw [show (wr.setCell ⟨W.heap.size, i, none⟩ (.bool true)).heap.size = wr.heap.size by simp [World.setCell]] at this
          exact this)
        have HSZ : Hid (W.heap.size + 1 ≤ ((wr.setCell ⟨W.heap.size, i, none⟩ (.bool true)).alloc (.cells #[.int .u64 V, .int .i64 (i : Int)] 26)).heap.size) := Lib.hid (Nat.le_trans HBS.out.2 (Gr.alloc _ _).below.size)
        go_wp2_with (at_builtin; refine wpList_append_keys rfl (.tmp 31) (.tmp 43) 23 rfl (W.heap.size + 1) 26 Try.underlying23 info_key (by decide) out [(V, (i : Int))] (HO.out.alloc _) HKX.out (by have := HLN.out; simp; omega) HSZ.out ?_; intro v2 w2 hO2 hb2)
        have hs2 := (HSN.out.below ((Below.refl _ _).alloc (Nat.le_refl _) (.cells #[.int .u64 V, .int .i64 (i : Int)] 26)) HSN.out.lt).below hb2 (by omega)
        have hB2 : Below W.heap.size W w2 := (HBS.out.1.alloc HBS.out.1.size _).trans (hb2.mono (by omega))
        refine ⟨⟨k + 1, by omega, by omega, by go_num, Lib.hid ?_⟩, by simp [intOf]; omega⟩
        rw [HT.out, HE.out, HMK.out]
        exact ⟨hO2, hs2, hB2, Nat.le_trans HSZ.out hb2.size⟩
    · have HE : Hid (madeK m zs = foldM m (zs.take k)) := Lib.hid (by
        unfold madeK
        have := HN.out
        rcases (show k = 40 ∨ k = n by omega) with e | e
        · rw [e]
        · rw [List.take_of_length_le (by omega), List.take_of_length_le (by omega)])
      have HKN : Hid (∀ x ∈ madeK m zs, Kin x) := Lib.hid (madeK_kin HWF.out)
      have HF : Hid ((∃ v', u5 = v' ∧ Keys wr v' (madeK m zs)) ∧ Below W.heap.size W wr) := Lib.hid ⟨⟨u5, rfl, by rw [HE.out]; exact HR.out.1.keys (fun x hx => HKN.out x (by rw [HE.out]; exact hx))⟩, HR.out.2.2.1⟩
      by_cases hkn : k < n
      · obtain rfl : k = 40 := by omega
        go_wp2
        go_ret
        obtain ⟨⟨v', hv, hK⟩, hB⟩ := HF.out
        exact ⟨⟨u5, rfl, by rw [hv]; exact hK⟩, hB⟩
      · have hd : decide (k < n) = false := decide_eq_false hkn
        go_wp2
        go_ret
        obtain ⟨⟨v', hv, hK⟩, hB⟩ := HF.out
        exact ⟨⟨u5, rfl, by rw [hv]; exact hK⟩, hB⟩

theorem made_none (m : Int) (a : Option Addr) (cap : Nat) (W : World) : Calls Try.prog 23 #[.int .u64 m, .slice a 0 cap] W fun e w' => e = .returned (.slice none 0 0) ∧ Below W.heap.size W w' := by
  go_enter Try.func23, Try.ntmps23
  go_wp2
  refine wp_loop_rounds 1 ?_
  rw [rounds_succ]
  go_wp2
  go_ret
  exact ⟨rfl, (Below.refl _ _).alloc (Nat.le_refl _) _⟩
theorem made_any (m : Int) {W : World} {v : Value} {zs : List Int} (h : Ints .u16 W v zs) :
    Calls Try.prog 23 #[.int .u64 m, v] W fun e w' => (∃ v', e = .returned v' ∧ Keys w' v' (madeK m zs)) ∧ Below W.heap.size W w' := by
  rcases h.parts with ⟨rfl, a, cap, rfl⟩ | ⟨hp, hm, b, off, cap, rfl, hb, hc⟩
  · refine (made_none m a cap W).mono ?_
    rintro e w' ⟨rfl, hb⟩
    exact ⟨⟨_, rfl, nil_keys _⟩, hb⟩
  · exact made_some m zs b off cap W hp hm hb h.wf hc
theorem u16_in {W : World} {v : Value} {zs : List Int} (h : Ints .u16 W v zs) : ∀ z ∈ zs, 0 ≤ z ∧ z ≤ 65535 := fun z hz => by have := bounds_u16 (h.wf z hz); omega
end Go.Proofs.Ytdmkaclihopmkaa
