/-
  Contract of key.Put: the keys with one more, or why not.
-/
import Derived.Test.YtdmkaclihopmkaaKyE
import Derived.Test.YtdmkaclihopmkaaKyF
import Derived.Test.YtdmkaclihopmkaaKyI
import Derived.Test.YtdmkaclihopmkaaKyC
import Derived.Deep.RegionHeld3
namespace Go.Proofs.Ytdmkaclihopmkaa
open Go.RowKit Go.Sort Go.Lib Go.Maps Go.Shelf Wd Tn Ky

set_option maxHeartbeats 400000 in
/-- The closure: is k less than the one at i? -/
theorem ask_gr (m : Int) (k : K) {l : List K} {b off cap : Nat} (bm bk bl : Nat) (X : World) (i : Nat) (hi : i < l.length)
    (hm : X.cell? ⟨bm, 0, none⟩ = some (.int .u64 m)) (hk : Kb X bk k) (hv : X.cell? ⟨bl, 0, none⟩ = some (.slice (some ⟨b, off, none⟩) l.length cap))
    (c0 : X.cell? ⟨b, off + i * 2, none⟩ = some (.int .u64 (l.getD i (0, 0)).1)) (c1 : X.cell? ⟨b, off + i * 2 + 1, none⟩ = some (.int .i64 (l.getD i (0, 0)).2)) :
    Calls Try.prog 32 #[.int .i64 i, .pointer (some ⟨bm, 0, none⟩), .pointer (some ⟨bk, 0, none⟩), .pointer (some ⟨bl, 0, none⟩)] X fun e w' => e = .returned (.bool (ltK m k (l.getD i (0, 0)))) ∧ Gr X w' := by
  have mixed : Try.prog.follows .mixedOrders = true := by kernel_rfl
  obtain ⟨x, hx⟩ : ∃ x, l.getD i (0, 0) = x := ⟨_, rfl⟩
  rw [hx] at c0 c1 ⊢
  clear hx
  obtain ⟨r, hr⟩ : ∃ r, ltK m k x = r := ⟨_, rfl⟩
  rw [hr]
  have f0 : ∀ n os, (grow (X.drewN n) os).cell? ⟨bm, 0, none⟩ = some (.int .u64 m) := fun n os => Gr.cell ⟨n, os, rfl⟩ hm
  have f1 : ∀ n os, (grow (X.drewN n) os).cell? ⟨bk, 0, none⟩ = some (.int .u64 k.1) := fun n os => Gr.cell ⟨n, os, rfl⟩ hk.all.1
  have f2 : ∀ n os, (grow (X.drewN n) os).cell? ⟨bk, 1, none⟩ = some (.int .i64 k.2) := fun n os => Gr.cell ⟨n, os, rfl⟩ hk.all.2.1
  have f3 : ∀ n os, (grow (X.drewN n) os).cell? ⟨bl, 0, none⟩ = some (.slice (some ⟨b, off, none⟩) l.length cap) := fun n os => Gr.cell ⟨n, os, rfl⟩ hv
  have f4 : ∀ n os, (grow (X.drewN n) os).cell? ⟨b, off + i * 2, none⟩ = some (.int .u64 x.1) := fun n os => Gr.cell ⟨n, os, rfl⟩ c0
  have f5 : ∀ n os, (grow (X.drewN n) os).cell? ⟨b, off + i * 2 + 1, none⟩ = some (.int .i64 x.2) := fun n os => Gr.cell ⟨n, os, rfl⟩ c1
  have hcg : ∀ n os, Calls Try.prog 12 #[.int .u64 m, .agg #[.int .u64 k.1, .int .i64 k.2], .agg #[.int .u64 x.1, .int .i64 x.2]] (grow (X.drewN n) os) fun e w' => e = .returned (.bool r) ∧ ∃ q os', w' = grow ((grow (X.drewN n) os).drewN q) os' := fun n os => by
    rw [← hr]; exact less_gr m k x _
  clear hr hm hk hv c0 c1
  go_enter Try.func32, Try.ntmps32
  go_wp2_with fail
  go_quiet_grown (first | (go_at_call 12; refine Calls.grown_of (hcg _ _)))
  go_wp2
  go_ret
  exact ⟨rfl, nq, osq, rfl⟩

set_option maxHeartbeats 400000 in
/-- sort.Search over it. -/
theorem search_gr (m : Int) (k : K) {l : List K} {b off cap : Nat} (bm bk bl : Nat) (X : World) (hl : l.length ≤ 1000) (hok : okK m l)
    (hm : X.cell? ⟨bm, 0, none⟩ = some (.int .u64 m)) (hk : Kb X bk k) (hv : X.cell? ⟨bl, 0, none⟩ = some (.slice (some ⟨b, off, none⟩) l.length cap))
    (hc : ∀ i, i < l.length → X.cell? ⟨b, off + i * 2, none⟩ = some (.int .u64 (l.getD i (0, 0)).1) ∧ X.cell? ⟨b, off + i * 2 + 1, none⟩ = some (.int .i64 (l.getD i (0, 0)).2)) :
    Calls Try.prog 31 #[.int .i64 l.length, .func (.func 32) #[] #[.pointer (some ⟨bm, 0, none⟩), .pointer (some ⟨bk, 0, none⟩), .pointer (some ⟨bl, 0, none⟩)]] X fun e w' => e = .returned (.int .i64 (posK m k l)) ∧ Gr X w' := by
  have eg : ∀ args w, (callFunc 32 args).run Try.prog w = .ok (.enter 32 args) w := enters_of Try.func32 (by kernel_rfl) rfl
  have hcon := Any.sort_Search Try.laySearch 32 #[.pointer (some ⟨bm, 0, none⟩), .pointer (some ⟨bk, 0, none⟩), .pointer (some ⟨bl, 0, none⟩)] l.length (fun i => ltK m k (l.getD i (0, 0))) X eg (by omega)
    (fun n os i hi => by
      have hg : Gr X (grow (X.drewN n) os) := ⟨n, os, rfl⟩
      exact ask_gr m k bm bk bl (grow (X.drewN n) os) i hi (hg.cell hm) (hk.gr hg) (hg.cell hv) (hg.cell (hc i hi).1) (hg.cell (hc i hi).2))
    (fun a b hab hb hp => pos_mono hok a b hab hb hp)
  change Calls Try.prog 31 _ _ _ at hcon
  rw [pos_range] at hcon
  exact hcon
/-- .. of no keys. -/
theorem search_none (fv : Value) (g : Nat) (cb : Array Value) (hfv : fv = .func (.func g) #[] cb) (hg : g = 32) (X : World) :
    Calls Try.prog 31 #[.int .i64 0, fv] X fun e w' => e = .returned (.int .i64 0) ∧ Gr X w' := by
  subst hfv hg
  have eg : ∀ args w, (callFunc 32 args).run Try.prog w = .ok (.enter 32 args) w := enters_of Try.func32 (by kernel_rfl) rfl
  have hcon := Any.sort_Search Try.laySearch 32 cb 0 (fun _ => true) X eg (by omega) (fun n os i hi => absurd hi (Nat.not_lt_zero _)) (fun a b hab hb hp => absurd hb (Nat.not_lt_zero _))
  change Calls Try.prog 31 _ _ _ at hcon
  exact hcon
theorem search_any (m : Int) (k : K) {l : List K} {a : Option Addr} {cap : Nat} (bm bk bl : Nat) (X : World) (hl : l.length ≤ 1000) (hok : okK m l) (h : Keys X (.slice a l.length cap) l)
    (hm : X.cell? ⟨bm, 0, none⟩ = some (.int .u64 m)) (hk : Kb X bk k) (hv : X.cell? ⟨bl, 0, none⟩ = some (.slice a l.length cap)) :
    Calls Try.prog 31 #[.int .i64 l.length, .func (.func 32) #[] #[.pointer (some ⟨bm, 0, none⟩), .pointer (some ⟨bk, 0, none⟩), .pointer (some ⟨bl, 0, none⟩)]] X fun e w' => e = .returned (.int .i64 (posK m k l)) ∧ Gr X w' := by
  rcases h.parts with ⟨rfl, a', cap', he⟩ | ⟨hp, b, off, cap', he, -, hb, hc⟩
  · exact search_none _ _ _ rfl rfl X
  · simp only [Value.slice.injEq] at he
    obtain ⟨rfl, -, rfl⟩ := he
    exact search_gr m k bm bk bl X hl hok hm hk hv hc

theorem ins_at {X : World} {U vb : Nat} {v3 : Value} {l : List K} {m : Int} {k : K} (hO : OwnK X U 26 v3 l) (h1 : Kb X vb k) (hne : v3.ownBlock ≠ some vb) (hU : U ≤ X.heap.size) (hok : okK m l) (hk : ∀ x ∈ l, Kin x) (hkk : Kin k) (hl : l.length ≤ 1000) :
    Calls Try.prog 33 #[v3, .int .i64 (posK m k l), .slice (some ⟨vb, 0, none⟩) 1 1] X fun e w' => (∃ v', e = .returned v' ∧ Keys w' v' (insK m k l)) ∧ Below U X w' := by
  rw [insK_pos hok]
  exact insert_any hO hU hk hl k hkk vb h1 hne (posK m k l) (posK_le m k l)
theorem own_behind {w : World} {U : Nat} {v : Value} {l : List K} (h : OwnK w U 26 v l) : v.ownBlock ≠ some w.heap.size := fun e => absurd ((World.ownsRow.lt h _ e).2) (Nat.lt_irrefl _)
theorem own_ahead {w : World} {U vb : Nat} {v : Value} {l : List K} (h : OwnK w U 26 v l) (hv : vb < U) : v.ownBlock ≠ some vb := fun e => by
  have := (World.ownsRow.lt h _ e).1
  omega

/-- What Put tells. -/
def PutSays (W : World) (m : Int) (l : List K) (k : K) (e : Ending) (w' : World) : Prop :=
  (∃ v', e = .returned (.tuple #[v', .int .i64 (putE m l k)]) ∧ Keys w' v' (putL m l k)) ∧ Below W.heap.size W w'
theorem keys_nil (w : World) : Keys w (.slice none 0 0) [] := ⟨none, 0, rfl, ⟨Nat.le_refl _, Nat.zero_le _⟩, by simp, fun h => absurd rfl h⟩

set_option maxHeartbeats 400000 in
set_option maxRecDepth 100000 in
theorem put_any (m : Int) {W : World} {v : Value} {l : List K} (k : K) (hkin : Kin k) (h : Keys W v l) (hl : l.length ≤ 1000) :
    Calls Try.prog 19 #[.int .u64 m, v, .agg #[.int .u64 k.1, .int .i64 k.2]] W (PutSays W m l k) := by
  have HIN := Lib.hid h.kin
  have HKIN := Lib.hid hkin
  have h0 := h
  obtain ⟨a, cap, rfl, -⟩ := h0
  obtain ⟨W3, hW3⟩ : ∃ W3, W3 = ((W.alloc (.cells #[.int .u64 m] 22)).alloc (.cells #[.slice a l.length cap] 23)).alloc (.cells #[.int .u64 k.1, .int .i64 k.2] 26) := ⟨_, rfl⟩
  have hg3 : Gr W W3 := hW3 ▸ ((Gr.alloc _ _).trans (Gr.alloc _ _)).trans (Gr.alloc _ _)
  have HB3 := Lib.hid hg3.below
  have hs1 : (W.alloc (.cells #[.int .u64 m] 22)).heap.size = W.heap.size + 1 := by simp
  have hs2 : ((W.alloc (.cells #[.int .u64 m] 22)).alloc (.cells #[.slice a l.length cap] 23)).heap.size = W.heap.size + 1 + 1 := by simp
  have hs3 : W3.heap.size = W.heap.size + 3 := by rw [hW3]; simp
  have HB : Hid (W3.cell? ⟨W.heap.size, 0, none⟩ = some (.int .u64 m) ∧ W3.cell? ⟨W.heap.size + 1, 0, none⟩ = some (.slice a l.length cap) ∧ Kb W3 (W.heap.size + 1 + 1) k) := by
    refine Lib.hid ⟨?_, ?_, ?_⟩
    · rw [hW3]
      exact cell_alloc_sl _ (cell_alloc_sl _ (cell_new_sl _ _ _))
    · rw [hW3]
      have := cell_new_sl (W.alloc (.cells #[.int .u64 m] 22)) (.slice a l.length cap) 23
      rw [hs1] at this
      exact cell_alloc_sl _ this
    · have := Kb.new ((W.alloc (.cells #[.int .u64 m] 22)).alloc (.cells #[.slice a l.length cap] 23)) k
      rw [hs2] at this
      rw [hW3]
      exact this
  have HK := Lib.hid (h.below hg3.below)
  have HMET := Lib.hid (met_any m HK.out hl)
  have HW3 := Lib.hid hW3
  clear h hkin hg3 hs1 hs2 hW3
  go_enter Try.func19, Try.ntmps19
  go_wp2_with fail
  rw [← HW3.out]
  refine HMET.out.mono ?_
  rintro e' w1 ⟨⟨hok, bmap, rfl, hM, hbm⟩ | ⟨hno, rfl⟩, hb1⟩
  · have HOK := Lib.hid hok
    have HM := Lib.hid hM
    have HB1 := Lib.hid hb1
    clear hok hM hb1
    have HX : Hid (∀ X, Below w1.heap.size w1 X → X.cell? ⟨W.heap.size, 0, none⟩ = some (.int .u64 m) ∧ X.cell? ⟨W.heap.size + 1, 0, none⟩ = some (.slice a l.length cap) ∧ Kb X (W.heap.size + 1 + 1) k ∧ Keys X (.slice a l.length cap) l ∧ Below W.heap.size W X) := Lib.hid (fun X hX => by
      have hbx : Below W3.heap.size W3 X := bOn HB1.out hX
      refine ⟨?_, ?_, HB.out.2.2.below hbx (by omega), HK.out.below hbx, bOn HB3.out hbx⟩
      · exact (hbx.cell (p := ⟨W.heap.size, 0, none⟩) (by show W.heap.size < _; omega)).trans HB.out.1
      · exact (hbx.cell (p := ⟨W.heap.size + 1, 0, none⟩) (by show W.heap.size + 1 < _; omega)).trans HB.out.2.1)
    obtain ⟨b0, b1, b2, -, -⟩ := HX.out w1 (Below.refl _ _)
    obtain ⟨b3, b4, -, -, -⟩ := b2.all
    by_cases hin : idxK k.2 l < l.length
    · have HAT := Lib.hid (idxK_has hin)
      obtain ⟨e1, e2⟩ := put_has HOK.out hin
      have HE := Lib.hid (And.intro e1 e2)
      clear e1 e2 b2
      go_wp2_with (refine wpList_look_at rfl (.tmp 22) (.tmp 25) rfl bmap l.length (idxK k.2 l) l k.2 HKIN.out.2 hin HAT.out rfl rfl HM.out ?_)
      go_ret2
      exact ⟨⟨.slice none 0 0, by rw [HE.out.1]; rfl, by rw [HE.out.2]; exact keys_nil _⟩, (HX.out _ ((Below.refl _ _).alloc (Nat.le_refl _) _)).2.2.2.2⟩
    · have HNO : Hid (∀ j, j < l.length → (l.getD j (0, 0)).2 ≠ k.2) := Lib.hid (fun j hj e => hin (idxK_mem.2 (by rw [← e]; exact List.mem_map.2 ⟨l.getD j (0, 0), by simp [List.getD, hj], rfl⟩)))
      obtain ⟨e1, e2⟩ := put_new HOK.out hin
      have HE := Lib.hid (And.intro e1 e2)
      have c0 := HX.out (w1.alloc (.cells #[.int .i64 0] 56)) ((Below.refl _ _).alloc (Nat.le_refl _) _)
      have c1 := c0.2.1
      have HS := Lib.hid (search_any m k W.heap.size (W.heap.size + 1 + 1) (W.heap.size + 1) _ hl HOK.out c0.2.2.2.1 c0.1 c0.2.2.1 c0.2.1)
      clear e1 e2 b2 c0 hin
      go_wp2_with (refine wpList_look_none rfl (.tmp 22) (.tmp 25) rfl bmap l.length l k.2 HKIN.out.2 HNO.out rfl rfl HM.out ?_)
      refine HS.out.mono ?_
      rintro e' w2 ⟨rfl, hg2⟩
      have HX2 := Lib.hid (fun X hX => HX.out X (bOn (bOn ((Below.refl _ _).alloc (Nat.le_refl _) _) hg2.below) hX) : ∀ X, Below w2.heap.size w2 X → _)
      obtain ⟨d0, d1, d2, -, -⟩ := HX2.out w2 (Below.refl _ _)
      obtain ⟨d3, d4, -, -, -⟩ := d2.all
      have HKX : Hid (∀ X, Below w2.heap.size w2 X → Keys X (.slice a l.length cap) l) := Lib.hid (fun X hX => (HX2.out X hX).2.2.2.1)
      have HSX : Hid (∀ X, Below w2.heap.size w2 X → (X.cell? ⟨W.heap.size + 1, 0, none⟩ = some (.slice a l.length cap) ∧ X.cell? ⟨W.heap.size + 1 + 1, 0, none⟩ = some (.int .u64 k.1) ∧ X.cell? ⟨W.heap.size + 1 + 1, 1, none⟩ = some (.int .i64 k.2))) := Lib.hid (fun X hX => ⟨(HX2.out X hX).2.1, (HX2.out X hX).2.2.1.all.1, (HX2.out X hX).2.2.1.all.2.1⟩)
      have HB0 : Hid (Below w2.heap.size w2 w2) := Lib.hid (Below.refl _ _)
      have HBD : Hid (Below w2.heap.size w2 w2.drew) := Lib.hid (Below.refl _ _).drew
      have HBA : Hid (Below w2.heap.size w2 (w2.alloc (.cells #[.int .u64 k.1, .int .i64 k.2] 26)).drew) := Lib.hid ((Below.refl _ _).alloc (Nat.le_refl _) _).drew
      have HKB : Hid (Kb (w2.alloc (.cells #[.int .u64 k.1, .int .i64 k.2] 26)).drew w2.heap.size k) := Lib.hid (Kb.new w2 k)
      go_wp2_with fail
      go_region_held3 (fun w' => w'.cell? ⟨W.heap.size + 1, 0, none⟩ = some (.slice a l.length cap) ∧ w'.cell? ⟨W.heap.size + 1 + 1, 0, none⟩ = some (.int .u64 k.1) ∧ w'.cell? ⟨W.heap.size + 1 + 1, 1, none⟩ = some (.int .i64 k.2))
        (first
          | exact HSX.out _ HB0.out
          | exact HSX.out _ HBD.out
          | exact HSX.out _ HBA.out
          | exact HSX.out _ (bOn HBD.out hb3)
          | exact HSX.out _ (bOn HBA.out hb3)
          | exact HSX.out _ ((bOn HBD.out hb3).alloc (bOn HBD.out hb3).size _)
          | exact HSX.out _ (((bOn HBD.out hb3).alloc (bOn HBD.out hb3).size _).trans hb4)
          | exact HSX.out _ ((bOn HBA.out hb3).trans (hb4.mono HBA.out.size))
          | go_keep)
        (first
          | (go_at_call 27; refine (clone_any ?_ hl).mono ?_; (first | exact HKX.out _ HBD.out | exact HKX.out _ HBA.out); rintro e' w3 ⟨v3, rfl, hO3, hb3⟩)
          | (go_at_call 33; refine (ins_at (U := (w2.alloc (.cells #[.int .u64 k.1, .int .i64 k.2] 26)).drew.heap.size) ?_ ?_ ?_ ?_ HOK.out HIN.out HKIN.out hl).mono ?_;
              (with_reducible exact hO3);
              (exact HKB.out.below hb3 HKB.out.lt);
              (exact own_ahead hO3 HKB.out.lt);
              (exact hb3.size);
              rintro e' w4 ⟨⟨v4, rfl, hK4⟩, hb4⟩)
          | (go_at_call 33; refine (ins_at (U := w2.drew.heap.size) ?_ ?_ ?_ ?_ HOK.out HIN.out HKIN.out hl).mono ?_;
              (exact hO3.alloc _);
              (exact Kb.new w3 k);
              (exact own_behind hO3);
              (exact Nat.le_trans hb3.size (Gr.alloc _ _).below.size);
              rintro e' w4 ⟨⟨v4, rfl, hK4⟩, hb4⟩))
      · have HF := Lib.hid (HX2.out w4 (((bOn HBD.out hb3).alloc (bOn HBD.out hb3).size _).trans hb4)).2.2.2.2
        clear hb3 hb4 hO3
        go_wp2
        go_ret2
        exact ⟨⟨v4, by rw [HE.out.1]; rfl, by rw [HE.out.2]; exact hK4⟩, HF.out⟩
      · have HF := Lib.hid (HX2.out w4 ((bOn HBA.out hb3).trans (hb4.mono HBA.out.size))).2.2.2.2
        clear hb3 hb4 hO3
        go_wp2
        go_ret2
        exact ⟨⟨v4, by rw [HE.out.1]; rfl, by rw [HE.out.2]; exact hK4⟩, HF.out⟩
  · go_wp2
    go_ret2
    obtain ⟨e1, e2⟩ := put_unsorted hno k
    exact ⟨⟨.slice none 0 0, by rw [e1]; rfl, by rw [e2]; exact keys_nil _⟩, bOn HB3.out hb1⟩

/-- What Drop tells. -/
def DropSays (W : World) (m : Int) (l : List K) (id : Int) (e : Ending) (w' : World) : Prop :=
  (∃ v', e = .returned (.tuple #[v', .int .i64 (dropE m l id)]) ∧ Keys w' v' (dropL m l id)) ∧ Below W.heap.size W w'

set_option maxHeartbeats 400000 in
set_option maxRecDepth 100000 in
theorem drop_any (m : Int) {W : World} {v : Value} {l : List K} (id : Int) (hid : I id) (h : Keys W v l) (hl : l.length ≤ 1000) :
    Calls Try.prog 21 #[.int .u64 m, v, .int .i64 id] W (DropSays W m l id) := by
  have HIN := Lib.hid h.kin
  have HID := Lib.hid hid
  have HK := Lib.hid h
  have HMET := Lib.hid (met_any m h hl)
  clear h hid
  go_enter Try.func21, Try.ntmps21
  go_wp2_with fail
  refine HMET.out.mono ?_
  rintro e' w1 ⟨⟨hok, bmap, rfl, hM, hbm⟩ | ⟨hno, rfl⟩, hb1⟩
  · have HOK := Lib.hid hok
    have HM := Lib.hid hM
    have HB1 := Lib.hid hb1
    clear hok hM hb1
    by_cases hin : idxK id l < l.length
    · have HAT := Lib.hid (idxK_has hin)
      obtain ⟨e1, e2⟩ := drop_has HOK.out hin
      have HE := Lib.hid (And.intro e1 e2)
      obtain ⟨p, hp⟩ : ∃ p, idxK id l = p := ⟨_, rfl⟩
      have HP := Lib.hid hp
      rw [hp] at hin HAT
      have HB2 : Hid (Below W.heap.size W (w1.alloc (.cells #[.int .i64 p] 56))) := Lib.hid (HB1.out.alloc HB1.out.size _)
      have hcp : (w1.alloc (.cells #[.int .i64 p] 56)).cell? ⟨w1.heap.size, 0, none⟩ = some (.int .i64 p) := by rw [World.cell?_alloc_at _ _ _ _ rfl]; rfl
      have HCP := Lib.hid hcp
      have hlp : w1.heap.size < (w1.alloc (.cells #[.int .i64 p] 56)).heap.size := by simp
      have HLP := Lib.hid hlp
      clear e1 e2 hp hcp hlp
      go_wp2_with (refine wpList_look_at rfl (.tmp 21) (.tmp 23) rfl bmap l.length p l id HID.out hin HAT.out rfl rfl HM.out ?_)
      generalize hq : w1.heap.size = q at HCP HLP ⊢
      generalize w1.alloc (.cells #[.int .i64 p] 56) = w2 at HB2 HCP HLP ⊢
      have hcp := HCP.out
      have hlp := HLP.out
      have HKX : Hid (Keys w2.drew v l) := Lib.hid (HK.out.below HB2.out.drew)
      have hw1 : IntKind.i64.wrap ((p : Int) + 1) = (p : Int) + 1 := by rw [IntKind.wrap_i64]; omega
      clear hq
      go_region_held3 (fun w' => w'.cell? ⟨q, 0, none⟩ = some (.int .i64 p))
        (first
          | exact HCP.out
          | exact (hb3.cell (p := ⟨q, 0, none⟩) HLP.out).trans HCP.out
          | exact (((hb3.trans hb4)).cell (p := ⟨q, 0, none⟩) HLP.out).trans HCP.out
          | go_keep)
        (first
          | (go_at_call 27; refine (clone_any ?_ hl).mono ?_; exact HKX.out; rintro e' w3 ⟨v3, rfl, hO3, hb3⟩)
          | (go_at_call 35; refine (delete_any hO3 HIN.out p hin).mono ?_; rintro e' w4 ⟨⟨v4, rfl, hK4⟩, hb4⟩))
      have HF : Hid (Below W.heap.size W w4) := Lib.hid (HB2.out.drew.trans ((hb3.trans hb4).mono HB2.out.size))
      have HKP := Lib.hid hK4
      clear hb3 hb4 hO3 hK4
      go_wp2
      go_ret2
      exact ⟨⟨v4, by rw [HE.out.1]; rfl, by rw [HE.out.2, HP.out]; exact HKP.out⟩, HF.out⟩
    · have HNO : Hid (∀ j, j < l.length → (l.getD j (0, 0)).2 ≠ id) := Lib.hid (fun j hj e => hin (idxK_mem.2 (by rw [← e]; exact List.mem_map.2 ⟨l.getD j (0, 0), by simp [List.getD, hj], rfl⟩)))
      obtain ⟨e1, e2⟩ := drop_none HOK.out hin
      have HE := Lib.hid (And.intro e1 e2)
      clear e1 e2 hin
      go_wp2_with (refine wpList_look_none rfl (.tmp 21) (.tmp 23) rfl bmap l.length l id HID.out HNO.out rfl rfl HM.out ?_)
      go_ret2
      exact ⟨⟨.slice none 0 0, by rw [HE.out.1]; rfl, by rw [HE.out.2]; exact keys_nil _⟩, HB1.out.alloc HB1.out.size _⟩
  · go_wp2
    go_ret2
    obtain ⟨e1, e2⟩ := drop_unsorted hno id
    exact ⟨⟨.slice none 0 0, by rw [e1]; rfl, by rw [e2]; exact keys_nil _⟩, hb1⟩
end Go.Proofs.Ytdmkaclihopmkaa
