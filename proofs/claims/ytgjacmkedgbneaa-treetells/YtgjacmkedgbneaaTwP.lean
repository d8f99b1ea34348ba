/-
  Contracts of tree's Insert and Delete: what is told of a tree that is right, or not.
-/
import Derived.Test.YtgjacmkedgbneaaTwO
namespace Go.Proofs.Ytgjacmkedgbneaa
open Go.RowKit Go.Sort Ky Wd Tn Tr

/-- What Insert tells. -/
inductive Ins (m : Int) (k : K) (t : T) : T → Int → Prop
  | order (h : ¬ RightP m t) : Ins m k t ⟨0, []⟩ 4
  | arg (h : RightP m t) (hk : ¬ t.has k.2 ∨ (t.nd k.2).inn = true) : Ins m k t ⟨0, []⟩ 1
  | done (h : RightP m t) (hk : t.has k.2) (hi : (t.nd k.2).inn = false) (n n2 : Nat) (u : Int) (s : Bool) (t' : T) (hd : Down m k t n t.root (-1) false u s) (hm : Mend n2 ((t.put k.2 (nNew k.1)).hang u s k.2) k.2 t') : Ins m k t t' 0
/-- What Delete tells. -/
inductive Del (m : Int) (z : Int) (t : T) : T → Int → Prop
  | order (h : ¬ RightP m t) : Del m z t ⟨0, []⟩ 4
  | arg (h : RightP m t) (hk : ¬ t.has z) : Del m z t ⟨0, []⟩ 1
  | idle (h : RightP m t) (hk : t.has z) (hi : (t.nd z).inn = false) : Del m z t ⟨0, []⟩ 8
  | done (h : RightP m t) (hk : t.has z) (hi : (t.nd z).inn = true) (t' : T) (hr : Remove t z t') : Del m z t t' 0

/-- A tree that the call itself laid, by value. -/
def Tb (w : World) (q : Nat) (x : Int) (v : Value) (ty : TypeId) : Prop := w.heap[q]? = some (.cells #[.int .i64 x, v] ty (0, 0))
section
variable {w w' : World} {q : Nat} {x : Int} {v : Value} {ty : TypeId}
theorem Tb.new (w : World) (x : Int) (v : Value) (ty : TypeId) : Tb (w.alloc (.cells #[.int .i64 x, v] ty)) w.heap.size x v ty := heap_alloc_new _ _
theorem Tb.lt (h : Tb w q x v ty) : q < w.heap.size := (Array.getElem?_eq_some_iff.1 h).1
theorem Tb.below {B : Nat} (h : Tb w q x v ty) (hb : Below B w w') (hq : q < B) : Tb w' q x v ty := (hb.block q hq).trans h
theorem Tb.all (h : Tb w q x v ty) : w.cell? ⟨q, 0, none⟩ = some (.int .i64 x) ∧ w.cell? ⟨q, 1, none⟩ = some v ∧ w.frozen? ⟨q, 0, none⟩ = false ∧ w.frozen? ⟨q, 1, none⟩ = false := by
  have h' : w.heap[q]? = _ := h
  refine ⟨?_, ?_, ?_, ?_⟩ <;> simp [World.cell?, World.frozen?, h']
theorem Tb.store (h : Tb w q x v ty) (x' : Int) (v' : Value) : Tb ((w.setCell ⟨q, 0, none⟩ (.int .i64 x')).setCell ⟨q, 1, none⟩ v') q x' v' ty := by
  unfold Tb at h ⊢
  simp only [World.setCell, Array.getElem?_modify, if_true, h]
  rfl
end
theorem nil_nds (w : World) : Nds w (.slice none 0 0) [] := ⟨none, 0, rfl, ⟨Nat.le_refl _, Nat.zero_le _⟩, by simp, fun h => absurd rfl h⟩

set_option maxHeartbeats 4000000 in
set_option maxRecDepth 100000 in
theorem Insert_at {W : World} {v : Value} {t t' : T} {m : Int} {k : K} {e : Int} (hN : Nds W v t.ns) (hkin : Kin k) (hI : Ins m k t t' e) :
    Calls Try.prog 11 #[tv t v, .int .u64 m, .agg #[.int .u64 k.1, .int .i64 k.2]] W fun en w' => (∃ v', en = .returned (.tuple #[tv t' v', .int .i64 e]) ∧ Nds w' v' t'.ns) ∧ Below W.heap.size W w' := by
  -- the first blocks: t, k, the result, given
  have HB1 : Hid (Below W.heap.size W (W.alloc (.cells #[.int .i64 t.root, v] 24))) := Lib.hid ((Below.refl _ _).alloc (Nat.le_refl _) _)
  have HB2 := Lib.hid (HB1.out.alloc HB1.out.size (.cells #[.int .u64 k.1, .int .i64 k.2] 27))
  have HB3 := Lib.hid (HB2.out.alloc HB2.out.size (.cells #[.int .i64 0, .slice none 0 0] 24))
  have HT := Lib.hid (Tp.copy hN HB3.out 58)
  have HB4 := Lib.hid (HB3.out.alloc HB3.out.size (.cells #[.int .i64 t.root, v] 58))
  have s1 : (W.alloc (.cells #[.int .i64 t.root, v] 24)).heap.size = W.heap.size + 1 := by simp
  have s2 : ((W.alloc (.cells #[.int .i64 t.root, v] 24)).alloc (.cells #[.int .u64 k.1, .int .i64 k.2] 27)).heap.size = W.heap.size + 1 + 1 := by simp
  have s3 : (((W.alloc (.cells #[.int .i64 t.root, v] 24)).alloc (.cells #[.int .u64 k.1, .int .i64 k.2] 27)).alloc (.cells #[.int .i64 0, .slice none 0 0] 24)).heap.size = W.heap.size + 1 + 1 + 1 := by simp
  have HK2 := Lib.hid (Kb.new (W.alloc (.cells #[.int .i64 t.root, v] 24)) k)
  rw [s1] at HK2
  have HR3 := Lib.hid (Tb.new ((W.alloc (.cells #[.int .i64 t.root, v] 24)).alloc (.cells #[.int .u64 k.1, .int .i64 k.2] 27)) 0 (.slice none 0 0) 24)
  rw [s2] at HR3
  rw [s3] at HT
  have HK4 := Lib.hid ((HK2.out.gr (Gr.alloc _ (.cells #[.int .i64 0, .slice none 0 0] 24))).gr (Gr.alloc _ (.cells #[.int .i64 t.root, v] 58)))
  have HR4 := Lib.hid (HR3.out.below (Gr.alloc _ (.cells #[.int .i64 t.root, v] 58)).below HR3.out.lt)
  obtain ⟨a, cap, rfl, hc1, hc2⟩ := hN.len
  have HN := Lib.hid hN
  have HKI := Lib.hid hkin
  have HI := Lib.hid hI
  clear hN hkin hI s1 s2 s3 HB1 HB2 HB3 HK2 HR3
  unfold tv
  obtain ⟨r, hr⟩ : ∃ r : Bool, (r = true ↔ RightP m t) := by
    by_cases h : RightP m t
    · exact ⟨true, by simp [h]⟩
    · exact ⟨false, by simp [h]⟩
  have HRB := Lib.hid (rightBy_at HT.out m r hr)
  have HRR := Lib.hid hr
  clear hr
  go_enter Try.func11, Try.ntmps11
  go_wp2_with fail
  refine HRB.out.mono ?_
  rintro e' w1 ⟨rfl, hB⟩
  have HB5 := Lib.hid (HB4.out.trans (hB.mono HB4.out.size))
  have HK5 := Lib.hid (HK4.out.below hB HK4.out.lt)
  have HR5 := Lib.hid (HR4.out.below hB HR4.out.lt)
  have HT5 := Lib.hid (HT.out.below hB)
  have HLT5 : Hid (W.heap.size + 1 + 1 + 1 < w1.heap.size) := Lib.hid (World.block_lt_of_cell? w1 _ HT5.out.1)
  clear HRB hB HB4 HK4 HR4 HT
  cases r with
  | false =>
    have hno : ¬ RightP m t := fun h => by have := HRR.out.2 h; cases this
    cases HI.out with
    | order h =>
      clear hno
      obtain ⟨g0, g1, g2, g3⟩ := HR5.out.all
      have HS6 := Lib.hid (HR5.out.store 0 (.slice none 0 0)).all
      have HB6 := Lib.hid ((HB5.out.setCell (p := ⟨W.heap.size + 1 + 1, 0, none⟩) (by show W.heap.size ≤ W.heap.size + 1 + 1; omega) (.int .i64 0)).setCell (p := ⟨W.heap.size + 1 + 1, 1, none⟩) (by show W.heap.size ≤ W.heap.size + 1 + 1; omega) (.slice none 0 0))
      clear HR5 HB5 HT5 HK5
      go_wp2
      obtain ⟨z0, z1, -, -⟩ := HS6.out
      exact bodyPost_ret (v := .tuple #[.agg #[.int .i64 0, .slice none 0 0], .int .i64 4]) (by simp [results, Try.results11, go_sem, z0, z1]) rfl ⟨⟨.slice none 0 0, rfl, nil_nds _⟩, HB6.out⟩
    | arg h hk => exact absurd h hno
    | done h hk hi n n2 u s t' hd hm => exact absurd h hno
  | true =>
    have hyes : RightP m t := HRR.out.1 rfl
    have HHA := Lib.hid (has_at HT5.out k.2)
    obtain ⟨kc0, kc1, -, -, -⟩ := HK5.out.all
    cases HI.out with
    | order h => exact absurd hyes h
    | arg h hk =>
      by_cases hh : t.has k.2
      · rw [decide_eq_true hh] at HHA
        obtain ⟨j, hj0, hj⟩ := has_nat hh
        obtain ⟨nb, off, cap', hv, hcc1, hcc2, hn⟩ := HT5.out.node hj
        simp only [Value.slice.injEq] at hv
        obtain ⟨rfl, -, rfl⟩ := hv
        have hin : (t.nd j).inn = true := by rw [← hj0]; exact hk.resolve_left (fun h => h hh)
        have n0 := hn.1
        rw [hin] at n0
        have t1 := HT5.out.2.1
        rw [hj0] at HHA kc1
        clear hyes hk hh hj0 hn hin h
        go_wp2_with fail
        refine HHA.out.mono ?_
        rintro e' w' ⟨rfl, rfl⟩
        clear HHA
        obtain ⟨g0, g1, g2, g3⟩ := HR5.out.all
        have HS6 := Lib.hid (HR5.out.store 0 (.slice none 0 0)).all
        have HB6 := Lib.hid ((HB5.out.setCell (p := ⟨W.heap.size + 1 + 1, 0, none⟩) (by show W.heap.size ≤ W.heap.size + 1 + 1; omega) (.int .i64 0)).setCell (p := ⟨W.heap.size + 1 + 1, 1, none⟩) (by show W.heap.size ≤ W.heap.size + 1 + 1; omega) (.slice none 0 0))
        clear HR5 HB5 HT5 
        go_wp2
        obtain ⟨z0, z1, -, -⟩ := HS6.out
        exact bodyPost_ret (v := .tuple #[.agg #[.int .i64 0, .slice none 0 0], .int .i64 1]) (by simp [results, Try.results11, go_sem, z0, z1]) rfl ⟨⟨.slice none 0 0, rfl, nil_nds _⟩, HB6.out⟩
      · rw [decide_eq_false hh] at HHA
        clear hyes hk hh h
        go_wp2_with fail
        refine HHA.out.mono ?_
        rintro e' w' ⟨rfl, rfl⟩
        clear HHA
        obtain ⟨g0, g1, g2, g3⟩ := HR5.out.all
        have HS6 := Lib.hid (HR5.out.store 0 (.slice none 0 0)).all
        have HB6 := Lib.hid ((HB5.out.setCell (p := ⟨W.heap.size + 1 + 1, 0, none⟩) (by show W.heap.size ≤ W.heap.size + 1 + 1; omega) (.int .i64 0)).setCell (p := ⟨W.heap.size + 1 + 1, 1, none⟩) (by show W.heap.size ≤ W.heap.size + 1 + 1; omega) (.slice none 0 0))
        clear HR5 HB5 HT5 
        go_wp2
        obtain ⟨z0, z1, -, -⟩ := HS6.out
        exact bodyPost_ret (v := .tuple #[.agg #[.int .i64 0, .slice none 0 0], .int .i64 1]) (by simp [results, Try.results11, go_sem, z0, z1]) rfl ⟨⟨.slice none 0 0, rfl, nil_nds _⟩, HB6.out⟩
    | done h hk hi n n2 u s _ hd hm =>
      rw [decide_eq_true hk] at HHA
      obtain ⟨j, hj0, hj⟩ := has_nat hk
      obtain ⟨nb, off, cap', hv, hcc1, hcc2, hn⟩ := HT5.out.node hj
      simp only [Value.slice.injEq] at hv
      obtain ⟨rfl, -, rfl⟩ := hv
      have n0 := hn.1
      rw [← hj0, hi] at n0
      obtain ⟨t0, t1, -⟩ := HT5.out
      have HD := Lib.hid (And.intro hk (And.intro hd hm))
      obtain ⟨b0, hb0, -⟩ := h
      have HBE := Lib.hid (begin_at HT5.out.2.2 (by omega) (by have := hb0.len; omega))
      unfold tv at HBE
      have HJ := Lib.hid hj0
      rw [hj0] at HHA kc1
      clear hyes hk hj0 hn hd hm hi hb0
      go_wp2_with fail
      refine HHA.out.mono ?_
      rintro e' w' ⟨rfl, rfl⟩
      clear HHA
      go_wp2_with fail
      refine HBE.out.mono ?_
      rintro e' w2 ⟨p, rfl, hp0, hW2, hB2⟩
      have HP0 := Lib.hid hp0
      have HW2 := Lib.hid hW2
      have HB2 := Lib.hid hB2
      have HK2 := Lib.hid (HK5.out.below hB2 HK5.out.lt)
      have HR2 := Lib.hid (HR5.out.below hB2 HR5.out.lt)
      clear HBE hp0 hW2 hB2 n0 t0 t1 kc0 kc1
      obtain ⟨kc0, kc1, -, -, -⟩ := HK2.out.all
      have HIN := Lib.hid (insert_at HW2.out HD.out.1 HKI.out.1 HD.out.2.1 HD.out.2.2)
      go_wp2_with fail
      refine HIN.out.mono ?_
      rintro e' w3 ⟨rfl, hW3, hS3⟩
      have HB3 : Hid (Below w1.heap.size w2 w3) := Lib.hid (by rw [← HP0.out]; exact hS3.below HW2.out (by rw [HP0.out]; exact HB2.out.size))
      have HW3 := Lib.hid hW3
      have HR3 := Lib.hid (HR2.out.below HB3.out HR5.out.lt)
      clear HIN hW3 hS3 kc0 kc1
      obtain ⟨w30, w31, -, -, -⟩ := HW3.out.cells
      obtain ⟨g0, g1, g2, g3⟩ := HR3.out.all
      have HS6 := Lib.hid (HR3.out.store t'.root (p.sl t')).all
      have HNE : Hid (p.b ≠ W.heap.size + 1 + 1 ∧ p.nb ≠ W.heap.size + 1 + 1) := Lib.hid (by
        have h1 := HW3.out.b0
        have h2 := HW3.out.nb0
        have h3 := HLT5.out
        rw [HP0.out] at h1 h2
        omega)
      have HW6 := Lib.hid ((HW3.out.other (q := ⟨W.heap.size + 1 + 1, 0, none⟩) (v := .int .i64 t'.root) HNE.out.1 HNE.out.2).other (q := ⟨W.heap.size + 1 + 1, 1, none⟩) (v := p.sl t') HNE.out.1 HNE.out.2)
      have HB6 := Lib.hid ((((HB5.out.trans (HB2.out.mono HB5.out.size)).trans (HB3.out.mono HB5.out.size)).setCell (p := ⟨W.heap.size + 1 + 1, 0, none⟩) (by show W.heap.size ≤ W.heap.size + 1 + 1; omega) (.int .i64 t'.root)).setCell (p := ⟨W.heap.size + 1 + 1, 1, none⟩) (by show W.heap.size ≤ W.heap.size + 1 + 1; omega) (p.sl t'))
      have hpn : p.b ≠ W.heap.size + 1 + 1 := HNE.out.1
      unfold Wp.sl at w31 HS6 HW6 HB6
      go_wp2
      obtain ⟨z0, z1, -, -⟩ := HS6.out
      exact bodyPost_ret (v := .tuple #[.agg #[.int .i64 t'.root, .slice (some ⟨p.nb, 0, none⟩) t'.ns.length p.cap], .int .i64 0]) (by simp [results, Try.results11, go_sem, z0, z1]) rfl ⟨⟨_, rfl, HW6.out.tp.2.2⟩, HB6.out⟩

set_option maxHeartbeats 4000000 in
set_option maxRecDepth 100000 in
theorem Delete_at {W : World} {v : Value} {t t' : T} {m : Int} {z : Int} {e : Int} (hN : Nds W v t.ns) (hI : Del m z t t' e) :
    Calls Try.prog 13 #[tv t v, .int .u64 m, .int .i64 z] W fun en w' => (∃ v', en = .returned (.tuple #[tv t' v', .int .i64 e]) ∧ Nds w' v' t'.ns) ∧ Below W.heap.size W w' := by
  have HB1 : Hid (Below W.heap.size W (W.alloc (.cells #[.int .i64 t.root, v] 24))) := Lib.hid ((Below.refl _ _).alloc (Nat.le_refl _) _)
  have HB3 := Lib.hid (HB1.out.alloc HB1.out.size (.cells #[.int .i64 0, .slice none 0 0] 24))
  have HT := Lib.hid (Tp.copy hN HB3.out 58)
  have HB4 := Lib.hid (HB3.out.alloc HB3.out.size (.cells #[.int .i64 t.root, v] 58))
  have s1 : (W.alloc (.cells #[.int .i64 t.root, v] 24)).heap.size = W.heap.size + 1 := by simp
  have s3 : ((W.alloc (.cells #[.int .i64 t.root, v] 24)).alloc (.cells #[.int .i64 0, .slice none 0 0] 24)).heap.size = W.heap.size + 1 + 1 := by simp
  have HR3 := Lib.hid (Tb.new (W.alloc (.cells #[.int .i64 t.root, v] 24)) 0 (.slice none 0 0) 24)
  rw [s1] at HR3
  rw [s3] at HT
  have HR4 := Lib.hid (HR3.out.below (Gr.alloc _ (.cells #[.int .i64 t.root, v] 58)).below HR3.out.lt)
  obtain ⟨a, cap, rfl, hc1, hc2⟩ := hN.len
  have HI := Lib.hid hI
  clear hN hI s1 s3 HB1 HB3 HR3
  unfold tv
  obtain ⟨r, hr⟩ : ∃ r : Bool, (r = true ↔ RightP m t) := by
    by_cases h : RightP m t
    · exact ⟨true, by simp [h]⟩
    · exact ⟨false, by simp [h]⟩
  have HRB := Lib.hid (rightBy_at HT.out m r hr)
  have HRR := Lib.hid hr
  clear hr
  go_enter Try.func13, Try.ntmps13
  go_wp2_with fail
  refine HRB.out.mono ?_
  rintro e' w1 ⟨rfl, hB⟩
  have HB5 := Lib.hid (HB4.out.trans (hB.mono HB4.out.size))
  have HR5 := Lib.hid (HR4.out.below hB HR4.out.lt)
  have HT5 := Lib.hid (HT.out.below hB)
  have HLT5 : Hid (W.heap.size + 1 + 1 < w1.heap.size) := Lib.hid (World.block_lt_of_cell? w1 _ HT5.out.1)
  clear HRB hB HB4 HR4 HT
  cases r with
  | false =>
    have hno : ¬ RightP m t := fun h => by have := HRR.out.2 h; cases this
    cases HI.out with
    | order h =>
      clear hno
      obtain ⟨g0, g1, g2, g3⟩ := HR5.out.all
      have HS6 := Lib.hid (HR5.out.store 0 (.slice none 0 0)).all
      have HB6 := Lib.hid ((HB5.out.setCell (p := ⟨W.heap.size + 1, 0, none⟩) (by show W.heap.size ≤ W.heap.size + 1; omega) (.int .i64 0)).setCell (p := ⟨W.heap.size + 1, 1, none⟩) (by show W.heap.size ≤ W.heap.size + 1; omega) (.slice none 0 0))
      clear HR5 HB5 HT5
      go_wp2
      obtain ⟨z0, z1, -, -⟩ := HS6.out
      exact bodyPost_ret (v := .tuple #[.agg #[.int .i64 0, .slice none 0 0], .int .i64 4]) (by simp [results, Try.results13, go_sem, z0, z1]) rfl ⟨⟨.slice none 0 0, rfl, nil_nds _⟩, HB6.out⟩
    | arg h hk => exact absurd h hno
    | idle h hk hi => exact absurd h hno
    | done h hk hi t' hr => exact absurd h hno
  | true =>
    have hyes : RightP m t := HRR.out.1 rfl
    have HHA := Lib.hid (has_at HT5.out z)
    cases HI.out with
    | order h => exact absurd hyes h
    | arg h hk =>
      rw [decide_eq_false hk] at HHA
      clear hyes hk h
      go_wp2_with fail
      refine HHA.out.mono ?_
      rintro e' w' ⟨rfl, rfl⟩
      clear HHA
      obtain ⟨g0, g1, g2, g3⟩ := HR5.out.all
      have HS6 := Lib.hid (HR5.out.store 0 (.slice none 0 0)).all
      have HB6 := Lib.hid ((HB5.out.setCell (p := ⟨W.heap.size + 1, 0, none⟩) (by show W.heap.size ≤ W.heap.size + 1; omega) (.int .i64 0)).setCell (p := ⟨W.heap.size + 1, 1, none⟩) (by show W.heap.size ≤ W.heap.size + 1; omega) (.slice none 0 0))
      clear HR5 HB5 HT5
      go_wp2
      obtain ⟨z0, z1, -, -⟩ := HS6.out
      exact bodyPost_ret (v := .tuple #[.agg #[.int .i64 0, .slice none 0 0], .int .i64 1]) (by simp [results, Try.results13, go_sem, z0, z1]) rfl ⟨⟨.slice none 0 0, rfl, nil_nds _⟩, HB6.out⟩
    | idle h hk hi =>
      rw [decide_eq_true hk] at HHA
      obtain ⟨j, hj0, hj⟩ := has_nat hk
      subst hj0
      obtain ⟨nb, off, cap', hv, hcc1, hcc2, hn⟩ := HT5.out.node hj
      simp only [Value.slice.injEq] at hv
      obtain ⟨rfl, -, rfl⟩ := hv
      have n0 := hn.1
      rw [hi] at n0
      obtain ⟨t0, t1, -⟩ := HT5.out
      clear hyes hk hn hi h
      go_wp2_with fail
      refine HHA.out.mono ?_
      rintro e' w' ⟨rfl, rfl⟩
      clear HHA
      obtain ⟨g0, g1, g2, g3⟩ := HR5.out.all
      have HS6 := Lib.hid (HR5.out.store 0 (.slice none 0 0)).all
      have HB6 := Lib.hid ((HB5.out.setCell (p := ⟨W.heap.size + 1, 0, none⟩) (by show W.heap.size ≤ W.heap.size + 1; omega) (.int .i64 0)).setCell (p := ⟨W.heap.size + 1, 1, none⟩) (by show W.heap.size ≤ W.heap.size + 1; omega) (.slice none 0 0))
      clear HR5 HB5 HT5
      go_wp2
      obtain ⟨z0, z1, -, -⟩ := HS6.out
      exact bodyPost_ret (v := .tuple #[.agg #[.int .i64 0, .slice none 0 0], .int .i64 8]) (by simp [results, Try.results13, go_sem, z0, z1]) rfl ⟨⟨.slice none 0 0, rfl, nil_nds _⟩, HB6.out⟩
    | done h hk hi _ hr =>
      rw [decide_eq_true hk] at HHA
      obtain ⟨j, hj0, hj⟩ := has_nat hk
      subst hj0
      obtain ⟨nb, off, cap', hv, hcc1, hcc2, hn⟩ := HT5.out.node hj
      simp only [Value.slice.injEq] at hv
      obtain ⟨rfl, -, rfl⟩ := hv
      have n0 := hn.1
      rw [hi] at n0
      obtain ⟨t0, t1, -⟩ := HT5.out
      have HD := Lib.hid hr
      obtain ⟨b0, hb0, -⟩ := h
      have HBE := Lib.hid (begin_at HT5.out.2.2 (by omega) (by have := hb0.len; omega))
      unfold tv at HBE
      clear hyes hk hn hi hb0 hr
      go_wp2_with fail
      refine HHA.out.mono ?_
      rintro e' w' ⟨rfl, rfl⟩
      clear HHA
      go_wp2_with fail
      refine HBE.out.mono ?_
      rintro e' w2 ⟨p, rfl, hp0, hW2, hB2⟩
      have HP0 := Lib.hid hp0
      have HW2 := Lib.hid hW2
      have HB2 := Lib.hid hB2
      have HR2 := Lib.hid (HR5.out.below hB2 HR5.out.lt)
      clear HBE hp0 hW2 hB2 n0 t0 t1
      have HIN := Lib.hid (remove_at HW2.out HD.out)
      go_wp2_with fail
      refine HIN.out.mono ?_
      rintro e' w3 ⟨rfl, hW3, hS3⟩
      have HB3 : Hid (Below w1.heap.size w2 w3) := Lib.hid (by rw [← HP0.out]; exact hS3.below HW2.out (by rw [HP0.out]; exact HB2.out.size))
      have HW3 := Lib.hid hW3
      have HR3 := Lib.hid (HR2.out.below HB3.out HR5.out.lt)
      clear HIN hW3 hS3
      obtain ⟨w30, w31, -, -, -⟩ := HW3.out.cells
      obtain ⟨g0, g1, g2, g3⟩ := HR3.out.all
      have HS6 := Lib.hid (HR3.out.store t'.root (p.sl t')).all
      have HNE : Hid (p.b ≠ W.heap.size + 1 ∧ p.nb ≠ W.heap.size + 1) := Lib.hid (by
        have h1 := HW3.out.b0
        have h2 := HW3.out.nb0
        have h3 := HLT5.out
        rw [HP0.out] at h1 h2
        omega)
      have HW6 := Lib.hid ((HW3.out.other (q := ⟨W.heap.size + 1, 0, none⟩) (v := .int .i64 t'.root) HNE.out.1 HNE.out.2).other (q := ⟨W.heap.size + 1, 1, none⟩) (v := p.sl t') HNE.out.1 HNE.out.2)
      have HB6 := Lib.hid ((((HB5.out.trans (HB2.out.mono HB5.out.size)).trans (HB3.out.mono HB5.out.size)).setCell (p := ⟨W.heap.size + 1, 0, none⟩) (by show W.heap.size ≤ W.heap.size + 1; omega) (.int .i64 t'.root)).setCell (p := ⟨W.heap.size + 1, 1, none⟩) (by show W.heap.size ≤ W.heap.size + 1; omega) (p.sl t'))
      have hpn : p.b ≠ W.heap.size + 1 := HNE.out.1
      unfold Wp.sl at w31 HS6 HW6 HB6
      go_wp2
      obtain ⟨z0, z1, -, -⟩ := HS6.out
      exact bodyPost_ret (v := .tuple #[.agg #[.int .i64 t'.root, .slice (some ⟨p.nb, 0, none⟩) t'.ns.length p.cap], .int .i64 0]) (by simp [results, Try.results13, go_sem, z0, z1]) rfl ⟨⟨_, rfl, HW6.out.tp.2.2⟩, HB6.out⟩
end Go.Proofs.Ytgjacmkedgbneaa
