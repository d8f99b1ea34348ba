/-
  Reasons (closures that tell an error, and whether it holds), and queue's why: the first one's error that holds.
  Contracts of queue's reasons: what each tells, and that it is made.
-/
import Derived.Test.YtpmknpdnhfnfcaaGreatDoorQyE
namespace Go.Proofs.YtpmknpdnhfnfcaaGreatDoor
open Go.RowKit Go.Sort Ky Wd Tn Tr Wg Qu

/-- What is told by a call of a function value, in every later world. -/
def Tells (w : World) (n : Nat) (caps : Array Value) (e : Int) (h : Bool) : Prop :=
  ∀ X, Below w.heap.size w X → Calls Tryz.prog n caps X fun en w' => en = .returned (.tuple #[.int .i64 e, .bool h]) ∧ Below X.heap.size X w'
theorem Tells.below {w w' : World} {n : Nat} {caps : Array Value} {e : Int} {h : Bool} (k : Tells w n caps e h) (hb : Below w.heap.size w w') : Tells w' n caps e h := fun X hX => k X (hb.trans (hX.mono hb.size))
/-- A pointer to a block. -/
abbrev ptr (b : Nat) : Value := .pointer (some ⟨b, 0, none⟩)
/-- The value f is a reason of the queue's, and tells e and h. -/
inductive Rz (w : World) : Value → Int → Bool → Prop
  | notRight (b : Nat) (e : Int) (h : Bool) (k : Tells w 90 #[ptr b] e h) : Rz w (.func (.func 90) #[] #[ptr b]) e h
  | noTask (b c : Nat) (e : Int) (h : Bool) (k : Tells w 91 #[ptr b, ptr c] e h) : Rz w (.func (.func 91) #[] #[ptr b, ptr c]) e h
  | noWeight (b : Nat) (e : Int) (h : Bool) (k : Tells w 93 #[ptr b] e h) : Rz w (.func (.func 93) #[] #[ptr b]) e h
  | busy (b c : Nat) (e : Int) (h : Bool) (k : Tells w 95 #[ptr b, ptr c] e h) : Rz w (.func (.func 95) #[] #[ptr b, ptr c]) e h
  | away (b c : Nat) (e : Int) (h : Bool) (k : Tells w 101 #[ptr b, ptr c] e h) : Rz w (.func (.func 101) #[] #[ptr b, ptr c]) e h
  | stands (b : Nat) (e : Int) (h : Bool) (k : Tells w 103 #[ptr b] e h) : Rz w (.func (.func 103) #[] #[ptr b]) e h
  | empty (b : Nat) (e : Int) (h : Bool) (k : Tells w 104 #[ptr b] e h) : Rz w (.func (.func 104) #[] #[ptr b]) e h
  | noTick (b : Nat) (e : Int) (h : Bool) (k : Tells w 108 #[ptr b] e h) : Rz w (.func (.func 108) #[] #[ptr b]) e h
theorem Rz.below {w w' : World} {f : Value} {e : Int} {h : Bool} (k : Rz w f e h) (hb : Below w.heap.size w w') : Rz w' f e h := by
  cases k with
  | notRight b e h k => exact .notRight _ _ _ (k.below hb)
  | noTask b c e h k => exact .noTask _ _ _ _ (k.below hb)
  | noWeight b e h k => exact .noWeight _ _ _ (k.below hb)
  | busy b c e h k => exact .busy _ _ _ _ (k.below hb)
  | away b c e h k => exact .away _ _ _ _ (k.below hb)
  | stands b e h k => exact .stands _ _ _ (k.below hb)
  | empty b e h k => exact .empty _ _ _ (k.below hb)
  | noTick b e h k => exact .noTick _ _ _ (k.below hb)

set_option maxRecDepth 100000 in
set_option maxHeartbeats 4000000 in
theorem why_any {W : World} {bs m : Nat} {fs : Nat → Value} (hm : 0 < m ∧ m ≤ 4) (hb : bs < W.heap.size) (hc : ∀ i, i < m → W.cell? ⟨bs, i, none⟩ = some (fs i)) {k : Nat} (hk : k ≤ m)
    (hbef : ∀ i, i < k → ∃ e, Rz W (fs i) e false) {E : Int} (hat : (k < m ∧ Rz W (fs k) E true) ∨ (k = m ∧ E = 0)) :
    Calls Tryz.prog 40 #[.slice (some ⟨bs, 0, none⟩) m m] W fun e w' => e = .returned (.int .i64 E) ∧ Below W.heap.size W w' := by
  have HC := Lib.hid hc
  have HBF := Lib.hid hbef
  have HAT := Lib.hid hat
  obtain ⟨hm0, hm1⟩ := hm
  clear hc hbef hat
  go_enter Tryz.func40, Tryz.ntmps40
  go_wp2
  go_loopw [9] (fun i wr => ∃ j : Nat, j ≤ k ∧ i = .int .i64 j ∧ Hid (Below W.heap.size W wr)) (fun i _ => m - (intOf i).toNat)
  case atStart => exact ⟨0, by omega, rfl, Lib.hid (Below.refl _ _)⟩
  case round =>
    obtain ⟨j, hj, rfl, HJ⟩ := hrel
    by_cases hlt : j < k
    · have hjm : j < m := by omega
      have c0 := (HJ.out.cell (p := ⟨bs, j, none⟩) hb).trans (HC.out j hjm)
      obtain ⟨e, hr⟩ := HBF.out j hlt
      generalize fs j = f at hr c0
      cases hr with
      | notRight b _ _ k1 =>
        have HK := Lib.hid (k1 wr HJ.out)
        clear k1
        go_wp2_with fail
        refine HK.out.mono ?_
        rintro e' w1 ⟨rfl, hb1⟩
        have HB1 := Lib.hid (HJ.out.trans (hb1.mono HJ.out.size))
        clear hb1 HK c0
        go_wp2
        exact ⟨⟨j + 1, by omega, by go_num, Lib.hid HB1.out⟩, by simp [intOf]; omega⟩
      | noTask b c _ _ k1 =>
        have HK := Lib.hid (k1 wr HJ.out)
        clear k1
        go_wp2_with fail
        refine HK.out.mono ?_
        rintro e' w1 ⟨rfl, hb1⟩
        have HB1 := Lib.hid (HJ.out.trans (hb1.mono HJ.out.size))
        clear hb1 HK c0
        go_wp2
        exact ⟨⟨j + 1, by omega, by go_num, Lib.hid HB1.out⟩, by simp [intOf]; omega⟩
      | noWeight b _ _ k1 =>
        have HK := Lib.hid (k1 wr HJ.out)
        clear k1
        go_wp2_with fail
        refine HK.out.mono ?_
        rintro e' w1 ⟨rfl, hb1⟩
        have HB1 := Lib.hid (HJ.out.trans (hb1.mono HJ.out.size))
        clear hb1 HK c0
        go_wp2
        exact ⟨⟨j + 1, by omega, by go_num, Lib.hid HB1.out⟩, by simp [intOf]; omega⟩
      | busy b c _ _ k1 =>
        have HK := Lib.hid (k1 wr HJ.out)
        clear k1
        go_wp2_with fail
        refine HK.out.mono ?_
        rintro e' w1 ⟨rfl, hb1⟩
        have HB1 := Lib.hid (HJ.out.trans (hb1.mono HJ.out.size))
        clear hb1 HK c0
        go_wp2
        exact ⟨⟨j + 1, by omega, by go_num, Lib.hid HB1.out⟩, by simp [intOf]; omega⟩
      | away b c _ _ k1 =>
        have HK := Lib.hid (k1 wr HJ.out)
        clear k1
        go_wp2_with fail
        refine HK.out.mono ?_
        rintro e' w1 ⟨rfl, hb1⟩
        have HB1 := Lib.hid (HJ.out.trans (hb1.mono HJ.out.size))
        clear hb1 HK c0
        go_wp2
        exact ⟨⟨j + 1, by omega, by go_num, Lib.hid HB1.out⟩, by simp [intOf]; omega⟩
      | stands b _ _ k1 =>
        have HK := Lib.hid (k1 wr HJ.out)
        clear k1
        go_wp2_with fail
        refine HK.out.mono ?_
        rintro e' w1 ⟨rfl, hb1⟩
        have HB1 := Lib.hid (HJ.out.trans (hb1.mono HJ.out.size))
        clear hb1 HK c0
        go_wp2
        exact ⟨⟨j + 1, by omega, by go_num, Lib.hid HB1.out⟩, by simp [intOf]; omega⟩
      | empty b _ _ k1 =>
        have HK := Lib.hid (k1 wr HJ.out)
        clear k1
        go_wp2_with fail
        refine HK.out.mono ?_
        rintro e' w1 ⟨rfl, hb1⟩
        have HB1 := Lib.hid (HJ.out.trans (hb1.mono HJ.out.size))
        clear hb1 HK c0
        go_wp2
        exact ⟨⟨j + 1, by omega, by go_num, Lib.hid HB1.out⟩, by simp [intOf]; omega⟩
      | noTick b _ _ k1 =>
        have HK := Lib.hid (k1 wr HJ.out)
        clear k1
        go_wp2_with fail
        refine HK.out.mono ?_
        rintro e' w1 ⟨rfl, hb1⟩
        have HB1 := Lib.hid (HJ.out.trans (hb1.mono HJ.out.size))
        clear hb1 HK c0
        go_wp2
        exact ⟨⟨j + 1, by omega, by go_num, Lib.hid HB1.out⟩, by simp [intOf]; omega⟩
    · obtain rfl : j = k := by omega
      rcases HAT.out with ⟨hjm, hr⟩ | ⟨rfl, rfl⟩
      · have c0 := (HJ.out.cell (p := ⟨bs, j, none⟩) hb).trans (HC.out j hjm)
        generalize fs j = f at hr c0
        cases hr with
        | notRight b _ _ k1 =>
          have HK := Lib.hid (k1 wr HJ.out)
          clear k1
          go_wp2_with fail
          refine HK.out.mono ?_
          rintro e' w1 ⟨rfl, hb1⟩
          have HB1 := Lib.hid (HJ.out.trans (hb1.mono HJ.out.size))
          clear hb1 HK c0
          go_wp2
          go_ret
          exact ⟨rfl, HB1.out⟩
        | noTask b c _ _ k1 =>
          have HK := Lib.hid (k1 wr HJ.out)
          clear k1
          go_wp2_with fail
          refine HK.out.mono ?_
          rintro e' w1 ⟨rfl, hb1⟩
          have HB1 := Lib.hid (HJ.out.trans (hb1.mono HJ.out.size))
          clear hb1 HK c0
          go_wp2
          go_ret
          exact ⟨rfl, HB1.out⟩
        | noWeight b _ _ k1 =>
          have HK := Lib.hid (k1 wr HJ.out)
          clear k1
          go_wp2_with fail
          refine HK.out.mono ?_
          rintro e' w1 ⟨rfl, hb1⟩
          have HB1 := Lib.hid (HJ.out.trans (hb1.mono HJ.out.size))
          clear hb1 HK c0
          go_wp2
          go_ret
          exact ⟨rfl, HB1.out⟩
        | busy b c _ _ k1 =>
          have HK := Lib.hid (k1 wr HJ.out)
          clear k1
          go_wp2_with fail
          refine HK.out.mono ?_
          rintro e' w1 ⟨rfl, hb1⟩
          have HB1 := Lib.hid (HJ.out.trans (hb1.mono HJ.out.size))
          clear hb1 HK c0
          go_wp2
          go_ret
          exact ⟨rfl, HB1.out⟩
        | away b c _ _ k1 =>
          have HK := Lib.hid (k1 wr HJ.out)
          clear k1
          go_wp2_with fail
          refine HK.out.mono ?_
          rintro e' w1 ⟨rfl, hb1⟩
          have HB1 := Lib.hid (HJ.out.trans (hb1.mono HJ.out.size))
          clear hb1 HK c0
          go_wp2
          go_ret
          exact ⟨rfl, HB1.out⟩
        | stands b _ _ k1 =>
          have HK := Lib.hid (k1 wr HJ.out)
          clear k1
          go_wp2_with fail
          refine HK.out.mono ?_
          rintro e' w1 ⟨rfl, hb1⟩
          have HB1 := Lib.hid (HJ.out.trans (hb1.mono HJ.out.size))
          clear hb1 HK c0
          go_wp2
          go_ret
          exact ⟨rfl, HB1.out⟩
        | empty b _ _ k1 =>
          have HK := Lib.hid (k1 wr HJ.out)
          clear k1
          go_wp2_with fail
          refine HK.out.mono ?_
          rintro e' w1 ⟨rfl, hb1⟩
          have HB1 := Lib.hid (HJ.out.trans (hb1.mono HJ.out.size))
          clear hb1 HK c0
          go_wp2
          go_ret
          exact ⟨rfl, HB1.out⟩
        | noTick b _ _ k1 =>
          have HK := Lib.hid (k1 wr HJ.out)
          clear k1
          go_wp2_with fail
          refine HK.out.mono ?_
          rintro e' w1 ⟨rfl, hb1⟩
          have HB1 := Lib.hid (HJ.out.trans (hb1.mono HJ.out.size))
          clear hb1 HK c0
          go_wp2
          go_ret
          exact ⟨rfl, HB1.out⟩
      · go_wp2
        go_ret
        exact ⟨rfl, HJ.out⟩
end Go.Proofs.YtpmknpdnhfnfcaaGreatDoor

namespace Go.Proofs.YtpmknpdnhfnfcaaGreatDoor
open Go.RowKit Go.Sort Ky Wd Tn Tr Wg Qu

theorem keepC {w w' : World} {b : Nat} {v : Value} (h : w.cell? ⟨b, 0, none⟩ = some v) (hb : Below w.heap.size w w') : w'.cell? ⟨b, 0, none⟩ = some v := (hb.cell (World.block_lt_of_cell? w _ h)).trans h
theorem newC (W : World) (v : Value) (t : TypeId) : (W.alloc (.cells #[v] t)).cell? ⟨W.heap.size, 0, none⟩ = some v := cellNew W v t

set_option maxRecDepth 100000 in
theorem notRight_tells {X : World} {b : Nat} {q : Q} {nv wv : Value} (hT : Tab X) (hQ : Qb X b q nv wv) (hD : Qd X q nv wv) {r : Bool} (hr : r = true ↔ RightQ q) : Tells X 90 #[ptr b] 4 (!r) := by
  intro Y hY
  have HC := Lib.hid (Right_q (hT.below hY) (hD.below hY) r hr)
  obtain ⟨h0, h1, h2, h3, h4, h5, h6⟩ := (hQ.below hY hQ.lt).all
  clear hT hQ hD hr hY
  unfold qv at HC
  go_enter Tryz.func90, Tryz.ntmps90
  go_wp2_with fail
  refine HC.out.mono ?_
  rintro e' w1 ⟨rfl, hb1⟩
  have HB1 := Lib.hid hb1
  clear hb1 HC h0 h1 h2 h3 h4 h5 h6
  go_wp2
  go_ret2
  exact ⟨rfl, HB1.out⟩
set_option maxRecDepth 100000 in
theorem noTask_tells {X : World} {b c : Nat} {q : Q} {a : Option Addr} {n cp : Nat} {wv : Value} (hQ : Qb X b q (.slice a n cp) wv) (hn : n = q.t.ns.length) {id : Int} (hc : X.cell? ⟨c, 0, none⟩ = some (.int .i64 id)) : Tells X 91 #[ptr b, ptr c] 1 (!decide (q.t.has id)) := by
  intro Y hY
  have HC := Lib.hid (isTask_any q wv (a := a) (c := cp) hn id Y)
  obtain ⟨h0, h1, h2, h3, h4, h5, h6⟩ := (hQ.below hY hQ.lt).all
  have hcc := keepC hc hY
  clear hQ hc hY hn
  unfold qv at HC
  go_enter Tryz.func91, Tryz.ntmps91
  go_wp2_with fail
  refine HC.out.mono ?_
  rintro e' w1 ⟨rfl, hb1⟩
  have HB1 := Lib.hid hb1.below
  clear hb1 HC h0 h1 h2 h3 h4 h5 h6 hcc
  go_wp2
  go_ret2
  exact ⟨rfl, HB1.out⟩
set_option maxRecDepth 100000 in
theorem noWeight_tells {X : World} {c : Nat} (hT : Tab X) {x : Int} (hc : X.cell? ⟨c, 0, none⟩ = some (.int .i64 x)) : Tells X 93 #[ptr c] 1 (!decide (wOkN x)) := by
  intro Y hY
  have HC := Lib.hid (isWeight_any x Y (hT.below hY))
  have hcc := keepC hc hY
  clear hc hY hT
  go_enter Tryz.func93, Tryz.ntmps93
  go_wp2_with fail
  refine (HC.out).mono ?_
  rintro e' w' ⟨rfl, rfl⟩
  go_wp2
  go_ret2
  exact ⟨rfl, Below.refl _ _⟩
set_option maxRecDepth 100000 in
theorem busy_tells {X : World} {b c : Nat} {q : Q} {nv wv : Value} (hQ : Qb X b q nv wv) (hN : Nds X nv q.t.ns) {id : Int} (hid : q.t.has id) (hc : X.cell? ⟨c, 0, none⟩ = some (.int .i64 id)) : Tells X 95 #[ptr b, ptr c] 9 (q.here id) := by
  intro Y hY
  have HC := Lib.hid (isHere_any q (wv := wv) hid (hN.below hY))
  obtain ⟨h0, h1, h2, h3, h4, h5, h6⟩ := (hQ.below hY hQ.lt).all
  have hcc := keepC hc hY
  clear hQ hc hY hN hid
  unfold qv at HC
  generalize q.here id = r at HC ⊢
  go_enter Tryz.func95, Tryz.ntmps95
  go_wp2_with fail
  refine HC.out.mono ?_
  rintro e' w1 ⟨rfl, hb1⟩
  have HB1 := Lib.hid hb1.below
  clear hb1 HC h0 h1 h2 h3 h4 h5 h6 hcc
  go_wp2
  go_ret2
  exact ⟨rfl, HB1.out⟩
set_option maxRecDepth 100000 in
theorem away_tells {X : World} {b c : Nat} {q : Q} {nv wv : Value} (hQ : Qb X b q nv wv) (hN : Nds X nv q.t.ns) {id : Int} (hid : q.t.has id) (hc : X.cell? ⟨c, 0, none⟩ = some (.int .i64 id)) : Tells X 101 #[ptr b, ptr c] 8 (!q.here id) := by
  intro Y hY
  have HC := Lib.hid (isHere_any q (wv := wv) hid (hN.below hY))
  obtain ⟨h0, h1, h2, h3, h4, h5, h6⟩ := (hQ.below hY hQ.lt).all
  have hcc := keepC hc hY
  clear hQ hc hY hN hid
  unfold qv at HC
  generalize q.here id = r at HC ⊢
  go_enter Tryz.func101, Tryz.ntmps101
  go_wp2_with fail
  refine HC.out.mono ?_
  rintro e' w1 ⟨rfl, hb1⟩
  have HB1 := Lib.hid hb1.below
  clear hb1 HC h0 h1 h2 h3 h4 h5 h6 hcc
  go_wp2
  go_ret2
  exact ⟨rfl, HB1.out⟩
set_option maxRecDepth 100000 in
theorem stands_tells {X : World} {b : Nat} {q : Q} {nv wv : Value} (hQ : Qb X b q nv wv) : Tells X 103 #[ptr b] 8 (q.cur == -1) := by
  intro Y hY
  obtain ⟨h0, h1, h2, h3, h4, h5, h6⟩ := (hQ.below hY hQ.lt).all
  clear hQ hY
  go_enter Tryz.func103, Tryz.ntmps103
  go_wp2_with fail
  go_quiet (fail)
  go_wp2
  go_ret2
  exact ⟨rfl, (Gr.drew Y _).below⟩
set_option maxRecDepth 100000 in
theorem empty_tells {X : World} {b : Nat} {q : Q} {nv wv : Value} (hQ : Qb X b q nv wv) (hD : Qd X q nv wv) {t : B} (hb : Whole q.t t) : Tells X 104 #[ptr b] 8 (decide (t.keys ++ q.run = [])) := by
  intro Y hY
  have HC := Lib.hid (all_any (hD.below hY) hb)
  obtain ⟨h0, h1, h2, h3, h4, h5, h6⟩ := (hQ.below hY hQ.lt).all
  clear hQ hD hb hY
  unfold qv at HC
  generalize t.keys ++ q.run = l at HC ⊢
  have HE : Hid (((l.length : Int) == 0) = decide (l = [])) := Lib.hid (by
    cases l with
    | nil => rfl
    | cons x l => simp; omega)
  go_enter Tryz.func104, Tryz.ntmps104
  go_wp2_with fail
  refine HC.out.mono ?_
  rintro e' w1 ⟨⟨vs, rfl, hk⟩, hb1⟩
  obtain ⟨al, cl, rfl, hm, -, -⟩ := hk
  have HB1 := Lib.hid hb1
  clear hb1 HC h0 h1 h2 h3 h4 h5 h6 hm
  go_wp2
  go_ret2
  exact ⟨by rw [← HE.out]; rfl, HB1.out⟩
set_option maxRecDepth 100000 in
theorem noTick_tells {X : World} {c : Nat} {d : Int} (hc : X.cell? ⟨c, 0, none⟩ = some (.int .i64 d)) : Tells X 108 #[ptr c] 1 (!decide (0 ≤ d ∧ d ≤ 1099511627776)) := by
  intro Y hY
  have hcc := keepC hc hY
  have HE : Hid ((clampN d 0 1099511627776 != d) = !decide (0 ≤ d ∧ d ≤ 1099511627776)) := Lib.hid (by
    have h0 := clamp_eq d 0 1099511627776
    by_cases h : 0 ≤ d ∧ d ≤ 1099511627776
    · rw [decide_eq_true h, h0.2 h]; simp
    · rw [decide_eq_false h]; simpa using fun e => h (h0.1 e))
  have HC : Hid (∀ Z, Calls Tryz.prog 46 #[.int .i64 d, .int .i64 0, .int .i64 1099511627776] Z fun e w' => e = .returned (.int .i64 (clampN d 0 1099511627776)) ∧ ∃ q, w' = Z.drewN q) := Lib.hid (fun Z => (clamp_any d 0 1099511627776 Z).mono fun e w' h => ⟨h.1, 0, by rw [← h.2]; rfl⟩)
  generalize clampN d 0 1099511627776 = y at HC HE
  clear hc hY
  go_enter Tryz.func108, Tryz.ntmps108
  go_wp2_with fail
  go_quiet (first | (go_at_call 46; exact Calls.quiet_of (HC.out _)))
  go_wp2
  go_ret2
  exact ⟨by rw [← HE.out]; rfl, (Gr.drew Y _).below⟩

set_option maxRecDepth 100000 in
theorem notRight_rz {W : World} {q : Q} {nv wv : Value} (hT : Tab W) (hD : Qd W q nv wv) {r : Bool} (hr : r = true ↔ RightQ q) :
    Calls Tryz.prog 41 #[qv q nv wv] W fun en w' => (∃ b, en = .returned (.func (.func 90) #[] #[ptr b]) ∧ Rz w' (.func (.func 90) #[] #[ptr b]) 4 (!r)) ∧ Below W.heap.size W w' := by
  have HB := Lib.hid (Gr.alloc W (qo q nv wv)).below
  have HR : Hid (Rz (W.alloc (qo q nv wv)) (.func (.func 90) #[] #[ptr W.heap.size]) 4 (!r)) := Lib.hid (.notRight _ _ _ (notRight_tells (hT.below (Gr.alloc W (qo q nv wv)).below) (Qb.new W q nv wv) (hD.below (Gr.alloc W (qo q nv wv)).below) hr))
  unfold qo at HB HR
  unfold qv
  go_enter Tryz.func41, Tryz.ntmps41
  go_wp2
  go_ret
  exact ⟨⟨_, rfl, HR.out⟩, HB.out⟩

set_option maxRecDepth 100000 in
theorem stands_rz {W : World} {q : Q} {nv wv : Value}  :
    Calls Tryz.prog 54 #[qv q nv wv] W fun en w' => (∃ b, en = .returned (.func (.func 103) #[] #[ptr b]) ∧ Rz w' (.func (.func 103) #[] #[ptr b]) 8 (q.cur == -1)) ∧ Below W.heap.size W w' := by
  have HB := Lib.hid (Gr.alloc W (qo q nv wv)).below
  have HR : Hid (Rz (W.alloc (qo q nv wv)) (.func (.func 103) #[] #[ptr W.heap.size]) 8 (q.cur == -1)) := Lib.hid (.stands _ _ _ (stands_tells (Qb.new W q nv wv)))
  unfold qo at HB HR
  unfold qv
  go_enter Tryz.func54, Tryz.ntmps54
  go_wp2
  go_ret
  exact ⟨⟨_, rfl, HR.out⟩, HB.out⟩

set_option maxRecDepth 100000 in
theorem empty_rz {W : World} {q : Q} {nv wv : Value} (hD : Qd W q nv wv) {t : B} (hb : Whole q.t t) :
    Calls Tryz.prog 56 #[qv q nv wv] W fun en w' => (∃ b, en = .returned (.func (.func 104) #[] #[ptr b]) ∧ Rz w' (.func (.func 104) #[] #[ptr b]) 8 (decide (t.keys ++ q.run = []))) ∧ Below W.heap.size W w' := by
  have HB := Lib.hid (Gr.alloc W (qo q nv wv)).below
  have HR : Hid (Rz (W.alloc (qo q nv wv)) (.func (.func 104) #[] #[ptr W.heap.size]) 8 (decide (t.keys ++ q.run = []))) := Lib.hid (.empty _ _ _ (empty_tells (Qb.new W q nv wv) (hD.below (Gr.alloc W (qo q nv wv)).below) hb))
  unfold qo at HB HR
  unfold qv
  go_enter Tryz.func56, Tryz.ntmps56
  go_wp2
  go_ret
  exact ⟨⟨_, rfl, HR.out⟩, HB.out⟩

set_option maxRecDepth 100000 in
theorem noWeight_rz {W : World} (hT : Tab W) (x : Int) :
    Calls Tryz.prog 43 #[.int .i64 x] W fun en w' => (∃ b, en = .returned (.func (.func 93) #[] #[ptr b]) ∧ Rz w' (.func (.func 93) #[] #[ptr b]) 1 (!decide (wOkN x))) ∧ Below W.heap.size W w' := by
  have HB := Lib.hid (Gr.alloc W (.cells #[.int .i64 x] 3)).below
  have HR : Hid (Rz (W.alloc (.cells #[.int .i64 x] 3)) (.func (.func 93) #[] #[ptr W.heap.size]) 1 (!decide (wOkN x))) := Lib.hid (.noWeight _ _ _ (noWeight_tells (hT.below (Gr.alloc W _).below) (newC W _ _)))
  go_enter Tryz.func43, Tryz.ntmps43
  go_wp2
  go_ret
  exact ⟨⟨_, rfl, HR.out⟩, HB.out⟩

set_option maxRecDepth 100000 in
theorem noTick_rz {W : World}  (x : Int) :
    Calls Tryz.prog 59 #[.int .i64 x] W fun en w' => (∃ b, en = .returned (.func (.func 108) #[] #[ptr b]) ∧ Rz w' (.func (.func 108) #[] #[ptr b]) 1 (!decide (0 ≤ x ∧ x ≤ 1099511627776))) ∧ Below W.heap.size W w' := by
  have HB := Lib.hid (Gr.alloc W (.cells #[.int .i64 x] 3)).below
  have HR : Hid (Rz (W.alloc (.cells #[.int .i64 x] 3)) (.func (.func 108) #[] #[ptr W.heap.size]) 1 (!decide (0 ≤ x ∧ x ≤ 1099511627776))) := Lib.hid (.noTick _ _ _ (noTick_tells (newC W _ _)))
  go_enter Tryz.func59, Tryz.ntmps59
  go_wp2
  go_ret
  exact ⟨⟨_, rfl, HR.out⟩, HB.out⟩

set_option maxRecDepth 100000 in
theorem noTask_rz {W : World} {q : Q} {a : Option Addr} {n cp : Nat} {wv : Value} (hn : n = q.t.ns.length) (id : Int) :
    Calls Tryz.prog 42 #[qv q (.slice a n cp) wv, .int .i64 id] W fun en w' => (∃ b c, en = .returned (.func (.func 91) #[] #[ptr b, ptr c]) ∧ (Rz w' (.func (.func 91) #[] #[ptr b, ptr c]) 1 (!decide (q.t.has id)))) ∧ Below W.heap.size W w' := by
  have HB := Lib.hid ((Gr.alloc W (qo q (.slice a n cp) wv)).trans (Gr.alloc _ (.cells #[.int .i64 id] 3))).below
  have hQ := (Qb.new W q (.slice a n cp) wv).gr (Gr.alloc _ (.cells #[.int .i64 id] 3))
  have hc := newC (W.alloc (qo q (.slice a n cp) wv)) (.int .i64 id) 3
  rw [show (W.alloc (qo q (.slice a n cp) wv)).heap.size = W.heap.size + 1 by simp] at hc
  have HR : Hid (Rz ((W.alloc (qo q (.slice a n cp) wv)).alloc (.cells #[.int .i64 id] 3)) (.func (.func 91) #[] #[ptr W.heap.size, ptr (W.heap.size + 1)]) 1 (!decide (q.t.has id))) := Lib.hid (.noTask _ _ _ _ (noTask_tells hQ hn hc))
  unfold qo at HB HR
  clear hQ hc hn
  unfold qv
  go_enter Tryz.func42, Tryz.ntmps42
  go_wp2
  go_ret
  exact ⟨⟨_, _, rfl, HR.out⟩, HB.out⟩

set_option maxRecDepth 100000 in
theorem busy_rz {W : World} {q : Q} {nv wv : Value} (hN : Nds W nv q.t.ns) (id : Int) :
    Calls Tryz.prog 44 #[qv q nv wv, .int .i64 id] W fun en w' => (∃ b c, en = .returned (.func (.func 95) #[] #[ptr b, ptr c]) ∧ (q.t.has id → Rz w' (.func (.func 95) #[] #[ptr b, ptr c]) 9 (q.here id))) ∧ Below W.heap.size W w' := by
  have HB := Lib.hid ((Gr.alloc W (qo q nv wv)).trans (Gr.alloc _ (.cells #[.int .i64 id] 3))).below
  have hQ := (Qb.new W q nv wv).gr (Gr.alloc _ (.cells #[.int .i64 id] 3))
  have hc := newC (W.alloc (qo q nv wv)) (.int .i64 id) 3
  rw [show (W.alloc (qo q nv wv)).heap.size = W.heap.size + 1 by simp] at hc
  have HR : Hid (q.t.has id → Rz ((W.alloc (qo q nv wv)).alloc (.cells #[.int .i64 id] 3)) (.func (.func 95) #[] #[ptr W.heap.size, ptr (W.heap.size + 1)]) 9 (q.here id)) := Lib.hid (fun hid => .busy _ _ _ _ (busy_tells hQ (hN.below HB.out) hid hc))
  unfold qo at HB HR
  clear hQ hc
  unfold qv
  go_enter Tryz.func44, Tryz.ntmps44
  go_wp2
  go_ret
  exact ⟨⟨_, _, rfl, HR.out⟩, HB.out⟩

set_option maxRecDepth 100000 in
theorem away_rz {W : World} {q : Q} {nv wv : Value} (hN : Nds W nv q.t.ns) (id : Int) :
    Calls Tryz.prog 50 #[qv q nv wv, .int .i64 id] W fun en w' => (∃ b c, en = .returned (.func (.func 101) #[] #[ptr b, ptr c]) ∧ (q.t.has id → Rz w' (.func (.func 101) #[] #[ptr b, ptr c]) 8 (!q.here id))) ∧ Below W.heap.size W w' := by
  have HB := Lib.hid ((Gr.alloc W (qo q nv wv)).trans (Gr.alloc _ (.cells #[.int .i64 id] 3))).below
  have hQ := (Qb.new W q nv wv).gr (Gr.alloc _ (.cells #[.int .i64 id] 3))
  have hc := newC (W.alloc (qo q nv wv)) (.int .i64 id) 3
  rw [show (W.alloc (qo q nv wv)).heap.size = W.heap.size + 1 by simp] at hc
  have HR : Hid (q.t.has id → Rz ((W.alloc (qo q nv wv)).alloc (.cells #[.int .i64 id] 3)) (.func (.func 101) #[] #[ptr W.heap.size, ptr (W.heap.size + 1)]) 8 (!q.here id)) := Lib.hid (fun hid => .away _ _ _ _ (away_tells hQ (hN.below HB.out) hid hc))
  unfold qo at HB HR
  clear hQ hc
  unfold qv
  go_enter Tryz.func50, Tryz.ntmps50
  go_wp2
  go_ret
  exact ⟨⟨_, _, rfl, HR.out⟩, HB.out⟩

end Go.Proofs.YtpmknpdnhfnfcaaGreatDoor
