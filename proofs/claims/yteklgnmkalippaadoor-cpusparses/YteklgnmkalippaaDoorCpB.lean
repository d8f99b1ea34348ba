/-
  Contracts of layer 5's reading: item, the closure that reads on, items, Parse.
-/
import Derived.Test.YteklgnmkalippaaDoorCpA
import Derived.RangeFuncBox
namespace Go.Proofs.YteklgnmkalippaaDoor
open Go.RowKit Go.Shelf Mk Cp
attribute [local go_sem] Oper.semAt_some

theorem hd_len (c : UInt8) (l : List UInt8) : (hd c l).length ≤ l.length := by
  by_cases h : c ∈ l
  · obtain ⟨x, y, rfl, hx⟩ := parts h
    rw [hd_at hx]; simp
  · rw [hd_no h]; omega
theorem second_len (l : List UInt8) : (second l).length ≤ l.length := by
  unfold second
  by_cases h : 45 ∈ l
  · rw [if_pos h]
    obtain ⟨x, y, rfl, hx⟩ := parts h
    rw [tl_at hx]; simp; omega
  · rw [if_neg h]; omega
def itI (l : List UInt8) : Nat := (itemN l).getD 0
def itB (l : List UInt8) : Bool := (itemN l).isSome
theorem V_itI (l : List UInt8) : V (itI l) := by
  unfold itI
  cases h : itemN l with
  | none => exact V_zero
  | some x => exact (itemN_ne h).2

set_option maxHeartbeats 1000000 in
/-- behind the first line. -/
theorem item_core (l a b : List UInt8) (t : Bool) (ha : hd 45 l = a) (hb : (if t then behind l else a) = b) (ht : dash l = t) (hs : second l = b) (hl : l.length ≤ 281474976710656) (w : World) (hE : Errs w) :
    Calls Tryd.prog 38 #[.string (st l)] w fun e w' => e = .returned (.tuple #[.int .u64 (itI l : Nat), .bool (itB l)]) ∧ Below w.heap.size w w' := by
  have hla : a.length ≤ 281474976710656 := by rw [← ha]; exact Nat.le_trans (hd_len _ _) hl
  have hlb : b.length ≤ 281474976710656 := by rw [← hs]; exact Nat.le_trans (second_len _) hl
  have HI : Hid (itemN l = pairN (cpuN a) (cpuN b)) := by unfold Hid itemN; rw [ha, hs]
  have HA := Lib.hid ha
  have HT := Lib.hid ht
  have HB := Lib.hid hb
  clear ha ht hs hb
  go_enter Tryd.func38, Tryd.ntmps38
  go_wp2_with fail
  refine (cut_any l hl _).mono ?_
  rintro e' w_b1 ⟨rfl, b1⟩
  rw [HA.out, HT.out]
  have E1 := Lib.hid (hE.below b1)
  clear hE hl HA HT
  cases t with
  | true =>
    have hbb : behind l = b := HB.out
    rw [hbb]
    clear HB hbb
    go_wp2_with fail
    refine (cpu_any a hla _ E1.out).mono ?_
    rintro e' w_b2 ⟨rfl, b2⟩
    have E2 := Lib.hid (E1.out.below b2)
    go_wp2_with fail
    refine (cpu_any b hlb _ E2.out).mono ?_
    rintro e' w_b3 ⟨rfl, b3⟩
    have bb := bOn (bOn b1 b2) b3
    clear E1 E2 b1 b2 b3
    cases hca : cpuN a with
    | none =>
      obtain ⟨e1, e2⟩ := cpu_no hca
      rw [e1, e2]
      have H : Hid (itI l = 0 ∧ itB l = false) := by unfold Hid itI itB; rw [HI.out, hca]; exact ⟨rfl, rfl⟩
      clear hca e1 e2 HI
      go_wp2
      go_ret2
      exact ⟨by rw [H.out.1, H.out.2]; rfl, bb⟩
    | some x =>
      obtain ⟨e1, e2⟩ := cpu_at hca
      rw [e1, e2]
      clear e1 e2
      cases hcb : cpuN b with
      | none =>
        obtain ⟨e1, e2⟩ := cpu_no hcb
        rw [e1, e2]
        have H : Hid (itI l = 0 ∧ itB l = false) := by unfold Hid itI itB; rw [HI.out, hcb, pairN_none]; exact ⟨rfl, rfl⟩
        clear hca hcb e1 e2 HI
        go_wp2
        go_ret2
        exact ⟨by rw [H.out.1, H.out.2]; rfl, bb⟩
      | some y =>
        obtain ⟨e1, e2⟩ := cpu_at hcb
        rw [e1, e2]
        clear e1 e2
        have hx := (cpuN_some hca).1
        have hy := (cpuN_some hcb).1
        by_cases hxy : x ≤ y
        · have H : Hid (itI l = rng x y ∧ itB l = true) := by unfold Hid itI itB; rw [HI.out, hca, hcb]; simp [pairN, hxy]
          have HR : Hid (bits .andNot .u64 (allM ((y : Int) + 1) : Nat) (allM (x : Int) : Nat) = (rng x y : Nat)) := u64_andNot_nat _ _ (V_all _) (V_all _)
          clear hca hcb HI
          go_wp2_with fail
          refine (all_any ((y : Int) + 1) _).mono ?_
          rintro e' w' ⟨rfl, rfl⟩
          go_wp2_with fail
          refine (all_any (x : Int) _).mono ?_
          rintro e' w' ⟨rfl, rfl⟩
          go_wp2
          go_ret2
          exact ⟨by rw [H.out.1, H.out.2, HR.out]; rfl, bb⟩
        · have H : Hid (itI l = 0 ∧ itB l = false) := by unfold Hid itI itB; rw [HI.out, hca, hcb]; simp [pairN, hxy]
          clear hca hcb HI
          go_wp2
          go_ret2
          exact ⟨by rw [H.out.1, H.out.2]; rfl, bb⟩
  | false =>
    have hbb : a = b := HB.out
    subst hbb
    clear HB hlb
    go_wp2_with fail
    refine (cpu_any a hla _ E1.out).mono ?_
    rintro e' w_b2 ⟨rfl, b2⟩
    have E2 := Lib.hid (E1.out.below b2)
    go_wp2_with fail
    refine (cpu_any a hla _ E2.out).mono ?_
    rintro e' w_b3 ⟨rfl, b3⟩
    have bb := bOn (bOn b1 b2) b3
    clear E1 E2 b1 b2 b3
    cases hca : cpuN a with
    | none =>
      obtain ⟨e1, e2⟩ := cpu_no hca
      rw [e1, e2]
      have H : Hid (itI l = 0 ∧ itB l = false) := by unfold Hid itI itB; rw [HI.out, hca]; exact ⟨rfl, rfl⟩
      clear hca e1 e2 HI
      go_wp2
      go_ret2
      exact ⟨by rw [H.out.1, H.out.2]; rfl, bb⟩
    | some x =>
      obtain ⟨e1, e2⟩ := cpu_at hca
      rw [e1, e2]
      clear e1 e2
      have hx := (cpuN_some hca).1
      have H : Hid (itI l = rng x x ∧ itB l = true) := by unfold Hid itI itB; rw [HI.out, hca]; simp [pairN]
      have HR : Hid (bits .andNot .u64 (allM ((x : Int) + 1) : Nat) (allM (x : Int) : Nat) = (rng x x : Nat)) := u64_andNot_nat _ _ (V_all _) (V_all _)
      clear hca HI
      go_wp2_with fail
      refine (all_any ((x : Int) + 1) _).mono ?_
      rintro e' w' ⟨rfl, rfl⟩
      go_wp2_with fail
      refine (all_any (x : Int) _).mono ?_
      rintro e' w' ⟨rfl, rfl⟩
      go_wp2
      go_ret2
      exact ⟨by rw [H.out.1, H.out.2, HR.out]; rfl, bb⟩

theorem item_any (l : List UInt8) (hl : l.length ≤ 281474976710656) (w : World) (hE : Errs w) :
    Calls Tryd.prog 38 #[.string (st l)] w fun e w' => e = .returned (.tuple #[.int .u64 (itI l : Nat), .bool (itB l)]) ∧ Below w.heap.size w w' := by
  by_cases h : 45 ∈ l
  · exact item_core l (hd 45 l) (tl 45 l) true rfl (by unfold behind; rw [if_pos h]; rfl) (decide_eq_true h) (by unfold second; rw [if_pos h]) hl w hE
  · exact item_core l l l false (hd_no h) rfl (decide_eq_false h) (by unfold second; rw [if_neg h]) hl w hE

/-! ### the closure -/
set_option maxHeartbeats 400000 in
theorem reader_any (l : List UInt8) (w : World) :
    Calls Tryd.prog 37 #[.string (st l)] w fun e w' => e = .returned (.func (.func 46) #[] #[.pointer (some ⟨w.heap.size, 0, none⟩)]) ∧ w.alloc (.cells #[.string (st l)] 9) = w' := by
  go_enter Tryd.func37, Tryd.ntmps37
  go_wp2
  go_ret
  exact ⟨rfl, rfl⟩

/-- what a call reads, of what is still there. -/
def pieceLen (l : List UInt8) : Nat := if 44 ∈ l then (if hd 44 l = [] then 1 else (hd 44 l).length) else l.length

set_option maxHeartbeats 1000000 in
theorem read_any (l : List UInt8) (hl : l.length ≤ 281474976710656) (p : Addr) (w : World) (hc : w.cell? p = some (.string (st l))) (hf : w.frozen? p = false) :
    Calls Tryd.prog 46 #[.pointer (some p)] w fun e w' => e = .returned (.string (st (l.take (pieceLen l)))) ∧ w.setCell p (.string (st (l.drop (pieceLen l)))) = w' := by
  obtain ⟨n, hn⟩ : ∃ n, n = l.length := ⟨_, rfl⟩
  have hz : (st l).size = n := by rw [st_size, hn]
  have hn2 : n ≤ 281474976710656 := by rw [hn]; exact hl
  clear hl
  by_cases h : 44 ∈ l
  · obtain ⟨x, y, hxy, hx⟩ := parts h
    by_cases h0 : x = []
    · have HI : Hid (Lib.indexByte l 44 = 0) := by unfold Hid; rw [hxy, ix_at hx, h0]; rfl
      have hp : pieceLen l = 1 := by unfold pieceLen; rw [if_pos h, hxy, hd_at hx, if_pos h0]
      have h1 : 1 ≤ n := by rw [hn, hxy]; simp; omega
      rw [hp]
      have H1 : Hid ((st l).extract 0 1 = st (l.take 1)) := st_take _ _ (by omega)
      have H2 : Hid ((st l).extract 1 n = st (l.drop 1)) := st_drop _ _ _ hn
      clear hn h hxy hp
      go_enter Tryd.func46, Tryd.ntmps46
      go_wp2_with fail
      refine (index_any l 44 _).mono ?_
      rintro e' w' ⟨rfl, rfl⟩
      rw [HI.out]
      go_wp2
      go_ret
      rw [H1.out, H2.out]
      exact ⟨rfl, rfl⟩
    · obtain ⟨k, hk⟩ : ∃ k, k = x.length := ⟨_, rfl⟩
      have HI : Hid (Lib.indexByte l 44 = (k : Nat)) := by unfold Hid; rw [hxy, ix_at hx, hk]
      have hp : pieceLen l = k := by unfold pieceLen; rw [if_pos h, hxy, hd_at hx, if_neg h0, hk]
      have hk1 : 1 ≤ k := by rw [hk]; have := List.length_pos_iff.2 h0; omega
      have hkn : k ≤ n := by rw [hn, hxy, hk]; simp
      rw [hp]
      have H1 : Hid ((st l).extract 0 k = st (l.take k)) := st_take _ _ (by omega)
      have H2 : Hid ((st l).extract k n = st (l.drop k)) := st_drop _ _ _ hn
      have q1 : ((k : Int) == -1) = false := by simp
      have q2 : ((k : Int) == 0) = false := by simp; omega
      clear hn h hxy hp hk h0
      go_enter Tryd.func46, Tryd.ntmps46
      go_wp2_with fail
      refine (index_any l 44 _).mono ?_
      rintro e' w' ⟨rfl, rfl⟩
      rw [HI.out]
      go_wp2
      go_ret
      rw [H1.out, H2.out]
      exact ⟨rfl, rfl⟩
  · have HI : Hid (Lib.indexByte l 44 = -1) := ix_no h
    have hp : pieceLen l = n := by unfold pieceLen; rw [if_neg h, hn]
    rw [hp]
    have H1 : Hid ((st l).extract 0 n = st (l.take n)) := st_take _ _ (by omega)
    have H2 : Hid (ByteArray.empty = st (l.drop n)) := by
      unfold Hid
      rw [hn, List.drop_length]; rfl
    clear hn h hp
    go_enter Tryd.func46, Tryd.ntmps46
    go_wp2_with fail
    refine (index_any l 44 _).mono ?_
    rintro e' w' ⟨rfl, rfl⟩
    rw [HI.out]
    go_wp2
    go_ret
    rw [H1.out, H2.out]
    exact ⟨rfl, rfl⟩

theorem boxed_below {w w' : World} {B : Nat} {t : TypeId} {v : Value} (h : Boxed w B t v) (hb : Below w.heap.size w w') : Boxed w' B t v := (hb.block B h.lt).trans h
theorem read_box (l : List UInt8) (hl : l.length ≤ 281474976710656) (B : Nat) (w : World) (h : Boxed w B 9 (.string (st l))) :
    Calls Tryd.prog 46 #[.pointer (some ⟨B, 0, none⟩)] w fun e w' => e = .returned (.string (st (l.take (pieceLen l)))) ∧ Boxed w' B 9 (.string (st (l.drop (pieceLen l)))) ∧ Below B w w' := by
  refine (read_any l hl ⟨B, 0, none⟩ w h.cell h.frozen).mono ?_
  rintro e w' ⟨rfl, rfl⟩
  exact ⟨rfl, h.set _, (Below.refl B w).setCell (p := ⟨B, 0, none⟩) (Nat.le_refl _) _⟩

/-! ### what is still to be read -/
def boxLen (w : World) (B : Nat) : Nat := match w.cell? ⟨B, 0, none⟩ with
  | some (.string s) => s.size
  | _ => 0
theorem boxLen_at {w : World} {B : Nat} {t : TypeId} {r : List UInt8} (h : Boxed w B t (.string (st r))) : boxLen w B = r.length := by
  unfold boxLen
  rw [h.cell]
  exact st_size r
theorem three (r : List UInt8) : r = [] ∨ (∃ t, r = 44 :: t) ∨ (∃ x r', x ≠ [] ∧ (44 : UInt8) ∉ x ∧ r = x ++ r' ∧ (r' = [] ∨ ∃ y, r' = 44 :: y)) := by
  by_cases h : (44 : UInt8) ∈ r
  · obtain ⟨x, y, rfl, hx⟩ := parts h
    by_cases h0 : x = []
    · subst h0; exact .inr (.inl ⟨y, rfl⟩)
    · exact .inr (.inr ⟨x, 44 :: y, h0, hx, rfl, .inr ⟨y, rfl⟩⟩)
  · by_cases h0 : r = []
    · exact .inl h0
    · exact .inr (.inr ⟨r, [], h0, h, by simp, .inl rfl⟩)
theorem piece_nil : pieceLen [] = 0 := rfl
theorem piece_comma (t : List UInt8) : pieceLen (44 :: t) = 1 := by
  unfold pieceLen
  have : hd 44 (44 :: t) = [] := hd_at (x := []) (by simp)
  rw [if_pos (by simp), this, if_pos rfl]
theorem piece_item {x r' : List UInt8} (h0 : x ≠ []) (hx : (44 : UInt8) ∉ x) (hr : r' = [] ∨ ∃ y, r' = 44 :: y) : pieceLen (x ++ r') = x.length := by
  unfold pieceLen
  rcases hr with rfl | ⟨y, rfl⟩
  · rw [List.append_nil, if_neg hx]
  · rw [if_pos (by simp), hd_at hx, if_neg h0]
def Pend (m : Nat) (r : List UInt8) (ps : List (List UInt8)) : Prop := (m = 0 ∧ ps = splitB 44 r) ∨ (m ≠ 0 ∧ r = [] ∧ ps = []) ∨ (m ≠ 0 ∧ ∃ t, r = 44 :: t ∧ ps = splitB 44 t)
theorem split_item {x r' : List UInt8} (hx : (44 : UInt8) ∉ x) (hr : r' = [] ∨ ∃ y, r' = 44 :: y) (m : Nat) (hm : m ≠ 0) : ∃ ps, splitB 44 (x ++ r') = x :: ps ∧ Pend m r' ps := by
  rcases hr with rfl | ⟨y, rfl⟩
  · exact ⟨[], by rw [List.append_nil, splitB_no hx], .inr (.inl ⟨hm, rfl, rfl⟩)⟩
  · exact ⟨splitB 44 y, splitB_at y hx, .inr (.inr ⟨hm, y, rfl, rfl⟩)⟩
def psI (l : List UInt8) : Nat := (parseI l).getD 0
def psB (l : List UInt8) : Bool := (parseI l).isSome
theorem ps_no {l : List UInt8} (h : parseI l = none) : psI l = 0 ∧ psB l = false := by unfold psI psB; rw [h]; exact ⟨rfl, rfl⟩
theorem ps_at {l : List UInt8} {m : Nat} (h : parseI l = some m) : psI l = m ∧ psB l = true := by unfold psI psB; rw [h]; exact ⟨rfl, rfl⟩
theorem it_no {l : List UInt8} (h : itemN l = none) : itI l = 0 ∧ itB l = false := by unfold itI itB; rw [h]; exact ⟨rfl, rfl⟩
theorem it_at {l : List UInt8} {m : Nat} (h : itemN l = some m) : itI l = m ∧ itB l = true := by unfold itI itB; rw [h]; exact ⟨rfl, rfl⟩
theorem or_walk (m x : Nat) (hm : V m) (hx : V x) : bits .or .u64 (m : Int) (x : Int) = ((m ||| x : Nat) : Int) := bits_or_u64_nat m x hm hx
theorem st_nil_ne {x : List UInt8} (h : x ≠ []) : (st x).toList.isEmpty = false := by
  rw [st_toList]
  cases x with
  | nil => exact absurd rfl h
  | cons a t => rfl
theorem st_nil : (st []).toList.isEmpty = true := by rw [st_toList]; rfl
theorem st_one_ne {x : List UInt8} {c : UInt8} (h : x ≠ [c]) : ((st x).toList == [c]) = false := by
  rw [st_toList]; simpa using h
theorem st_one (c : UInt8) : ((st [c]).toList == [c]) = true := by rw [st_toList]; simp

set_option maxRecDepth 100000 in
set_option maxHeartbeats 4000000 in
theorem items_any (l : List UInt8) (hl : l.length ≤ 281474976710656) (w : World) (hE : Errs w) :
    Calls Tryd.prog 23 #[.string (st l)] w fun e w' => e = .returned (.tuple #[.int .u64 (psI l : Nat), .bool (psB l)]) ∧ Below w.heap.size w w' := by
  have HE := Lib.hid hE
  clear hE
  go_enter Tryd.func23, Tryd.ntmps23
  go_wp2_with fail
  refine (reader_any l _).mono ?_
  rintro e w1 ⟨rfl, rfl⟩
  have hB0 : Hid (Below w.heap.size w (w.alloc (.cells #[.string (st l)] 9))) := (Below.refl _ w).alloc (Nat.le_refl _) _
  have hX0 : Hid (Boxed (w.alloc (.cells #[.string (st l)] 9)) w.heap.size 9 (.string (st l))) := Boxed.new w _ _
  generalize w.alloc (.cells #[.string (st l)] 9) = w1 at *
  go_wp2
  go_loopw [4] (fun s wr => ∃ (m : Nat) (r : List UInt8) (ps : List (List UInt8)), s = .int .u64 m ∧ V m ∧ r.length ≤ 281474976710656 ∧ Pend m r ps ∧ foldI m ps = parseI l ∧ Boxed wr w.heap.size 9 (.string (st r)) ∧ Below w.heap.size w wr) (fun _ wr => boxLen wr w.heap.size)
  case atStart => exact ⟨0, l, _, rfl, V_zero, hl, .inl ⟨rfl, rfl⟩, rfl, hX0.out, hB0.out⟩
  case round =>
    obtain ⟨m, r, ps, rfl, hV, hr, hP, hF, hX0', hB0'⟩ := hrel
    have HV := Lib.hid hV
    have hX := Lib.hid hX0'
    have hB := Lib.hid hB0'
    clear hV hX0' hB0' hX0 hB0
    by_cases hm : m = 0
    · have hm1 : ((m : Int) == 0) = true := by rw [hm]; rfl
      have hm2 : ((m : Int) != 0) = false := by rw [hm]; rfl
      have HF : Hid (parseI l = foldI m (splitB 44 r)) := by
        unfold Hid
        rcases hP with ⟨-, h⟩ | ⟨h, -⟩ | ⟨h, -⟩
        · rw [← hF, h]
        · exact absurd hm h
        · exact absurd hm h
      have HM := Lib.hid hm
      clear hP hF hm
      rcases three r with rfl | ⟨t, rfl⟩ | ⟨x, r', h0, hx, rfl, hr'⟩
      · have H : Hid (psI l = m ∧ psB l = false) := by
          have := ps_no (l := l) (by rw [HF.out]; exact foldI_bad _ (p := []) (by simp [splitB]) itemN_nil)
          rw [HM.out]; exact this
        go_wp2_with fail
        refine (read_box [] hr _ _ hX.out).mono ?_
        rintro e2 w2 ⟨rfl, hX2', hB2'⟩
        have hB2 : Hid (Below w.heap.size w w2) := hB.out.trans hB2'
        clear hX2' hB2'
        have e0 : st (([] : List UInt8).take (pieceLen [])) = st [] := rfl
        rw [e0]
        have q0 := st_nil
        go_wp2
        go_ret2
        exact ⟨by rw [H.out.1, H.out.2]; rfl, hB2.out⟩
      · have H : Hid (psI l = 0 ∧ psB l = false) := by
          refine ps_no (l := l) (by rw [HF.out]; exact foldI_bad _ (p := []) (by simp [splitB]) itemN_nil)
        go_wp2_with fail
        refine (read_box (44 :: t) hr _ _ hX.out).mono ?_
        rintro e2 w2 ⟨rfl, hX2', hB2'⟩
        have hB2 : Hid (Below w.heap.size w w2) := hB.out.trans hB2'
        clear hX2' hB2'
        have e0 : st ((44 :: t).take (pieceLen (44 :: t))) = st [44] := by rw [piece_comma]; rfl
        rw [e0]
        have q0 := st_nil_ne (x := [44]) (by simp)
        have q1 := st_one 44
        go_wp2
        go_ret2
        exact ⟨by rw [H.out.1, H.out.2]; rfl, hB2.out⟩
      · have HS : Hid (∀ y, itemN x = some y → ∃ ps, Pend (m ||| y) r' ps ∧ foldI (m ||| y) ps = parseI l) := by
          intro y hy
          obtain ⟨ps, h1, h2⟩ := split_item hx hr' (m ||| y) (or_ne (itemN_ne hy).1)
          refine ⟨ps, h2, ?_⟩
          rw [HF.out, h1, foldI, hy]
        have HN : Hid (itemN x = none → parseI l = none) := by
          intro hy
          obtain ⟨ps, h1, -⟩ := split_item hx hr' 1 (by omega)
          rw [HF.out, h1, foldI, hy]
        have HL : Hid (x.length ≤ 281474976710656) := by unfold Hid; rw [List.length_append] at hr; omega
        have HRL : Hid (r'.length ≤ 281474976710656) := by unfold Hid; rw [List.length_append] at hr; omega
        have HD : Hid (r'.length < (x ++ r').length) := by unfold Hid; have := List.length_pos_iff.2 h0; rw [List.length_append]; omega
        go_wp2_with fail
        refine (read_box (x ++ r') hr _ _ hX.out).mono ?_
        rintro e2 w2 ⟨rfl, hX2', hB2'⟩
        rw [piece_item h0 hx hr', List.drop_left] at hX2'
        rw [piece_item h0 hx hr', List.take_left]
        have hB2 : Hid (Below w.heap.size w w2) := hB.out.trans hB2'
        have hX2 := Lib.hid hX2'
        have q0 := st_nil_ne h0
        have q1 := st_one_ne (x := x) (c := 44) (by rintro rfl; simp at hx)
        clear hX2' hB2' h0 hx hr' HF HM
        go_wp2_with fail
        refine (item_any x HL.out _ (HE.out.below hB2.out)).mono ?_
        rintro e3 w3 ⟨rfl, h3⟩
        have hB3 : Hid (Below w.heap.size w w3) := hB2.out.trans (h3.mono hB2.out.size)
        have hX3 : Hid (Boxed w3 w.heap.size 9 (.string (st r'))) := boxed_below hX2.out h3
        clear hB2 hX2 h3
        cases hi : itemN x with
        | none =>
          obtain ⟨e1, e2⟩ := it_no hi
          rw [e1, e2]
          have H : Hid (psI l = 0 ∧ psB l = false) := ps_no (HN.out hi)
          clear hi e1 e2 HS HN
          go_wp2
          go_ret2
          exact ⟨by rw [H.out.1, H.out.2]; rfl, hB3.out⟩
        | some y =>
          obtain ⟨e1, e2⟩ := it_at hi
          rw [e1, e2]
          have hy := itemN_ne hi
          have HO : Hid (bits .or .u64 (m : Int) (y : Int) = ((m ||| y : Nat) : Int)) := or_walk m y HV.out hy.2
          have HP3 := Lib.hid (HS.out y hi)
          have HV3 : Hid (V (m ||| y)) := V_or HV.out hy.2
          clear hi e1 e2 HS HN hy
          go_wp2
          obtain ⟨ps3, hP3, hF3⟩ := HP3.out
          refine ⟨⟨m ||| y, r', ps3, by rw [HO.out], HV3.out, HRL.out, hP3, hF3, hX3.out, hB3.out⟩, ?_⟩
          rw [boxLen_at hX3.out, boxLen_at hX.out]
          exact HD.out
    · have hm1 : ((m : Int) == 0) = false := by simpa using hm
      have hm2 : ((m : Int) != 0) = true := by simpa using hm
      rcases hP with ⟨h, -⟩ | ⟨-, rfl, rfl⟩ | ⟨-, t, rfl, rfl⟩
      · exact absurd h hm
      · have H : Hid (psI l = m ∧ psB l = true) := ps_at hF.symm
        clear hF hm
        go_wp2_with fail
        refine (read_box [] hr _ _ hX.out).mono ?_
        rintro e2 w2 ⟨rfl, hX2', hB2'⟩
        have hB2 : Hid (Below w.heap.size w w2) := hB.out.trans hB2'
        clear hX2' hB2'
        have e0 : st (([] : List UInt8).take (pieceLen [])) = st [] := rfl
        rw [e0]
        have q0 := st_nil
        go_wp2
        go_ret2
        exact ⟨by rw [H.out.1, H.out.2]; rfl, hB2.out⟩
      · have HF := Lib.hid hF
        have HM := Lib.hid hm
        clear hF hm
        go_wp2_with fail
        refine (read_box (44 :: t) hr _ _ hX.out).mono ?_
        rintro e2 w2' ⟨rfl, hX2', hB2'⟩
        rw [piece_comma] at hX2'
        have hX2a : Hid (Boxed w2' w.heap.size 9 (.string (st t))) := hX2'
        have hB2a : Hid (Below w.heap.size w w2') := hB.out.trans hB2'
        clear hX2' hB2'
        have e0 : st ((44 :: t).take (pieceLen (44 :: t))) = st [44] := by rw [piece_comma]; rfl
        rw [e0]
        have q0 := st_nil_ne (x := [44]) (by simp)
        have q1 := st_one 44
        have hrt : t.length ≤ 281474976710656 := by rw [List.length_cons] at hr; omega
        rcases three t with rfl | ⟨t', rfl⟩ | ⟨x, r', h0, hx, rfl, hr'⟩
        · have HN : Hid (parseI l = none) := by unfold Hid; rw [← HF.out]; exact foldI_bad _ (p := []) (by simp [splitB]) itemN_nil
          go_wp2_with fail
          refine (read_box [] hrt _ _ hX2a.out).mono ?_
          rintro e2 w2 ⟨rfl, hX2', hB2'⟩
          have hB2 : Hid (Below w.heap.size w w2) := hB2a.out.trans hB2'
          clear hX2' hB2'
          have e0 : st (([] : List UInt8).take (pieceLen [])) = st [] := rfl
          rw [e0]
          go_wp2_with fail
          refine (item_any [] hrt _ (HE.out.below hB2.out)).mono ?_
          rintro e3 w3 ⟨rfl, h3⟩
          have hB3 : Hid (Below w.heap.size w w3) := hB2.out.trans (h3.mono hB2.out.size)
          clear hB2 h3
          obtain ⟨e1, e2⟩ := it_no itemN_nil
          rw [e1, e2]
          have H : Hid (psI l = 0 ∧ psB l = false) := ps_no HN.out
          clear e1 e2 HN
          go_wp2
          go_ret2
          exact ⟨by rw [H.out.1, H.out.2]; rfl, hB3.out⟩
        · have HN : Hid (parseI l = none) := by unfold Hid; rw [← HF.out]; exact foldI_bad _ (p := []) (by simp [splitB]) itemN_nil
          go_wp2_with fail
          refine (read_box (44 :: t') hrt _ _ hX2a.out).mono ?_
          rintro e2 w2 ⟨rfl, hX2', hB2'⟩
          have hB2 : Hid (Below w.heap.size w w2) := hB2a.out.trans hB2'
          clear hX2' hB2'
          have e0 : st ((44 :: t').take (pieceLen (44 :: t'))) = st [44] := by rw [piece_comma]; rfl
          rw [e0]
          go_wp2_with fail
          refine (item_any [44] (by simp) _ (HE.out.below hB2.out)).mono ?_
          rintro e3 w3 ⟨rfl, h3⟩
          have hB3 : Hid (Below w.heap.size w w3) := hB2.out.trans (h3.mono hB2.out.size)
          clear hB2 h3
          obtain ⟨e1, e2⟩ := it_no itemN_comma
          rw [e1, e2]
          have H : Hid (psI l = 0 ∧ psB l = false) := ps_no HN.out
          clear e1 e2 HN
          go_wp2
          go_ret2
          exact ⟨by rw [H.out.1, H.out.2]; rfl, hB3.out⟩
        · have HS : Hid (∀ y, itemN x = some y → ∃ ps, Pend (m ||| y) r' ps ∧ foldI (m ||| y) ps = parseI l) := by
            intro y hy
            obtain ⟨ps, h1, h2⟩ := split_item hx hr' (m ||| y) (or_ne (itemN_ne hy).1)
            refine ⟨ps, h2, ?_⟩
            rw [← HF.out, h1, foldI, hy]
          have HN : Hid (itemN x = none → parseI l = none) := by
            intro hy
            obtain ⟨ps, h1, -⟩ := split_item hx hr' 1 (by omega)
            rw [← HF.out, h1, foldI, hy]
          have HL : Hid (x.length ≤ 281474976710656) := by unfold Hid; rw [List.length_append] at hrt; omega
          have HRL : Hid (r'.length ≤ 281474976710656) := by unfold Hid; rw [List.length_append] at hrt; omega
          have HD : Hid (r'.length < (44 :: (x ++ r')).length) := by unfold Hid; rw [List.length_cons, List.length_append]; omega
          go_wp2_with fail
          refine (read_box (x ++ r') hrt _ _ hX2a.out).mono ?_
          rintro e2 w2 ⟨rfl, hX2', hB2'⟩
          rw [piece_item h0 hx hr', List.drop_left] at hX2'
          rw [piece_item h0 hx hr', List.take_left]
          have hB2 : Hid (Below w.heap.size w w2) := hB2a.out.trans hB2'
          have hX2 := Lib.hid hX2'
          clear hX2' hB2' h0 hx hr' HF HM hX2a hB2a
          go_wp2_with fail
          refine (item_any x HL.out _ (HE.out.below hB2.out)).mono ?_
          rintro e3 w3 ⟨rfl, h3⟩
          have hB3 : Hid (Below w.heap.size w w3) := hB2.out.trans (h3.mono hB2.out.size)
          have hX3 : Hid (Boxed w3 w.heap.size 9 (.string (st r'))) := boxed_below hX2.out h3
          clear hB2 hX2 h3
          cases hi : itemN x with
          | none =>
            obtain ⟨e1, e2⟩ := it_no hi
            rw [e1, e2]
            have H : Hid (psI l = 0 ∧ psB l = false) := ps_no (HN.out hi)
            clear hi e1 e2 HS HN
            go_wp2
            go_ret2
            exact ⟨by rw [H.out.1, H.out.2]; rfl, hB3.out⟩
          | some y =>
            obtain ⟨e1, e2⟩ := it_at hi
            rw [e1, e2]
            have hy := itemN_ne hi
            have HO : Hid (bits .or .u64 (m : Int) (y : Int) = ((m ||| y : Nat) : Int)) := or_walk m y HV.out hy.2
            have HP3 := Lib.hid (HS.out y hi)
            have HV3 : Hid (V (m ||| y)) := V_or HV.out hy.2
            clear hi e1 e2 HS HN hy
            go_wp2
            obtain ⟨ps3, hP3, hF3⟩ := HP3.out
            refine ⟨⟨m ||| y, r', ps3, by rw [HO.out], HV3.out, HRL.out, hP3, hF3, hX3.out, hB3.out⟩, ?_⟩
            rw [boxLen_at hX3.out, boxLen_at hX.out]
            exact HD.out
end Go.Proofs.YteklgnmkalippaaDoor
