/-
  Contract of a work's turn: a node is turned to a side.
-/
import Derived.Test.YtgjacmkedgbneaaTwB
namespace Go.Proofs.Ytgjacmkedgbneaa
open Go.RowKit Go.Sort Wd Tn Ky Tr

theorem cell_at (w : World) (vs : Array Value) (ty : TypeId) (i : Nat) : (w.alloc (.cells vs ty)).cell? ⟨w.heap.size, i, none⟩ = vs[i]? := by
  unfold World.cell?
  rw [heap_alloc_new w (.cells vs ty)]
  rfl
/-- A place that the call itself laid. -/
def Pb (p : Wp) (w : World) (q : Nat) (u : Int) (s : Bool) : Prop := w.heap[q]? = some (.cells #[.int .i64 u, .int .i64 (sI s)] 91 (0, 0)) ∧ q ≠ p.b ∧ q ≠ p.nb
section
variable {p : Wp} {w w' : World} {q : Nat} {u : Int} {s : Bool}
theorem Pb.new {t : T} (h : Wk p w t) (u : Int) (s : Bool) : Pb p (w.alloc (.cells #[.int .i64 u, .int .i64 (sI s)] 91)) w.heap.size u s :=
  ⟨heap_alloc_new w _, by have := h.lt; omega, by have := h.lt; omega⟩
theorem Pb.lt (h : Pb p w q u s) : q < w.heap.size := (Array.getElem?_eq_some_iff.1 h.1).1
theorem Pb.ws (h : Pb p w q u s) (k : Ws p w w') : Pb p w' q u s := ⟨(k.block q h.lt h.2.1 h.2.2).trans h.1, h.2⟩
theorem Pb.cells (h : Pb p w q u s) : w.cell? ⟨q, 0, none⟩ = some (.int .i64 u) ∧ w.cell? ⟨q, 1, none⟩ = some (.int .i64 (sI s)) ∧ w.frozen? ⟨q, 0, none⟩ = false ∧ w.frozen? ⟨q, 1, none⟩ = false := by
  refine ⟨?_, ?_, ?_, ?_⟩ <;> simp [World.cell?, World.frozen?, h.1]
end

theorem turn_at {p : Wp} {w : World} {t : T} (h : Wk p w t) {x : Int} (s : Bool) (hx : t.has x) (hu : t.ok (t.up x)) (hr : t.has (t.kid x (!s))) (hk : t.ok (t.kid (t.kid x (!s)) s)) :
    Calls Try.prog 79 #[.pointer (some ⟨p.b, 0, none⟩), .int .i64 x, .int .i64 (sI s)] w fun e w' => e = .returned (.tuple #[]) ∧ Wk p w' (t.turn x s) ∧ Ws p w w' := by
  have HP := Lib.hid (place_at h hx hu)
  have HT : Hid (t.turn x s = (((t.hang x (!s) (t.kid (t.kid x (!s)) s)).hang (t.up x) (t.side x) (t.kid x (!s))).hang (t.kid x (!s)) s x)) := Lib.hid rfl
  have HX := Lib.hid hx
  have HU := Lib.hid hu
  have HR := Lib.hid hr
  have HK := Lib.hid hk
  have HW := Lib.hid h
  rw [HT.out]
  clear h hx hu hr hk HT
  obtain ⟨r, hr⟩ : ∃ r, t.kid x (!s) = r := ⟨_, rfl⟩
  have HRE := Lib.hid hr
  rw [hr] at HR HK
  rw [hr]
  clear hr
  obtain ⟨c, hc⟩ : ∃ c, t.kid r s = c := ⟨_, rfl⟩
  have HCE := Lib.hid hc
  rw [hc] at HK
  rw [hc]
  clear hc
  generalize t.up x = u at HP HU ⊢
  generalize t.side x = a at HP ⊢
  obtain ⟨si, hsi⟩ : ∃ si, sI s = si := ⟨_, rfl⟩
  have HSI := Lib.hid hsi
  rw [hsi]
  obtain ⟨so, hso⟩ : ∃ si, sI (!s) = si := ⟨_, rfl⟩
  have HSO := Lib.hid hso
  have HO : Hid (∀ w, Calls Try.prog 78 #[.int .i64 si] w fun e w' => e = .returned (.int .i64 so) ∧ w = w') := Lib.hid (fun w => by rw [← HSI.out, ← HSO.out]; exact other_at s w)
  obtain ⟨ai, hai⟩ : ∃ si, sI a = si := ⟨_, rfl⟩
  have HAI := Lib.hid hai
  rw [hai] at HP
  clear hsi hso hai
  obtain ⟨t3, ht3⟩ : ∃ t3, t.hang x (!s) c = t3 := ⟨_, rfl⟩
  have HL3 : Hid (t3.ns.length = t.ns.length) := Lib.hid (by rw [← ht3, hang_len])
  have HT3 := Lib.hid ht3
  rw [ht3]
  obtain ⟨t4, ht4⟩ : ∃ t4, t3.hang u a r = t4 := ⟨_, rfl⟩
  have HL4 : Hid (t4.ns.length = t.ns.length) := Lib.hid (by rw [← ht4, hang_len, HL3.out])
  have HT4 := Lib.hid ht4
  rw [ht4]
  clear ht3 ht4
  go_enter Try.func79, Try.ntmps79
  go_wp2_with fail
  refine HP.out.mono ?_
  rintro e' w1 ⟨rfl, hg1⟩
  have HW1 := Lib.hid (HW.out.gr hg1)
  have HS1 : Hid (Ws p w w1) := Lib.hid (Ws.of_gr hg1)
  clear hg1 HP
  have HPB := Lib.hid (Pb.new HW1.out u a)
  rw [HAI.out] at HPB
  have HW2 := Lib.hid (HW1.out.alloc (.cells #[.int .i64 u, .int .i64 ai] 91))
  have HS2 := Lib.hid (HS1.out.alloc (.cells #[.int .i64 u, .int .i64 ai] 91))
  go_wp2_with fail
  generalize hq : w1.heap.size = q at HPB ⊢
  generalize w1.alloc (.cells #[.int .i64 u, .int .i64 ai] 91) = w2 at HPB HW2 HS2 ⊢
  clear hq HW1 HS1
  go_wp2_with fail
  refine (HO.out _).mono ?_
  rintro e' w' ⟨rfl, rfl⟩
  have HC1 := Lib.hid (child_at HW2.out HX.out (!s))
  rw [HRE.out, HSO.out] at HC1
  go_wp2_with fail
  refine (HC1.out).mono ?_
  rintro e' w' ⟨rfl, rfl⟩
  go_wp2_with fail
  refine (HO.out _).mono ?_
  rintro e' w' ⟨rfl, rfl⟩
  have HC2 := Lib.hid (child_at HW2.out HR.out s)
  rw [HCE.out, HSI.out] at HC2
  go_wp2_with fail
  refine (HC2.out).mono ?_
  rintro e' w' ⟨rfl, rfl⟩
  have HH1 := Lib.hid (hang_at HW2.out (.inr HX.out) HK.out (!s))
  rw [HSO.out] at HH1
  clear HC1 HC2
  go_wp2_with fail
  refine HH1.out.mono ?_
  rintro e' w3 ⟨rfl, hw3, hs3⟩
  clear HH1
  rw [HT3.out] at hw3
  have HW3 := Lib.hid hw3
  have HS3 := Lib.hid (HS2.out.trans hs3)
  have HPB3 : Hid (Pb p w3 q u a) := Lib.hid (HPB.out.ws hs3)
  obtain ⟨d0, d1, -, -⟩ := HPB3.out.cells
  rw [HAI.out] at d1
  have HH2 := Lib.hid (hang_at HW3.out ((ok_len HL3.out).2 HU.out) (.inr ((has_len HL3.out).2 HR.out)) a)
  rw [HAI.out] at HH2
  clear hw3 hs3 HW2 HS2 HPB
  go_wp2_with fail
  refine HH2.out.mono ?_
  rintro e' w4 ⟨rfl, hw4, hs4⟩
  clear HH2 d0 d1
  rw [HT4.out] at hw4
  have HW4 := Lib.hid hw4
  have HS4 := Lib.hid (HS3.out.trans hs4)
  have HH3 := Lib.hid (hang_at HW4.out (.inr ((has_len HL4.out).2 HR.out)) (.inr ((has_len HL4.out).2 HX.out)) s)
  rw [HSI.out] at HH3
  clear hw4 hs4 HW3 HS3
  go_wp2_with fail
  refine HH3.out.mono ?_
  rintro e' w5 ⟨rfl, hw5, hs5⟩
  clear HH3
  go_wp2
  go_end0
  exact ⟨rfl, hw5, HS4.out.trans hs5⟩
theorem turn_ok {p : Wp} {w : World} {t : T} (h : Wk p w t) {x : Int} {s : Bool} (ht : TurnOk t x s) :
    Calls Try.prog 79 #[.pointer (some ⟨p.b, 0, none⟩), .int .i64 x, .int .i64 (sI s)] w fun e w' => e = .returned (.tuple #[]) ∧ Wk p w' (t.turn x s) ∧ Ws p w w' := turn_at h s ht.hx ht.hu ht.hr ht.hk
end Go.Proofs.Ytgjacmkedgbneaa
