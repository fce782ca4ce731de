/- Permutations of sheets, by the model: a number is met or not, in an array of four. -/
import Derived.Test.YtbfgehgjecgfmaaPerm
import Derived.Test.YtbfgehgjecgfmaaImplCyc
set_option linter.unusedSimpArgs false
set_option linter.unusedVariables false
set_option maxRecDepth 100000
namespace Go.Proofs.Ytbfgehgjecgfmaa
open Go.RowKit

/-- a block of four bools: which of 0 to 3 are in the list -/
def BoxM (w : World) (b : Nat) (M : List Int) : Prop := Box4 w b (.bool (M.contains 0)) (.bool (M.contains 1)) (.bool (M.contains 2)) (.bool (M.contains 3))

theorem contains_snoc (M : List Int) (x j : Int) : (M ++ [x]).contains j = (M.contains j || decide (j = x)) := by
  rw [Bool.eq_iff_iff]; simp
theorem BoxM.put {w : World} {b : Nat} {M : List Int} (h : BoxM w b M) {x : Nat} (hx : x < 4) : BoxM (w.setCell ⟨b, x, none⟩ (.bool true)) b (M ++ [(x : Int)]) := by
  obtain ⟨lt, c0, c1, c2, c3, f0, f1, f2, f3⟩ := h
  unfold BoxM
  have hx' : x = 0 ∨ x = 1 ∨ x = 2 ∨ x = 3 := by omega
  rw [contains_snoc, contains_snoc, contains_snoc, contains_snoc]
  generalize M.contains 0 = m0 at *
  generalize M.contains 1 = m1 at *
  generalize M.contains 2 = m2 at *
  generalize M.contains 3 = m3 at *
  rcases hx' with rfl | rfl | rfl | rfl <;> refine ⟨by simpa [World.setCell] using lt, ?_, ?_, ?_, ?_, ?_, ?_, ?_, ?_⟩ <;> first | (simp; done) | (go_simp; done) | (rw [World.frozen?_setCell]; assumption) | (simp; go_simp; done)

theorem permB_no_len {s : Int} {t : List Int} (h : ¬ (t.length : Int) = s) : permB s t = false := by unfold permB; simp [h]
theorem permB_no {s : Int} {t : List Int} {k : Nat} (hk : k < t.length) (h : (inR (t.getD k 0) s && !((t.take k).contains (t.getD k 0))) = false) : permB s t = false := by
  unfold permB
  rw [Bool.and_eq_false_iff]; right
  rw [List.all_eq_false]
  exact ⟨k, List.mem_range.2 hk, by rw [h]; simp⟩
def permTo (s : Int) (t : List Int) (k : Nat) : Bool := (List.range k).all (fun i => inR (t.getD i 0) s && !((t.take i).contains (t.getD i 0)))
theorem permTo_step {s : Int} {t : List Int} {k : Nat} (h : permTo s t k = true) (e : (inR (t.getD k 0) s && !((t.take k).contains (t.getD k 0))) = true) : permTo s t (k+1) = true := by
  unfold permTo at *
  rw [List.range_succ, List.all_append, h]; simp only [List.all_cons, List.all_nil, Bool.and_true, Bool.true_and]; exact e
theorem permB_yes {s : Int} {t : List Int} (hl : (t.length : Int) = s) (h : permTo s t t.length = true) : permB s t = true := by
  unfold permB; unfold permTo at h; rw [h]; simp [hl]
theorem take_snoc {t : List Int} {k : Nat} (h : k < t.length) : t.take (k+1) = t.take k ++ [t.getD k 0] := by
  rw [List.take_add_one, List.getElem?_eq_getElem h]; simp [List.getD, List.getElem?_eq_getElem h]

set_option maxHeartbeats 1600000 in
theorem l04Perm {lo hi : Nat} (a : Option Addr) (n c : Nat) (t : List Int) (s : Int) (w : World) (h : RdI lo hi w (.slice a n c) t) (hn : t.length = n) (h1 : 1 ≤ s) (h4 : s ≤ 4) :
    Calls Try.prog 145 #[.slice a n c, .int .i64 s] w fun e w' => e = .returned (.bool (permB s t)) ∧ Below w.heap.size w w' := by
  have hb0 : ∀ o, Below w.heap.size w (w.alloc o) := fun o => (Below.refl _ _).alloc (Nat.le_refl _) o
  have HN := Lib.hid hn
  have HCells := Lib.hid (h.cellsC hn)
  have hlen2 := h.1
  rw [hn] at hlen2
  have hwr : IntKind.i64.wrap (s - 1) = s - 1 := IntWalk.i64_in _ (by omega)
  clear hn h
  by_cases hl : (n : Int) = s
  case neg =>
    have hne : ((n : Int) != s) = true := by simpa using hl
    have hbad : permB s t = false := permB_no_len (by rw [HN.out]; exact hl)
    have HB := Lib.hid hbad
    clear hbad hwr
    go_enter Try.func145, Try.ntmps145
    go_wp2
    go_ret
    refine ⟨by rw [HB.out]; rfl, ?_⟩
    repeat (refine Below.setCell ?_ (by simp) _)
    exact hb0 _
  have hne : ((n : Int) != s) = false := by simpa using hl
  have HL := Lib.hid hl
  have hn4 : n ≤ 4 := by omega
  clear hl
  go_enter Try.func145, Try.ntmps145
  go_wp2
  go_loopw [6] (fun i wr => ∃ k : Nat, k ≤ n ∧ i = .int .i64 k ∧ BoxM wr w.heap.size (t.take k) ∧ Below w.heap.size w wr ∧ permTo s t k = true) (fun i _ => n - (intOf i).toNat)
  case atStart =>
    refine ⟨0, Nat.zero_le _, rfl, ⟨?_, ?_, ?_, ?_, ?_, ?_, ?_, ?_, ?_⟩, ?_, rfl⟩
    · simp [World.setCell]
    iterate 8 ((try simp only [List.take_zero, List.contains_nil]); go_simp)
    · repeat (refine Below.setCell ?_ (by simp) _)
      exact hb0 _
  case round =>
    obtain ⟨k, hk, rfl, hbox, hB, hp⟩ := hrel
    have HP := Lib.hid hp
    have HX := Lib.hid hbox
    clear hp hbox
    by_cases hlt : k < n
    · obtain ⟨b, off, rfl, g1⟩ := HCells.out k hlt
      replace g1 := hB.keep g1
      have hlt' : k < t.length := by rw [HN.out]; exact hlt
      have hbad : (inR (t.getD k 0) s && !((t.take k).contains (t.getD k 0))) = false → permB s t = false := permB_no hlt'
      have HB := Lib.hid hbad
      have HS := Lib.hid (take_snoc hlt')
      have hgood : (inR (t.getD k 0) s && !((t.take k).contains (t.getD k 0))) = true → permTo s t (k+1) = true := permTo_step HP.out
      have HG := Lib.hid hgood
      clear hbad hgood
      generalize t.getD k 0 = x at *
      generalize hM : t.take k = M at *
      clear hM
      cases hi : inR x s with
      | false =>
        have HI := Lib.hid hi
        clear hi
        go_wp2_with (go_at_call 75; refine (l01InR _ _ h1 (by omega) _).mono ?_; rintro e w' ⟨rfl, q1⟩; rw [HI.out])
        go_ret
        exact ⟨by rw [HB.out (by rw [HI.out]; rfl)]; rfl, hB.qt q1⟩
      | true =>
        have hx4 := inR_four hi h4
        have hx : ∃ j : Nat, j < 4 ∧ x = j := by
          simp only [four, List.mem_cons, List.not_mem_nil, or_false] at hx4
          rcases hx4 with rfl | rfl | rfl | rfl
          · exact ⟨0, by omega, rfl⟩
          · exact ⟨1, by omega, rfl⟩
          · exact ⟨2, by omega, rfl⟩
          · exact ⟨3, by omega, rfl⟩
        have HI := Lib.hid hi
        clear hi hx4
        obtain ⟨j, hj, rfl⟩ := hx
        have hput := fun (W : World) (q : Qt wr W) => BoxM.put (x := j) (show BoxM W w.heap.size M from Box4.qt HX.out q) hj
        have HPut := Lib.hid hput
        obtain ⟨_, r0, r1, r2, r3, f0, f1, f2, f3⟩ := HX.out
        have hrj : wr.cell? ⟨w.heap.size, j, none⟩ = some (.bool (M.contains (j : Int))) ∧ wr.frozen? ⟨w.heap.size, j, none⟩ = false := by
          have hj' : j = 0 ∨ j = 1 ∨ j = 2 ∨ j = 3 := by omega
          rcases hj' with rfl | rfl | rfl | rfl
          · exact ⟨r0, f0⟩
          · exact ⟨r1, f1⟩
          · exact ⟨r2, f2⟩
          · exact ⟨r3, f3⟩
        obtain ⟨rj, fj⟩ := hrj
        clear r0 r1 r2 r3 f0 f1 f2 f3 hput
        cases hm : M.contains (j : Int) with
        | true =>
          rw [hm] at rj
          have HM := Lib.hid hm
          clear hm
          go_wp2_with (go_at_call 75; refine (l01InR _ _ h1 (by omega) _).mono ?_; rintro e w' ⟨rfl, q1⟩; rw [HI.out]; replace rj := q1.cell rj; replace g1 := q1.cell g1)
          go_ret
          exact ⟨by rw [HB.out (by rw [HI.out, HM.out]; rfl)]; rfl, hB.qt q1⟩
        | false =>
          rw [hm] at rj
          have HM := Lib.hid hm
          clear hm
          go_wp2_with (go_at_call 75; refine (l01InR _ _ h1 (by omega) _).mono ?_; rintro e w' ⟨rfl, q1⟩; rw [HI.out]; replace fj := q1.below.keepf (World.block_lt_of_cell? _ _ rj) fj; replace rj := q1.cell rj; replace g1 := q1.cell g1)
          go_roundw
          case rel => exact ⟨k+1, by omega, by go_num, by rw [HS.out]; exact HPut.out _ q1, (hB.qt q1).setCell (Nat.le_refl _) _, HG.out (by rw [HI.out, HM.out]; rfl)⟩
          case measure => simp [intOf]; omega
    · go_wp2
      go_ret
      obtain rfl : k = n := by omega
      exact ⟨by rw [permB_yes (by rw [HN.out]; exact HL.out) (by rw [HN.out]; exact HP.out)]; rfl, hB⟩

end Go.Proofs.Ytbfgehgjecgfmaa
