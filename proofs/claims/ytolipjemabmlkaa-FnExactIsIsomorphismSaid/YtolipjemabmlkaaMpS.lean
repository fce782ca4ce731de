/- Lists that are maps of at most eight vertices, by the model: a number is met or not, in an array of eight. -/
import Derived.Test.YtolipjemabmlkaaCoreE
set_option linter.unusedSimpArgs false
set_option linter.unusedVariables false
set_option maxRecDepth 100000
namespace Go.Proofs.Ytolipjemabmlkaa
open Go.RowKit

/-- a block of eight bools: which of 0 to 7 are in the list -/
def BoxN (w : World) (b : Nat) (M : List Int) : Prop := b < w.heap.size ∧ ∀ X : Nat, X < 8 → w.cell? ⟨b, X, none⟩ = some (.bool (M.contains (X : Int))) ∧ w.frozen? ⟨b, X, none⟩ = false
theorem BoxN.put {w : World} {b : Nat} {M : List Int} (h : BoxN w b M) {x : Nat} (hx : x < 8) : BoxN (w.setCell ⟨b, x, none⟩ (.bool true)) b (M ++ [(x : Int)]) := by
  refine ⟨by rw [World.size_setCell]; exact h.1, fun X hX => ⟨?_, by rw [World.frozen?_setCell]; exact (h.2 X hX).2⟩⟩
  rw [contains_snoc]
  by_cases e : X = x
  · subst e
    rw [World.cell?_setCell_same _ _ _ (h.2 X hX).1]
    simp
  · rw [World.cell?_setCell_other _ _ _ _ (by simp <;> omega), (h.2 X hX).1, decide_eq_false (by omega)]
    simp
theorem BoxN.qt {w w' : World} {b : Nat} {M : List Int} (h : BoxN w b M) (q : Qt w w') : BoxN w' b M := ⟨Nat.lt_of_lt_of_le h.1 q.below.size, fun X hX => ⟨q.below.keep (h.2 X hX).1, q.below.keepf h.1 (h.2 X hX).2⟩⟩
theorem inR_at {x s : Int} (h : inR x s = true) (hs : s ≤ 8) : ∃ j : Nat, j < 8 ∧ x = j := by
  unfold inR at h
  simp only [Bool.and_eq_true, decide_eq_true_eq] at h
  exact ⟨x.toNat, by omega, by omega⟩

set_option maxHeartbeats 1600000 in
theorem l08Map {lo hi : Nat} (a : Option Addr) (n c : Nat) (t : List Int) (s : Int) (w : World) (h : RdI lo hi w (.slice a n c) t) (hn : t.length = n) (h1 : 1 ≤ s) (h8 : s ≤ 8) :
    Calls Try.prog 72 #[.slice a n c, .int .i64 s] w fun e w' => e = .returned (.bool (permB s t)) ∧ Below w.heap.size w w' := by
  have hb0 : ∀ o, Below w.heap.size w (w.alloc o) := fun o => (Below.refl _ _).alloc (Nat.le_refl _) o
  have HN := Lib.hid hn
  have HCells := Lib.hid (h.cellsC hn)
  have hlen2 := h.1
  rw [hn] at hlen2
  have hwr : IntKind.i64.wrap (s - 1) = s - 1 := IntWalk.i64_in _ (by omega)
  have HE := Lib.hid (⟨permB_yes (s := s) (t := t), permB_no_len (s := s) (t := t)⟩ : _ ∧ _)
  clear hn h
  have hbx : BoxN (w.alloc (.cells #[.bool false, .bool false, .bool false, .bool false, .bool false, .bool false, .bool false, .bool false] 112)) w.heap.size (t.take 0) := by
    refine ⟨by simp, fun X hX => ?_⟩
    have : X = 0 ∨ X = 1 ∨ X = 2 ∨ X = 3 ∨ X = 4 ∨ X = 5 ∨ X = 6 ∨ X = 7 := by omega
    rcases this with rfl | rfl | rfl | rfl | rfl | rfl | rfl | rfl <;> (constructor <;> ((try simp only [List.take_zero, List.contains_nil]); go_simp))
  have HS0 := Lib.hid (⟨hbx, hb0 _⟩ : _ ∧ Below w.heap.size w (w.alloc (.cells #[.bool false, .bool false, .bool false, .bool false, .bool false, .bool false, .bool false, .bool false] 112)))
  clear hbx
  go_enter Try.func72, Try.ntmps72
  go_wp2
  go_loopw [6] (fun i wr => ∃ k : Nat, k ≤ n ∧ i = .int .i64 k ∧ BoxN wr w.heap.size (t.take k) ∧ Below w.heap.size w wr ∧ permTo s t k = true) (fun i _ => n - (intOf i).toNat)
  case atStart => exact ⟨0, Nat.zero_le _, rfl, HS0.out.1, HS0.out.2, rfl⟩
  case round =>
    clear HS0
    obtain ⟨k, hk, rfl, hbox, hB, hp⟩ := hrel
    have HP := Lib.hid hp
    have HX := Lib.hid hbox
    clear hp hbox
    by_cases hlt : k < n
    · obtain ⟨b, off, rfl, g1⟩ := HCells.out k hlt
      replace g1 := hB.keep g1
      have hlt' : k < t.length := by rw [HN.out]; exact hlt
      have hbad : (inR (t.getD k 0) s && !((t.take k).contains (t.getD k 0))) = false → permB s t = false := permB_no hlt'
      have HB := Lib.hid hbad
      have HS := Lib.hid (take_snoc hlt')
      have hgood : (inR (t.getD k 0) s && !((t.take k).contains (t.getD k 0))) = true → permTo s t (k+1) = true := permTo_step HP.out
      have HG := Lib.hid hgood
      clear hbad hgood
      generalize t.getD k 0 = x at *
      generalize hM : t.take k = M at *
      clear hM
      have hkn : (k : Int) < (n : Int) := by omega
      cases hi : inR x s with
      | false =>
        have HI := Lib.hid hi
        clear hi
        go_wp2_with (go_at_call 108; refine (l01InR _ _ h1 (by omega) _).mono ?_; rintro e w' ⟨rfl, q1⟩; rw [HI.out])
        go_ret
        exact ⟨by rw [HB.out (by rw [HI.out]; rfl)]; rfl, hB.qt q1⟩
      | true =>
        have hx := inR_at hi h8
        have HI := Lib.hid hi
        clear hi
        obtain ⟨j, hj, rfl⟩ := hx
        have HPut := Lib.hid (fun (W : World) (q : Qt wr W) => BoxN.put (x := j) (HX.out.qt q) hj)
        obtain ⟨rj, fj⟩ := HX.out.2 j hj
        have hj8 : (j : Int) < 8 := by omega
        have hj0 : (0 : Int) ≤ (j : Int) := by omega
        cases hm : M.contains (j : Int) with
        | true =>
          rw [hm] at rj
          have HM := Lib.hid hm
          clear hm
          go_wp2_with (go_at_call 108; refine (l01InR _ _ h1 (by omega) _).mono ?_; rintro e w' ⟨rfl, q1⟩; rw [HI.out]; replace rj := q1.cell rj; replace g1 := q1.cell g1)
          go_ret
          exact ⟨by rw [HB.out (by rw [HI.out, HM.out]; rfl)]; rfl, hB.qt q1⟩
        | false =>
          rw [hm] at rj
          have HM := Lib.hid hm
          clear hm
          go_wp2_with (go_at_call 108; refine (l01InR _ _ h1 (by omega) _).mono ?_; rintro e w' ⟨rfl, q1⟩; rw [HI.out]; replace fj := q1.below.keepf (World.block_lt_of_cell? _ _ rj) fj; replace rj := q1.cell rj; replace g1 := q1.cell g1)
          go_roundw
          case rel => exact ⟨k+1, by omega, by go_num, by rw [HS.out]; exact HPut.out _ q1, (hB.qt q1).setCell (Nat.le_refl _) _, HG.out (by rw [HI.out, HM.out]; rfl)⟩
          case measure => simp [intOf]; omega
    · obtain rfl : k = n := by omega
      by_cases hl : (k : Int) = s
      · have HB := Lib.hid (HE.out.1 (by rw [HN.out]; exact hl) (by rw [HN.out]; exact HP.out))
        have hb : ((k : Int) == s) = true := by simpa using hl
        clear hl
        go_wp2
        go_ret
        exact ⟨by rw [HB.out]; rfl, hB⟩
      · have HB := Lib.hid (HE.out.2 (by rw [HN.out]; exact hl))
        have hb : ((k : Int) == s) = false := by simpa using hl
        clear hl
        go_wp2
        go_ret
        exact ⟨by rw [HB.out]; rfl, hB⟩

end Go.Proofs.Ytolipjemabmlkaa
