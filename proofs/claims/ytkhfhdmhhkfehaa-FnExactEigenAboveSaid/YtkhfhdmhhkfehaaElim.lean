/- A root is taken out as often as it is one, by the program; how often it is one. -/
import Derived.Test.YtkhfhdmhhkfehaaStr
import Derived.Test.YtkhfhdmhhkfehaaScopes
set_option linter.unusedSimpArgs false
set_option linter.unusedVariables false
set_option maxRecDepth 100000
namespace Go.Proofs.Ytkhfhdmhhkfehaa
open Go.RowKit

/-- what the machine keeps: k quotients are taken -/
structure elI (xs : List Int) (c : Int) (L k : Nat) (w wr : World) (a : Option Addr) (cap : Nat) : Prop where
  rd : ∃ lo hi, RdI lo hi wr (.slice a (L - k) cap) (qk xs c L k)
  below : Below w.heap.size w wr

set_option maxHeartbeats 3200000 in
theorem elimin {lo hi : Nat} (L cap m : Nat) (a : Option Addr) (xs : List Int) (c : Int) (w : World) (h : RdI lo hi w (.slice a L cap) xs) (hl : xs.length = L) (hL : L ≤ 100) (hm : m < L) (hz : ∀ k, k < m → rk xs c L k = 0) (hn : ¬ rk xs c L m = 0) :
    Calls Try.prog 98 #[.slice a L cap, .int .i64 c] w fun e w' => ∃ a' cap', e = .returned (.tuple #[.slice a' (L - m) cap', .int .i64 (m : Int)]) ∧ (∃ lo hi, RdI lo hi w' (.slice a' (L - m) cap') (qk xs c L m)) ∧ Below w.heap.size w w' := by
  have HSTEP := Lib.hid (fun (k lo' hi' : Nat) (a' : Option Addr) (cap' : Nat) (W : World) (hk : k ≤ m) (h4 : RdI lo' hi' W (.slice a' (L - k) cap') (qk xs c L k)) =>
    show Calls Try.prog 110 #[.slice a' (L - k) cap', .int .i64 c] W fun e w' => ∃ b' off' cap'', e = .returned (.tuple #[.slice (some ⟨b', off', none⟩) (L - (k + 1)) cap'', .int .i64 (rk xs c L k)]) ∧ RdI W.heap.size w'.heap.size w' (.slice (some ⟨b', off', none⟩) (L - (k + 1)) cap'') (qk xs c L (k + 1)) ∧ Below W.heap.size W w' by
      obtain ⟨b, off, rfl, _⟩ := h4.at (qk_len hl c k) 0 (by omega)
      have := quoRest b off (L - k) cap' (qk xs c L k) c W h4 (qk_len hl c k) (by omega) (by omega)
      have e1 : L - k - 1 = L - (k + 1) := by omega
      rw [e1] at this
      have e2 : hs (qk xs c L k) c (L - k) (L - (k + 1)) = rk xs c L k := by unfold rk; rw [e1]
      rw [e2] at this
      exact this)
  have H0 := Lib.hid (show elI xs c L 0 w w a cap from ⟨⟨lo, hi, h⟩, Below.refl _ _⟩)
  have HZ := Lib.hid hz
  have HNZ := Lib.hid hn
  generalize rk xs c L = f at HSTEP HZ HNZ
  clear h hl hz hn
  go_enter Try.func98, Try.ntmps98
  go_wp2
  refine wp_scope_labels (fun l act wr => (l = 0 ∨ l = 1) ∧ ∃ (k cap' : Nat) (a' : Option Addr) (u2 u3 u7 u8 u9 u10 u11 u12 u13 u14 u15 u16 u17 u18 u19 u20 u21 : Value),
      act = { tmps := #[.slice a' (L - k) cap', .int .i64 c, u2, u3, .slice none 0 0, .int .i64 0, .int .i64 (k : Int), u7, u8, u9, u10, u11, u12, u13, u14, u15, u16, u17, u18, u19, u20, u21], defers := [] } ∧
      elI xs c L k w wr a' cap' ∧ k ≤ m ∧ (l = 1 → k = m))
    (fun l act wr => if l = 1 then 0 else 1 + (m - (intOf (act.tmps.getD 6 undef)).toNat)) ?_ ?_
  · have HI := H0
    have hf := HSTEP.out 0
    obtain ⟨lo0, hi0, hrd⟩ := H0.out.rd
    by_cases hkm : 0 = m
    · have hf0 : ¬ f 0 = 0 := by rw [hkm]; exact HNZ.out
      have hfb : (f 0 != 0) = true := by simpa using hf0
      have HC := Lib.hid (HSTEP.out 0 _ _ a cap w (by omega) hrd)
      have HK := Lib.hid hkm
      generalize f 0 = r at HC hfb
      clear hf0 hkm
      go_wp2_with fail
      go_step3
      go_wp2_with fail
      refine HC.out.mono ?_
      rintro e w1 ⟨b1, off1, cap1, rfl, o1, b1'⟩
      have HN := Lib.hid (show elI xs c L 0 w w1 a cap from ⟨by obtain ⟨lo, hi, h⟩ := HI.out.rd; exact ⟨lo, hi, h.below b1'⟩, HI.out.below.next b1'⟩)
      clear HC o1 b1'
      go_wp2
      go_step3
      exact ⟨.inr rfl, 0, cap, a, _, _, _, _, _, _, _, _, _, _, _, _, _, _, _, _, _, by rfl, HN.out, by have := HK.out; omega, fun _ => HK.out⟩
    · have hz0 : f 0 = 0 := HZ.out 0 (by omega)
      have HC := Lib.hid (HSTEP.out 0 _ _ a cap w (by omega) hrd)
      rw [hz0] at HC
      clear hz0
      go_wp2_with fail
      go_step3
      go_wp2_with fail
      refine HC.out.mono ?_
      rintro e w1 ⟨b1, off1, cap1, rfl, o1, b1'⟩
      have HN := Lib.hid (show elI xs c L (0 + 1) w w1 (some ⟨b1, off1, none⟩) cap1 from ⟨⟨_, _, o1⟩, HI.out.below.next b1'⟩)
      have n1 : IntKind.i64.wrap (((0 : Nat) : Int) + 1) = ((0 + 1 : Nat) : Int) := by rw [show ((0 : Nat) : Int) + 1 = ((0 + 1 : Nat) : Int) by omega]; exact IntWalk.i64_in _ (by omega)
      have n2 : wrap64 (((0 : Nat) : Int) + 1) = ((0 + 1 : Nat) : Int) := by rw [show ((0 : Nat) : Int) + 1 = ((0 + 1 : Nat) : Int) by omega]; exact IntWalk.wrap64_in _ (by clear n1; omega)
      clear HC o1 b1'
      go_wp2
      go_step3
      clear n1 n2
      exact ⟨.inl rfl, 0 + 1, cap1, _, _, _, _, _, _, _, _, _, _, _, _, _, _, _, _, _, _, rfl, HN.out, by omega, fun e => by omega⟩
  · rintro l act wr ⟨hl, k, cap', a', u2, u3, u7, u8, u9, u10, u11, u12, u13, u14, u15, u16, u17, u18, u19, u20, u21, rfl, hI, hk, hlast⟩
    have HI := Lib.hid hI
    obtain ⟨lo0, hi0, hrd⟩ := hI.rd
    rcases hl with rfl | rfl
    · refine ⟨_, rfl, ?_⟩
      clear hlast hI
      by_cases hkm : k = m
      · have hf0 : ¬ f k = 0 := by rw [hkm]; exact HNZ.out
        have hfb : (f k != 0) = true := by simpa using hf0
        have HC := Lib.hid (HSTEP.out k _ _ a' cap' wr (by omega) hrd)
        have HK := Lib.hid hkm
        generalize f k = r at HC hfb
        clear hf0 hkm
        go_wp2_with fail
        refine HC.out.mono ?_
        rintro e w1 ⟨b1, off1, cap1, rfl, o1, b1'⟩
        have HN := Lib.hid (show elI xs c L k w w1 a' cap' from ⟨by obtain ⟨lo, hi, h⟩ := HI.out.rd; exact ⟨lo, hi, h.below b1'⟩, HI.out.below.next b1'⟩)
        clear HC o1 b1'
        go_wp2
        go_step3
        apply And.intro
        · exact ⟨.inr rfl, k, cap', a', _, _, _, _, _, _, _, _, _, _, _, _, _, _, _, _, _, rfl, HN.out, by have := HK.out; omega, fun _ => HK.out⟩
        · simp <;> omega
      · have hz0 : f k = 0 := HZ.out k (by omega)
        have HC := Lib.hid (HSTEP.out k _ _ a' cap' wr (by omega) hrd)
        rw [hz0] at HC
        clear hz0
        go_wp2_with fail
        refine HC.out.mono ?_
        rintro e w1 ⟨b1, off1, cap1, rfl, o1, b1'⟩
        have HN := Lib.hid (show elI xs c L (k + 1) w w1 (some ⟨b1, off1, none⟩) cap1 from ⟨⟨_, _, o1⟩, HI.out.below.next b1'⟩)
        have n1 : IntKind.i64.wrap (((k : Nat) : Int) + 1) = ((k + 1 : Nat) : Int) := by rw [show ((k : Nat) : Int) + 1 = ((k + 1 : Nat) : Int) by omega]; exact IntWalk.i64_in _ (by omega)
        have n2 : wrap64 (((k : Nat) : Int) + 1) = ((k + 1 : Nat) : Int) := by rw [show ((k : Nat) : Int) + 1 = ((k + 1 : Nat) : Int) by omega]; exact IntWalk.wrap64_in _ (by clear n1; omega)
        clear HC o1 b1'
        go_wp2
        go_step3
        clear n1 n2
        apply And.intro
        · exact ⟨.inl rfl, k + 1, cap1, _, _, _, _, _, _, _, _, _, _, _, _, _, _, _, _, _, _, rfl, HN.out, by omega, fun e => by omega⟩
        · simp [intOf] <;> omega
    · refine ⟨_, rfl, ?_⟩
      obtain rfl : k = m := hlast rfl
      clear hlast hI hrd
      go_wp2
      go_ret2
      exact ⟨a', cap', rfl, HI.out.rd, HI.out.below⟩

end Go.Proofs.Ytkhfhdmhhkfehaa
