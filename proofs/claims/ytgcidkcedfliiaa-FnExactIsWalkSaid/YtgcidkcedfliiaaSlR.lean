/- The laws' helpers on lists of lists of numbers: what they read and own; sizes, copies, equality. -/
import Derived.Test.YtgcidkcedfliiaaSlI
import Derived.Test.YtgcidkcedfliiaaMarkI
set_option linter.unusedSimpArgs false
set_option linter.unusedVariables false
namespace Go.Proofs.Ytgcidkcedfliiaa
open Go.RowKit

theorem Try.info25 : (Try.prog.info? 25).map (fun i => (i.zero, i.size, i.bytes)) = some (some (.slice none 0 0), 1, 24) := by kernel_rfl

/-- a slice value's list of slice values; each reads as a list -/
def RdR (lo hi : Nat) (w : World) (v : Value) (xss : List (List Int)) : Prop :=
  xss.length ≤ 8796093022208 ∧
  ((∃ a cap, xss = [] ∧ v = .slice a 0 cap) ∨
  (∃ b off cap, v = .slice (some ⟨b, off, none⟩) xss.length cap ∧ 0 < xss.length ∧ lo ≤ b ∧ b < hi ∧
    ∀ j, j < xss.length → ∃ rv, w.cell? ⟨b, off + j, none⟩ = some rv ∧ RdI lo hi w rv (xss.getD j [])))

theorem RdR.chg {lo hi lo' hi' : Nat} {w w' : World} {v : Value} {xs : List (List Int)} (h : RdR lo hi w v xs) (hb : Chg lo' hi' w w') (hs : hi ≤ lo' ∨ hi' ≤ lo) : RdR lo hi w' v xs := by
  obtain ⟨h1, h⟩ := h
  refine ⟨h1, ?_⟩
  rcases h with h | ⟨b, off, cap, hv, h0, hlo, hhi, hc⟩
  · exact .inl h
  · exact .inr ⟨b, off, cap, hv, h0, hlo, hhi, fun j hj => by
      obtain ⟨rv, h1, h2⟩ := hc j hj
      exact ⟨rv, hb.cell h1 (show b < lo' ∨ hi' ≤ b by omega), h2.chg hb hs⟩⟩
theorem RdR.below {lo hi : Nat} {w w' : World} {v : Value} {xs : List (List Int)} (h : RdR lo hi w v xs) (hb : Below w.heap.size w w') : RdR lo hi w' v xs := h.chg (hb.chg 0 0) (.inr (Nat.zero_le _))
theorem RdR.qt {lo hi : Nat} {w w' : World} {v : Value} {xs : List (List Int)} (h : RdR lo hi w v xs) (hq : Qt w w') : RdR lo hi w' v xs := h.below hq.below
theorem RdR.shape {lo hi : Nat} {w : World} {v : Value} {xs : List (List Int)} (h : RdR lo hi w v xs) : ∃ a cap, v = .slice a xs.length cap := by
  obtain ⟨_, ⟨a, cap, rfl, h⟩ | ⟨b, off, cap, h, _⟩⟩ := h
  · exact ⟨a, cap, h⟩
  · exact ⟨_, cap, h⟩

theorem szI (v : Value) (xs : List Int) {lo hi : Nat} (l : Int) (h0 : 0 ≤ l) (h1 : l ≤ 1048576) (w : World) (h : RdI lo hi w v xs) :
    Calls Try.prog 97 #[v, .int .i64 l] w fun e w' => e = .returned (.int .i64 (if l < xs.length then -1 else l - xs.length)) ∧ Qt w w' := by
  obtain ⟨a, cap, rfl⟩ := h.shape
  have hn := h.1
  clear h
  generalize xs.length = n at *
  by_cases h : l < n
  · rw [if_pos h]
    go_enter Try.func97, Try.ntmps97
    go_wp2
    go_ret
    exact ⟨rfl, Qt.refl _⟩
  · rw [if_neg h]
    go_enter Try.func97, Try.ntmps97
    go_wp2
    go_ret
    exact ⟨rfl, Qt.refl _⟩

def lens (xss : List (List Int)) : Nat := (xss.map List.length).sum
theorem lens_step {xss : List (List Int)} {j : Nat} (h : j < xss.length) : lens (xss.take (j+1)) = lens (xss.take j) + (xss.getD j []).length := by
  unfold lens
  rw [List.take_add_one, List.getElem?_eq_getElem h, List.map_append, List.sum_append]
  simp [List.getD, List.getElem?_eq_getElem h]

/-- the size that is left, or -1 -/
def SzP (l : Int) (n : Nat) (r : Int) : Prop := r = -1 ∨ (0 ≤ r ∧ r + n = l)
def SzQ (l : Int) (n : Nat) (e : Ending) : Prop := ∃ r, SzP l n r ∧ e = .returned (.int .i64 r)

theorem szR_ne (n b off cap : Nat) (xss : List (List Int)) {lo hi : Nat} (l : Int) (h0 : 0 ≤ l) (h1 : l ≤ 1048576) (w : World) (hn : n ≤ 8796093022208) (hx : xss.length = n)
    (hc : ∀ j, j < n → ∃ rv, w.cell? ⟨b, off + j, none⟩ = some rv ∧ RdI lo hi w rv (xss.getD j [])) :
    Calls Try.prog 56 #[.slice (some ⟨b, off, none⟩) n cap, .int .i64 l] w fun e w' => SzQ l (n + lens xss) e ∧ Qt w w' := by
  have HX := Lib.hid hx
  have HC := Lib.hid hc
  clear hx hc
  by_cases hb : l < n
  · go_enter Try.func56, Try.ntmps56
    go_wp2
    go_ret
    exact ⟨⟨_, .inl rfl, rfl⟩, Qt.refl _⟩
  · go_enter Try.func56, Try.ntmps56
    go_wp2
    go_loopw [1, 5] (fun r i wr => ∃ (j : Nat) (q : Int), j ≤ n ∧ i = .int .i64 j ∧ r = .int .i64 q ∧ 0 ≤ q ∧ q + n + lens (xss.take j) = l ∧ Qt w wr) (fun _ i _ => n - (intOf i).toNat)
    case atStart => exact ⟨0, l - n, Nat.zero_le _, rfl, rfl, by omega, by simp [lens], Qt.refl _⟩
    case round =>
      obtain ⟨j, q, hj, rfl, rfl, hq, hs, ⟨m, rfl⟩⟩ := hrel
      have HS := Lib.hid hs
      have hq2 : q ≤ 1048576 := by omega
      clear hs
      by_cases hlt : j < n
      · obtain ⟨rv, hc1, hr1⟩ := HC.out j hlt
        have hst := lens_step (xss := xss) (j := j) (by rw [HX.out]; exact hlt)
        generalize hys : xss.getD j [] = ys at *
        have HST := Lib.hid hst
        have HYS := Lib.hid hys
        clear hst hys
        by_cases hl : q < ys.length
        · go_wp2_with (go_at_call 97; refine (szI _ _ _ hq hq2 _ (hr1.qt ((Qt.refl _).drewN _))).mono ?_; rintro e w' ⟨rfl, ⟨m', rfl⟩⟩; rw [if_pos hl])
          go_ret
          exact ⟨⟨_, .inl rfl, rfl⟩, (Qt.refl _).drewN _⟩
        · go_wp2_with (go_at_call 97; refine (szI _ _ _ hq hq2 _ (hr1.qt ((Qt.refl _).drewN _))).mono ?_; rintro e w' ⟨rfl, ⟨m', rfl⟩⟩; rw [if_neg hl])
          go_roundw
          case rel => exact ⟨j+1, q - ys.length, by omega, by go_num, rfl, by omega, by rw [HST.out]; have := HS.out; omega, (Qt.refl _).drewN _⟩
          case measure => simp [intOf]; omega
      · go_wp2
        go_ret
        obtain rfl : j = n := by omega
        have := HS.out
        rw [List.take_of_length_le (by rw [HX.out]; exact Nat.le_refl _)] at this
        exact ⟨⟨q, .inr ⟨hq, by omega⟩, rfl⟩, (Qt.refl _).drewN _⟩

theorem szR_nil (a : Option Addr) (cap : Nat) (l : Int) (h0 : 0 ≤ l) (h1 : l ≤ 1048576) (w : World) :
    Calls Try.prog 56 #[.slice a 0 cap, .int .i64 l] w fun e w' => e = .returned (.int .i64 l) ∧ Qt w w' := by
  go_enter Try.func56, Try.ntmps56
  go_wp2
  refine wp_loop_rounds 1 ?_
  rw [rounds_succ]
  go_wp2
  go_ret
  exact ⟨rfl, Qt.refl _⟩

theorem szR {lo hi : Nat} (v : Value) (xss : List (List Int)) (l : Int) (h0 : 0 ≤ l) (h1 : l ≤ 1048576) (w : World) (h : RdR lo hi w v xss) :
    Calls Try.prog 56 #[v, .int .i64 l] w fun e w' => SzQ l (xss.length + lens xss) e ∧ Qt w w' := by
  obtain ⟨h2, h⟩ := h
  rcases h with ⟨a, cap, rfl, rfl⟩ | ⟨b, off, cap, rfl, h3, hlo, hhi, hc⟩
  · exact (szR_nil a cap l h0 h1 w).mono fun e w' ⟨he, hq⟩ => ⟨⟨l, .inr ⟨h0, by simp [lens]⟩, he⟩, hq⟩
  · exact szR_ne xss.length b off cap xss l h0 h1 w h2 rfl hc

end Go.Proofs.Ytgcidkcedfliiaa
