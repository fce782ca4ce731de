/- Graphs with some edges alone, by the model. -/
import Derived.Test.YtkipfjdlmomkfaaSpCd
import Derived.Deep.RegionLaw
import Derived.Deep.AppendLies
set_option linter.unusedSimpArgs false
set_option linter.unusedVariables false
set_option maxRecDepth 100000
namespace Go.Proofs.Ytkipfjdlmomkfaa
open Go.RowKit

def gvR (c : Int) (n : Nat) : Int := if c = 0 then (n : Int) else 0
set_option maxHeartbeats 1600000 in
theorem l05Given {lo hi lo1 hi1 : Nat} (s : Int) (a : Option Addr) (n c : Nat) (xss : List (List Int)) (a1 : Option Addr) (n1 c1 : Nat) (ws : List Int) (w : World) (h : RdR lo hi w (.slice a n c) xss) (hn : xss.length = n) (h1 : RdI lo1 hi1 w (.slice a1 n1 c1) ws) (hl : ws.length = n1) :
    Calls Try.prog 60 #[.agg #[.int .i64 s, .slice a n c], .slice a1 n1 c1] w fun e w' => e = .returned (.tuple #[.int .i64 (gvR (subCode s xss ws) (cdN ws n1)), .int .i64 (subCode s xss ws)]) ∧ Below w.heap.size w w' := by
  have hb0 : ∀ o, Below w.heap.size w (w.alloc o) := fun o => (Below.refl _ _).alloc (Nat.le_refl _) o
  have HI := Lib.hid (fun W (hB : Below w.heap.size w W) => l01Is s a n c xss W (h.below hB) hn)
  have HCO := Lib.hid (fun W (hB : Below w.heap.size w W) (h10 : n ≤ 10) => l05Code s a n c a1 n1 c1 ws W h10 (h1.below hB) hl)
  obtain ⟨cd, hcd⟩ : ∃ cd, cd = subCode s xss ws := ⟨_, rfl⟩
  rw [← hcd]
  unfold subCode at hcd
  rw [hn] at hcd
  have HCD := Lib.hid hcd
  have HN := Lib.hid hn
  clear h h1 hn hl hcd
  go_enter Try.func60, Try.ntmps60
  go_wp2_with fail
  refine calls_gen (fun W => Below w.heap.size w W ∧ W.cell? ⟨w.heap.size, 0, none⟩ = some (.int .i64 s) ∧ W.cell? ⟨w.heap.size, 1, none⟩ = some (.slice a n c)) ⟨hb0 _, by go_simp, by go_simp⟩ ?_
  rintro W ⟨hB, k0, k1⟩
  refine (HI.out W hB).mono ?_
  rintro e w1 ⟨rfl, b1⟩
  replace hB := hB.next b1
  replace k0 := b1.keep k0
  replace k1 := b1.keep k1
  clear b1
  cases hg : grB s xss with
  | false =>
    have hcd := HCD.out
    rw [hg, if_neg (by simp)] at hcd
    subst hcd
    go_wp2
    go_ret2
    exact ⟨rfl, hB⟩
  | true =>
    have hcd := HCD.out
    rw [hg, if_pos rfl] at hcd
    have hn10 : n ≤ 10 := by have := grB_iff hg; have := HN.out; omega
    have hco := HCO.out w1 hB hn10
    have HC2 := Lib.hid hcd
    clear hcd hg HCD
    go_wp2_with fail
    refine hco.mono ?_
    clear hco k0 k1
    rintro e w2 ⟨rfl, b2⟩
    replace hB := hB.next b2
    clear b2
    cases hs : subB n ws with
    | false =>
      have hcd := HC2.out
      rw [hs, if_neg (by simp)] at hcd
      subst hcd
      go_wp2
      go_ret2
      exact ⟨rfl, hB⟩
    | true =>
      have hcd := HC2.out
      rw [hs, if_pos rfl] at hcd
      subst hcd
      have hcr : cdRes true (cdN ws n1) = (cdN ws n1 : Int) := rfl
      have hgr : gvR 0 (cdN ws n1) = (cdN ws n1 : Int) := rfl
      go_wp2
      go_ret2
      exact ⟨rfl, hB⟩

/-- rows that lie in older memory -/
theorem RdI.wide {lo hi : Nat} {w : World} {v : Value} {xs : List Int} (h : RdI lo hi w v xs) : RdI 0 w.heap.size w v xs := by
  obtain ⟨h1, h2, ⟨a, cap, e1, e2⟩ | ⟨b, off, cap, hv, h0, hlo, hhi, hc⟩⟩ := h
  · exact ⟨h1, h2, .inl ⟨a, cap, e1, e2⟩⟩
  · exact ⟨h1, h2, .inr ⟨b, off, cap, hv, h0, Nat.zero_le _, World.block_lt_of_cell? w _ (hc 0 h0), hc⟩⟩
/-- rows by their headers: a list of headers owned, the rows read -/
structure HdR (B0 L g m cc : Nat) (rvs : List Value) (rows : List (List Int)) (W : World) : Prop where
  own : W.ownsRow L 35 1 (.slice (some ⟨g, 0, none⟩) m cc) m rvs
  len : rows.length = m
  row : ∀ j, j < m → RdI 0 B0 W (rvs.getD j (.slice none 0 0)) (rows.getD j [])
theorem HdR.rd {B0 L g m cc : Nat} {rvs : List Value} {rows : List (List Int)} {W : World} (h : HdR B0 L g m cc rvs rows W) (hm : m ≤ 1000) : RdR 0 W.heap.size W (.slice (some ⟨g, 0, none⟩) m cc) rows := by
  refine ⟨by rw [h.len]; omega, ?_⟩
  by_cases h0 : m = 0
  · subst h0
    exact .inl ⟨_, _, List.eq_nil_of_length_eq_zero h.len, rfl⟩
  · have hg := h.own.lt g rfl
    have hrl : rvs.length = m := by have := h.own.1; simpa using this
    refine .inr ⟨g, 0, cc, by rw [h.len], by rw [h.len]; omega, Nat.zero_le _, hg.2, fun j hj => ?_⟩
    rw [h.len] at hj
    refine ⟨rvs.getD j (.slice none 0 0), ?_, (h.row j hj).wide⟩
    rw [Nat.zero_add, World.ownsRow.cellAt h.own j (by omega)]
    simp [List.getD, List.getElem?_eq_getElem (show j < rvs.length by omega)]

end Go.Proofs.Ytkipfjdlmomkfaa
