/- The laws' helpers on graphs: sizes, copies, equality, marks. -/
import Derived.Test.YtgcidkcedfliiaaMarkR
set_option linter.unusedSimpArgs false
set_option linter.unusedVariables false
namespace Go.Proofs.Ytgcidkcedfliiaa
open Go.RowKit

theorem szG {lo hi : Nat} (s : Int) (a : Option Addr) (n c : Nat) (xss : List (List Int)) (l : Int) (h0 : 0 ≤ l) (h1 : l ≤ 1048576) (w : World) (h : RdR lo hi w (.slice a n c) xss) (hn : xss.length = n) :
    Calls Try.prog 17 #[.agg #[.int .i64 s, .slice a n c], .int .i64 l] w fun e w' => SzQ l (n + lens xss) e ∧ Below w.heap.size w w' := by
  have HN := Lib.hid hn
  clear hn
  have hb0 : ∀ o, Below w.heap.size w (w.alloc o) := fun o => (Below.refl _ _).alloc (Nat.le_refl _) o
  go_enter Try.func17, Try.ntmps17
  go_wp2_with fail
  refine (szR _ _ _ h0 h1 _ (h.below (hb0 _))).mono ?_
  rintro e w1 ⟨⟨r, hr, rfl⟩, hq⟩
  rw [HN.out] at hr
  have hb := (hb0 _).qt hq
  rcases hr with rfl | ⟨hr, hr2⟩
  · go_wp2
    go_ret
    exact ⟨⟨_, .inl rfl, rfl⟩, hb⟩
  · have HR := Lib.hid hr2
    clear hr2
    go_wp2
    go_ret
    exact ⟨⟨_, .inr ⟨hr, HR.out⟩, rfl⟩, hb⟩

theorem toG {lo hi : Nat} (s : Int) (a : Option Addr) (n c : Nat) (xss : List (List Int)) (w : World) (h : RdR lo hi w (.slice a n c) xss) (hhi : hi ≤ w.heap.size) :
    Calls Try.prog 19 #[.agg #[.int .i64 s, .slice a n c]] w fun e w' => ∃ a' c', e = .returned (.agg #[.int .i64 s, .slice a' xss.length c']) ∧ OwR w.heap.size w'.heap.size w' (.slice a' xss.length c') xss ∧ Below w.heap.size w w' := by
  have hb0 : ∀ o, Below w.heap.size w (w.alloc o) := fun o => (Below.refl _ _).alloc (Nat.le_refl _) o
  go_enter Try.func19, Try.ntmps19
  go_wp2_with fail
  refine calls_gen (fun W => Below w.heap.size w W ∧ W.heap.size = w.heap.size + 1 + 1 + 1 ∧ W.cell? ⟨w.heap.size + 1, 0, none⟩ = some (.int .i64 0) ∧ W.cell? ⟨w.heap.size + 1, 1, none⟩ = some (.slice none 0 0) ∧ W.cell? ⟨w.heap.size + 1 + 1, 0, none⟩ = some (.int .i64 s) ∧ W.cell? ⟨w.heap.size + 1 + 1, 1, none⟩ = some (.slice none 0 0) ∧ W.frozen? ⟨w.heap.size + 1 + 1, 1, none⟩ = false ∧ W.frozen? ⟨w.heap.size + 1, 0, none⟩ = false ∧ W.frozen? ⟨w.heap.size + 1, 1, none⟩ = false) ⟨?_, ?_, ?_, ?_, ?_, ?_, ?_, ?_, ?_⟩ ?_
  · exact (((Below.refl _ _).alloc (Nat.le_refl _) _).alloc (by simp) _).alloc (by simp; omega) _
  · simp
  · go_simp
  · go_simp
  · go_simp
  · go_simp
  · go_simp
  · go_simp
  · go_simp
  rintro W ⟨hbW, hsz, c1, c2, c3, c4, f4, f1, f2⟩
  have HSZ := Lib.hid hsz
  have hsz2 : w.heap.size + 1 + 1 < W.heap.size := by omega
  clear hsz
  refine (toR _ _ _ (h.below hbW) (by have := hbW.size; omega)).mono ?_
  rintro e w1 ⟨a', c', rfl, o1, b1⟩
  replace c1 := b1.keep c1
  replace c2 := b1.keep c2
  replace c3 := b1.keep c3
  replace c4 := b1.keep c4
  replace f4 := b1.keepf hsz2 f4
  replace f1 := b1.keepf (by show w.heap.size + 1 < _; omega) f1
  replace f2 := b1.keepf (by show w.heap.size + 1 < _; omega) f2
  go_wp2
  refine bodyPost_ret (v := .agg #[.int .i64 s, .slice a' xss.length c']) (by simp [results, Try.results19, go_sem, c1, c2, c3, c4]) rfl ⟨a', c', rfl, ?_, ?_⟩
  · have hw := hbW.size
    refine (OwR.chg (lo' := w.heap.size) (hi' := W.heap.size) o1 ?_ (.inr (Nat.le_refl _))).mono hw (by simp [World.setCell])
    repeat (refine Chg.setCell ?_ (by constructor <;> simp <;> omega) _)
    exact Chg.refl _ _ _
  · repeat (refine Below.setCell ?_ (by simp <;> omega) _)
    exact hbW.next b1

theorem eqG {lo hi lo' hi' : Nat} (s s' : Int) (a a' : Option Addr) (n c n' c' : Nat) (xss yss : List (List Int)) (w : World) (h : RdR lo hi w (.slice a n c) xss) (h' : RdR lo' hi' w (.slice a' n' c') yss) :
    Calls Try.prog 22 #[.agg #[.int .i64 s, .slice a n c], .agg #[.int .i64 s', .slice a' n' c']] w fun e w' => e = .returned (.bool (decide (s = s') && eqRB xss yss)) ∧ Below w.heap.size w w' := by
  have hb0 : ∀ o o', Below w.heap.size w ((w.alloc o).alloc o') := fun o o' => ((Below.refl _ _).alloc (Nat.le_refl _) o).alloc (by simp) o'
  by_cases hs : s = s'
  · subst hs
    go_enter Try.func22, Try.ntmps22
    go_wp2_with fail
    refine calls_gen (fun W => Below w.heap.size w W) (hb0 _ _) ?_
    intro W hbW
    refine (eqR _ _ _ _ _ (h.below hbW) (h'.below hbW)).mono ?_
    rintro e w1 ⟨rfl, hq⟩
    have hb := hbW.qt hq
    generalize hbb : eqRB xss yss = bb
    have Hbb := Lib.hid hbb
    clear hbb
    cases bb with
    | true =>
      go_wp2
      go_ret
      exact ⟨by rw [Hbb.out]; simp, hb⟩
    | false =>
      go_wp2
      go_ret
      exact ⟨by rw [Hbb.out]; simp, hb⟩
  · have hs' : (s != s') = true := by simpa using hs
    go_enter Try.func22, Try.ntmps22
    go_wp2
    go_ret
    exact ⟨by simp [hs], hb0 _ _⟩

theorem toG' {lo hi : Nat} (s : Int) (a : Option Addr) (n c : Nat) (xss : List (List Int)) (w0 w : World) (hb : Below w0.heap.size w0 w) (h : RdR lo hi w0 (.slice a n c) xss) (hhi : hi ≤ w0.heap.size) :
    Calls Try.prog 19 #[.agg #[.int .i64 s, .slice a n c]] w fun e w' => ∃ a' c', e = .returned (.agg #[.int .i64 s, .slice a' xss.length c']) ∧ OwR w.heap.size w'.heap.size w' (.slice a' xss.length c') xss ∧ Below w.heap.size w w' :=
  toG s a n c xss w (h.below hb) (Nat.le_trans hhi hb.size)

theorem eqG' {lo hi lo' hi' : Nat} (s s' : Int) (a a' : Option Addr) (n c n' c' : Nat) (xss yss : List (List Int)) (w0 w : World) (hb : Below w0.heap.size w0 w) (h : RdR lo hi w0 (.slice a n c) xss) (h' : RdR lo' hi' w (.slice a' n' c') yss) :
    Calls Try.prog 22 #[.agg #[.int .i64 s, .slice a n c], .agg #[.int .i64 s', .slice a' n' c']] w fun e w' => e = .returned (.bool (decide (s = s') && eqRB xss yss)) ∧ Below w.heap.size w w' :=
  eqG s s' a a' n c n' c' xss yss w (h.below hb) h'

theorem eqG1 {lo hi lo' hi' : Nat} (s : Int) (a a' : Option Addr) (n c n' c' : Nat) (xss : List (List Int)) (w0 w : World) (hb : Below w0.heap.size w0 w) (h : RdR lo hi w0 (.slice a n c) xss) (h' : RdR lo' hi' w (.slice a' n' c') xss) :
    Calls Try.prog 22 #[.agg #[.int .i64 s, .slice a n c], .agg #[.int .i64 s, .slice a' n' c']] w fun e w' => e = .returned (.bool true) ∧ Below w.heap.size w w' :=
  (eqG s s a a' n c n' c' xss xss w (h.below hb) h').mono fun e w' ⟨he, hb⟩ => ⟨by rw [he, eqRB_self]; simp, hb⟩

theorem markG {lo hi : Nat} (s : Int) (a : Option Addr) (n c : Nat) (xss : List (List Int)) (k : Int) (w : World) (h : OwR lo hi w (.slice a n c) xss) (hk0 : 0 ≤ k) (hk1 : k + lens xss ≤ 17592186044416) (hhi : hi ≤ w.heap.size) :
    Calls Try.prog 28 #[.agg #[.int .i64 s, .slice a n c], .int .i64 k] w fun e w' => e = .returned (.int .i64 (k + lens xss)) ∧ OwR lo hi w' (.slice a n c) (marksR k xss) ∧ Chg lo hi w w' := by
  have hb0 : ∀ o, Below w.heap.size w (w.alloc o) := fun o => (Below.refl _ _).alloc (Nat.le_refl _) o
  go_enter Try.func28, Try.ntmps28
  go_wp2_with fail
  refine (markR _ _ _ _ (h.below (hb0 _)) hk0 hk1).mono ?_
  rintro e w1 ⟨rfl, o1, c1⟩
  have c2 := ((hb0 (.cells #[.int .i64 s, .slice a n c] 29)).chg lo hi).trans c1
  go_wp2
  go_ret
  exact ⟨rfl, o1, c2⟩

end Go.Proofs.Ytgcidkcedfliiaa
