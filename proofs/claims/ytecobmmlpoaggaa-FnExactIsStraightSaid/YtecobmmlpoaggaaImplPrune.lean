/- PruneGraph of the program. -/
import Derived.Test.YtecobmmlpoaggaaWithout
import Derived.Test.YtecobmmlpoaggaaScopes
set_option linter.unusedSimpArgs false
set_option linter.unusedVariables false
namespace Go.Proofs.Ytecobmmlpoaggaa
open Go.RowKit

theorem implPrune_no {lo hi : Nat} (s : Int) (a : Option Addr) (n c : Nat) (xss : List (List Int)) (w : World) (h : RdR lo hi w (.slice a n c) xss) (hn : xss.length = n) (hg : grB s xss = false) :
    Calls Try.prog 46 #[.agg #[.int .i64 s, .slice a n c]] w fun e w' => e = .returned (.tuple #[.agg #[.int .i64 0, .slice none 0 0], .int .i64 1]) ∧ Below w.heap.size w w' := by
  have hb0 : ∀ o o', Below w.heap.size w ((w.alloc o).alloc o') := fun o o' => ((Below.refl _ _).alloc (Nat.le_refl _) o).alloc (by simp) o'
  go_enter Try.func46, Try.ntmps46
  go_wp2
  go_step3
  go_wp2_with fail
  refine calls_gen (fun W => Below w.heap.size w W ∧ w.heap.size + 1 < W.heap.size ∧ W.cell? ⟨w.heap.size + 1, 0, none⟩ = some (.int .i64 0) ∧ W.cell? ⟨w.heap.size + 1, 1, none⟩ = some (.slice none 0 0) ∧ W.frozen? ⟨w.heap.size + 1, 0, none⟩ = false ∧ W.frozen? ⟨w.heap.size + 1, 1, none⟩ = false) ⟨hb0 _ _, by simp, by go_simp, by go_simp, by go_simp, by go_simp⟩ ?_
  rintro W ⟨hB, hz, k1, k2, f1, f2⟩
  refine (implIsGraph s a n c xss W (h.below hB) hn).mono ?_
  rw [hg]
  rintro e w1 ⟨rfl, b1⟩
  replace k1 := b1.keep k1
  replace k2 := b1.keep k2
  replace f1 := b1.keepf hz f1
  replace f2 := b1.keepf hz f2
  replace hB := hB.next b1
  clear b1
  go_wp2
  try rw [Exit.noGoto_ret]
  refine bodyPost_ret (v := .tuple #[.agg #[.int .i64 0, .slice none 0 0], .int .i64 1]) (by simp [results, Try.results46, go_sem, k1, k2]) rfl ⟨rfl, ?_⟩
  repeat (refine Below.setCell ?_ (by simp <;> omega) _)
  exact hB

def cI (o : Option Value) : Nat := match o with | some (.int _ x) => x.toNat | _ => 0
def ptrA (v : Value) : Addr := match v with | .pointer (some a) => a | _ => ⟨0, 0, none⟩

/-- the graph under way, in a box X, and what is kept of the frame -/
structure PrI (w : World) (s0 : Nat × List (List Int)) (R X S' n' : Nat) (a' : Option Addr) (c' : Nat) (xs' : List (List Int)) (wr : World) : Prop where
  gr : grB (S' : Int) xs' = true
  pr : prune S' xs' = s0
  len : xs'.length = n'
  hX : R < X
  wX : w.heap.size ≤ X
  hXl : X < wr.heap.size
  c0 : wr.cell? ⟨X, 0, none⟩ = some (.int .i64 (S' : Int))
  c1 : wr.cell? ⟨X, 1, none⟩ = some (.slice a' n' c')
  f0 : wr.frozen? ⟨X, 0, none⟩ = false
  f1 : wr.frozen? ⟨X, 1, none⟩ = false
  r0 : wr.cell? ⟨R, 0, none⟩ = some (.int .i64 0)
  r1 : wr.cell? ⟨R, 1, none⟩ = some (.slice none 0 0)
  rf0 : wr.frozen? ⟨R, 0, none⟩ = false
  rf1 : wr.frozen? ⟨R, 1, none⟩ = false
  own : ∃ lo hi, OwR lo hi wr (.slice a' n' c') xs' ∧ R + 1 ≤ lo ∧ hi ≤ wr.heap.size ∧ (hi ≤ X ∨ X + 1 ≤ lo)
  below : Below w.heap.size w wr

theorem PrI.next {w : World} {s0 : Nat × List (List Int)} {R X S' n' : Nat} {a' : Option Addr} {c' : Nat} {xs' : List (List Int)} {wr w1 : World} (h : PrI w s0 R X S' n' a' c' xs' wr) (b : Below wr.heap.size wr w1) : PrI w s0 R X S' n' a' c' xs' w1 := by
  obtain ⟨lo, hi, o1, o2, o3, o4⟩ := h.own
  have hR : R < wr.heap.size := Nat.lt_trans h.hX h.hXl
  exact ⟨h.gr, h.pr, h.len, h.hX, h.wX, Nat.lt_of_lt_of_le h.hXl b.size, b.keep h.c0, b.keep h.c1, b.keepf h.hXl h.f0, b.keepf h.hXl h.f1, b.keep h.r0, b.keep h.r1, b.keepf hR h.rf0, b.keepf hR h.rf1, ⟨lo, hi, o1.below b, o2, Nat.le_trans o3 b.size, o4⟩, h.below.next b⟩

theorem PrI.start {w : World} {s0 : Nat × List (List Int)} {R X : Nat} {wr : World} {a3 : Option Addr} {n3 c3 : Nat} {xs3 : List (List Int)} {S3 : Nat} {v0 v1 : Value}
    (hg : grB (S3 : Int) xs3 = true) (hp : prune S3 xs3 = s0) (hlen : xs3.length = n3) (hX : R < X) (wX : w.heap.size ≤ X) (hXl : X < wr.heap.size) (c0 : wr.cell? ⟨X, 0, none⟩ = some v0) (c1 : wr.cell? ⟨X, 1, none⟩ = some v1) (f0 : wr.frozen? ⟨X, 0, none⟩ = false) (f1 : wr.frozen? ⟨X, 1, none⟩ = false)
    (r0 : wr.cell? ⟨R, 0, none⟩ = some (.int .i64 0)) (r1 : wr.cell? ⟨R, 1, none⟩ = some (.slice none 0 0)) (rf0 : wr.frozen? ⟨R, 0, none⟩ = false) (rf1 : wr.frozen? ⟨R, 1, none⟩ = false) (below : Below w.heap.size w wr)
    (lo hi : Nat) (ho : OwR lo hi wr (.slice a3 n3 c3) xs3) (hhi : hi ≤ wr.heap.size) (hXo : X < lo) :
    PrI w s0 R X S3 n3 a3 c3 xs3 ((wr.setCell ⟨X, 0, none⟩ (.int .i64 (S3 : Int))).setCell ⟨X, 1, none⟩ (.slice a3 n3 c3)) := by
  have hch : Chg X (X+1) wr ((wr.setCell ⟨X, 0, none⟩ (.int .i64 (S3 : Int))).setCell ⟨X, 1, none⟩ (.slice a3 n3 c3)) := ((Chg.refl X (X+1) wr).setCell (p := ⟨X, 0, none⟩) ⟨Nat.le_refl _, Nat.lt_succ_self _⟩ _).setCell (p := ⟨X, 1, none⟩) ⟨Nat.le_refl _, Nat.lt_succ_self _⟩ _
  have hR : R < wr.heap.size := Nat.lt_trans hX hXl
  refine ⟨hg, hp, hlen, hX, wX, Nat.lt_of_lt_of_le hXl hch.size, ?_, ?_, ?_, ?_, hch.cell r0 (.inl hX), hch.cell r1 (.inl hX), hch.frozen hR (.inl hX) rf0, hch.frozen hR (.inl hX) rf1, ⟨lo, hi, ho.chg hch (.inr hXo), ?_, ?_, .inr hXo⟩, ?_⟩
  · rw [World.cell?_setCell_other _ _ _ _ (by simp)]; exact World.cell?_setCell_same _ _ _ c0
  · exact World.cell?_setCell_same _ _ _ (by rw [World.cell?_setCell_other _ _ _ _ (by simp)]; exact c1)
  · rw [World.frozen?_setCell, World.frozen?_setCell]; exact f0
  · rw [World.frozen?_setCell, World.frozen?_setCell]; exact f1
  · omega
  · have := hch.size; omega
  · exact below.chgn hch wX below.size
theorem PrI.startC {w : World} {s0 : Nat × List (List Int)} {R : Nat} {wr : World} {a3 : Option Addr} {n3 c3 : Nat} {xs3 : List (List Int)} {S3 : Nat} (t : TypeId)
    (hg : grB (S3 : Int) xs3 = true) (hp : prune S3 xs3 = s0) (hlen : xs3.length = n3) (hX : R < wr.heap.size)
    (r0 : wr.cell? ⟨R, 0, none⟩ = some (.int .i64 0)) (r1 : wr.cell? ⟨R, 1, none⟩ = some (.slice none 0 0)) (rf0 : wr.frozen? ⟨R, 0, none⟩ = false) (rf1 : wr.frozen? ⟨R, 1, none⟩ = false) (below : Below w.heap.size w wr)
    (lo : Nat) (ho : OwR lo wr.heap.size wr (.slice a3 n3 c3) xs3) (hRo : R + 1 ≤ lo) :
    PrI w s0 R wr.heap.size S3 n3 a3 c3 xs3 (wr.alloc (.cells #[.int .i64 (S3 : Int), .slice a3 n3 c3] t)) := by
  have hA := (Below.refl wr.heap.size wr).alloc (Nat.le_refl _) (.cells #[.int .i64 (S3 : Int), .slice a3 n3 c3] t)
  exact ⟨hg, hp, hlen, hX, below.size, by simp, by go_simp, by go_simp, by go_simp, by go_simp, hA.keep r0, hA.keep r1, hA.keepf hX rf0, hA.keepf hX rf1, ⟨lo, wr.heap.size, ho.below hA, hRo, hA.size, .inl (Nat.le_refl _)⟩, below.next hA⟩
theorem PrI.cut {w : World} {s0 : Nat × List (List Int)} {R X S' n' : Nat} {a' : Option Addr} {c' : Nat} {xs' : List (List Int)} {wr : World} (h : PrI w s0 R X S' n' a' c' xs' wr) {a3 : Option Addr} {c3 : Nat} {xs3 : List (List Int)} {S3 : Nat}
    (hg : grB (S3 : Int) xs3 = true) (hp : prune S3 xs3 = s0) (lo hi : Nat) (ho : OwR lo hi wr (.slice a3 xs3.length c3) xs3) (hhi : hi ≤ wr.heap.size) (hX : X < lo) :
    PrI w s0 R X S3 xs3.length a3 c3 xs3 ((wr.setCell ⟨X, 0, none⟩ (.int .i64 (S3 : Int))).setCell ⟨X, 1, none⟩ (.slice a3 xs3.length c3)) :=
  PrI.start hg hp rfl h.hX h.wX h.hXl h.c0 h.c1 h.f0 h.f1 h.r0 h.r1 h.rf0 h.rf1 h.below lo hi ho hhi hX

set_option maxRecDepth 100000 in
set_option maxHeartbeats 6400000 in
theorem implPrune_yes {lo hi : Nat} (S : Nat) (a : Option Addr) (n c : Nat) (xss : List (List Int)) (w : World) (h : RdR lo hi w (.slice a n c) xss) (hn : xss.length = n) (hg : grB (S : Int) xss = true) :
    Calls Try.prog 46 #[.agg #[.int .i64 (S : Int), .slice a n c]] w fun e w' => ∃ a' c', e = .returned (.tuple #[.agg #[.int .i64 ((prune S xss).1 : Int), .slice a' (prune S xss).2.length c'], .int .i64 0]) ∧ OwR w.heap.size w'.heap.size w' (.slice a' (prune S xss).2.length c') (prune S xss).2 ∧ Below w.heap.size w w' := by
  have hb0 : ∀ o o', Below w.heap.size w ((w.alloc o).alloc o') := fun o o' => ((Below.refl _ _).alloc (Nat.le_refl _) o).alloc (by simp) o'
  obtain ⟨hs1, hs2, h3, h4⟩ := grB_iff hg
  have hn10 : n ≤ 10 := by omega
  have HEO := Lib.hid (fun W' (h : RdR lo hi W' (.slice a n c) xss) => edgesOf (S : Int) a n c xss W' h hg hn)
  have HU := Lib.hid (unp_pairs hg)
  have HGI := Lib.hid (fun k (hk : k < xss.length) => gr_I64 hg hk)
  have HN := Lib.hid hn
  have HG := Lib.hid hg
  obtain ⟨s0, hs0⟩ : ∃ s0, s0 = prune S xss := ⟨_, rfl⟩
  rw [← hs0]
  have HS0 := Lib.hid hs0
  clear hn hg h3 h4 hs0
  go_enter Try.func46, Try.ntmps46
  go_wp2
  refine wp_scope_labels (fun l act wr => (l = 0 ∨ l = 1) ∧ ∃ (X S' n' : Nat) (a' : Option Addr) (c' : Nat) (xs' : List (List Int)) (u3 u5 u6 u7 u8 u9 u10 u11 u12 u13 u14 u15 u16 u17 u18 u19 u20 u21 u22 : Value),
      act = { tmps := #[.agg #[.int .i64 (S : Int), .slice a n c], .pointer (some ⟨w.heap.size, 0, none⟩), .pointer (some ⟨w.heap.size + 1, 0, none⟩), u3, .pointer (some ⟨X, 0, none⟩), u5, u6, u7, u8, u9, u10, u11, u12, u13, u14, u15, u16, u17, u18, u19, u20, u21, u22], defers := [] } ∧
      PrI w s0 (w.heap.size + 1) X S' n' a' c' xs' wr ∧ (l = 1 → leafN S' xs' = none))
    (fun l act wr => if l = 1 then 0 else 1 + cI (wr.cell? (ptrA (act.tmps.getD 4 undef)))) ?_ ?_
  · go_wp2_with fail
    refine calls_gen (fun W => Below w.heap.size w W ∧ w.heap.size + 1 < W.heap.size ∧ W.cell? ⟨w.heap.size, 0, none⟩ = some (.int .i64 (S : Int)) ∧ W.cell? ⟨w.heap.size, 1, none⟩ = some (.slice a n c) ∧ W.cell? ⟨w.heap.size + 1, 0, none⟩ = some (.int .i64 0) ∧ W.cell? ⟨w.heap.size + 1, 1, none⟩ = some (.slice none 0 0) ∧ W.frozen? ⟨w.heap.size + 1, 0, none⟩ = false ∧ W.frozen? ⟨w.heap.size + 1, 1, none⟩ = false) ⟨hb0 _ _, by simp, by go_simp, by go_simp, by go_simp, by go_simp, by go_simp, by go_simp⟩ ?_
    rintro W ⟨hB, hz, k0, k1, r0, r1, rf0, rf1⟩
    refine (implIsGraph _ a n c xss W (h.below hB) HN.out).mono ?_
    rw [HG.out]
    rintro e w1 ⟨rfl, b1⟩
    replace k0 := b1.keep k0
    replace k1 := b1.keep k1
    replace r0 := b1.keep r0
    replace r1 := b1.keep r1
    replace rf0 := b1.keepf hz rf0
    replace rf1 := b1.keepf hz rf1
    replace hB := hB.next b1
    have hz1 := Nat.lt_of_lt_of_le hz b1.size
    have hh := h.below hB
    clear b1
    go_wp2
    have HR := Lib.hid (⟨r0, r1, rf0, rf1, hB⟩ : _ ∧ _ ∧ _ ∧ _ ∧ _)
    clear r0 r1 rf0 rf1 hB
    go_region_held3 (fun W' => W'.cell? ⟨w.heap.size, 0, none⟩ = some (.int .i64 (S : Int)) ∧ W'.cell? ⟨w.heap.size, 1, none⟩ = some (.slice a n c))
      (first
        | (exact ⟨k0, k1⟩) | (exact ⟨s50, s51⟩) | (exact ⟨s40, s41⟩)
        | (exact ⟨((Below.refl w5.heap.size w5).alloc (Nat.le_refl _) _).keep s50, ((Below.refl w5.heap.size w5).alloc (Nat.le_refl _) _).keep s51⟩)
        | (exact ⟨((Below.refl w4.heap.size w4).alloc (Nat.le_refl _) _).keep s40, ((Below.refl w4.heap.size w4).alloc (Nat.le_refl _) _).keep s41⟩)
        | (exact ⟨((Below.refl w1.heap.size w1).alloc (Nat.le_refl _) _).keep k0, ((Below.refl w1.heap.size w1).alloc (Nat.le_refl _) _).keep k1⟩)
        | (refine ⟨?_, ?_⟩ <;> (rw [World.cell?_setCell_other _ _ _ _ (by simp <;> omega), World.cell?_setCell_other _ _ _ _ (by simp <;> omega)]; first | exact s50 | exact s51)) | go_keep)
      (first
        | (go_at_call 64; refine (HEO.out _ (hh.qt (Qt.refl _).drew)).mono ?_; rintro e w4 ⟨g, c4, rfl, o4, b4⟩; have s40 := b4.keep k0; have s41 := b4.keep k1; have hb4 := (Qt.refl w1).drew.below.next b4; have hsz4 := hb4.size)
        | (go_at_call 64; refine (HEO.out _ ((hh.qt (Qt.refl _).drew).below ((Below.refl w1.drew.heap.size w1.drew).alloc (Nat.le_refl _) _))).mono ?_; rintro e w4 ⟨g, c4, rfl, o4, b4⟩; have s40 := b4.keep (((Below.refl w1.drew.heap.size w1.drew).alloc (Nat.le_refl _) _).keep k0); have s41 := b4.keep (((Below.refl w1.drew.heap.size w1.drew).alloc (Nat.le_refl _) _).keep k1); have x40 : w4.cell? ⟨w1.heap.size, 0, none⟩ = some (.int .i64 0) := b4.keep (by go_simp); have x41 : w4.cell? ⟨w1.heap.size, 1, none⟩ = some (.slice none 0 0) := b4.keep (by go_simp); have y40 : w4.frozen? ⟨w1.heap.size, 0, none⟩ = false := b4.keepf (by simp) (by go_simp); have y41 : w4.frozen? ⟨w1.heap.size, 1, none⟩ = false := b4.keepf (by simp) (by go_simp); have hb4 := (((Below.refl w1.heap.size w1).drew).alloc (Nat.le_refl _) _).next b4; have hsz4 := hb4.size)
        | (go_at_call 70; refine (graphWith (S : Int) _ n c4 (pairs xss) _ (RdE.mk o4 (by rw [pairs_len]; exact HN.out)) (by rw [pairs_len]; exact HN.out) (by omega) (fun j hj => HGI.out j (by rw [HN.out]; exact hj))).mono ?_; rintro e w5 ⟨a5, c5, rfl, o5, b5⟩; have s50 := b5.keep s40; have s51 := b5.keep s41; have hb5 := hb4.next b5; first | (have x50 := b5.keep x40; have x51 := b5.keep x41; have y50 := b5.keepf (show w1.heap.size < w4.heap.size from World.block_lt_of_cell? w4 _ x40) y40; have y51 := b5.keepf (show w1.heap.size < w4.heap.size from World.block_lt_of_cell? w4 _ x40) y41) | skip)
        | (go_at_call 70; refine (graphWith (S : Int) _ n c4 (pairs xss) _ ((RdE.mk o4 (by rw [pairs_len]; exact HN.out)).below ((Below.refl w4.heap.size w4).alloc (Nat.le_refl _) _)) (by rw [pairs_len]; exact HN.out) (by omega) (fun j hj => HGI.out j (by rw [HN.out]; exact hj))).mono ?_; rintro e w5 ⟨a5, c5, rfl, o5, b5⟩; have s50 := b5.keep (((Below.refl w4.heap.size w4).alloc (Nat.le_refl _) _).keep s40); have s51 := b5.keep (((Below.refl w4.heap.size w4).alloc (Nat.le_refl _) _).keep s41); have x50 : w5.cell? ⟨w4.heap.size, 0, none⟩ = some (.int .i64 0) := b5.keep (by go_simp); have x51 : w5.cell? ⟨w4.heap.size, 1, none⟩ = some (.slice none 0 0) := b5.keep (by go_simp); have y50 : w5.frozen? ⟨w4.heap.size, 0, none⟩ = false := b5.keepf (by simp) (by go_simp); have y51 : w5.frozen? ⟨w4.heap.size, 1, none⟩ = false := b5.keepf (by simp) (by go_simp); have hb5 := (hb4.alloc hb4.size _).next b5))
    all_goals
      rw [HU.out, HN.out] at o5 ⊢
      obtain ⟨r0, r1, rf0, rf1, hB⟩ := HR.out
      have hRz : w.heap.size + 1 < w1.heap.size := hz1
      have hs45 := b5.size
    · have hP : PrI w s0 (w.heap.size + 1) w5.heap.size S n a5 c5 xss (w5.alloc (.cells #[.int .i64 (S : Int), .slice a5 n c5] 28)) :=
        PrI.startC _ HG.out HS0.out.symm HN.out (Nat.lt_of_lt_of_le hRz hb5.size) (hb5.keep r0) (hb5.keep r1) (hb5.keepf hRz rf0) (hb5.keepf hRz rf1) (hB.next hb5) w4.heap.size o5 (by omega)
      obtain ⟨wr, hwr⟩ : ∃ wr, wr = (w5.alloc (.cells #[.int .i64 (S : Int), .slice a5 n c5] 28)) := ⟨_, rfl⟩
      rw [← hwr] at hP ⊢
      clear hwr
      have hS1 : 1 ≤ S := by have := grB_iff hP.gr; omega
      obtain ⟨lo', hi', o1, o2, o3, o4⟩ := hP.own
      have hrd := o1.rd
      have c0 := hP.c0
      have c1 := hP.c1
      cases hl : leafN S xss with
      | none =>
        have HCT := Lib.hid (fun W' (h : RdR lo' hi' W' (.slice a5 n c5) xss) => leafOf S a5 n c5 xss W' h hP.len hP.gr)
        rw [hl, show ixI none = -1 from rfl] at HCT
        go_wp2
        go_step3
        go_wp2_with fail
        refine (HCT.out _ hrd).mono ?_
        rintro e w6 ⟨rfl, b6⟩
        have hP1 := hP.next b6
        clear b6 c0 c1 o1 hrd
        go_wp2
        go_step3
        exact ⟨.inr rfl, w5.heap.size, S, n, a5, c5, xss, _, _, _, _, _, _, _, _, _, _, _, _, _, _, _, _, _, _, _, rfl, hP1, fun _ => hl⟩
      | some v =>
        have HCT := Lib.hid (fun W' (h : RdR lo' hi' W' (.slice a5 n c5) xss) => leafOf S a5 n c5 xss W' h hP.len hP.gr)
        rw [hl, show ixI (some v) = (v : Int) from rfl] at HCT
        have HCW := Lib.hid (fun W' (h : RdR lo' hi' W' (.slice a5 n c5) xss) => withoutLeaf S v a5 n c5 xss W' h hP.len hP.gr)
        obtain ⟨hv1, hv2⟩ := leaf_get hl
        have hcg := cut_gr hP.gr hv1 hv2
        have hps := prune_some hS1 hl
        go_wp2
        go_step3
        go_wp2_with fail
        refine (HCT.out _ hrd).mono ?_
        rintro e w6 ⟨rfl, b6⟩
        have hP1 := hP.next b6
        have hrd1 := hrd.below b6
        replace c0 := hP1.c0
        replace c1 := hP1.c1
        clear b6 o1 hrd
        go_wp2_with fail
        refine (HCW.out _ hrd1).mono ?_
        rintro e w7 ⟨a3, c3, rfl, o7, b7⟩
        have hP3 := hP1.next b7
        replace c0 := hP3.c0
        replace c1 := hP3.c1
        have f0 := hP3.f0
        have f1 := hP3.f1
        have eS : ((S : Int) - 1) = ((S - 1 : Nat) : Int) := by omega
        have hP4 := hP3.cut (a3 := a3) (c3 := c3) (xs3 := cutV (v : Int) xss) (S3 := S - 1) hcg.2 (by rw [← hps]; exact hP3.pr) w6.heap.size w7.heap.size o7 (Nat.le_refl _) hP1.hXl
        have HP4 := Lib.hid hP4
        clear b7 hrd1 hP4
        go_wp2
        go_step3
        exact ⟨.inl rfl, w5.heap.size, S - 1, _, a3, c3, _, _, _, _, _, _, _, _, _, _, _, _, _, _, _, _, _, _, _, _, rfl, HP4.out, fun e => by omega⟩
    · have hP : PrI w s0 (w.heap.size + 1) w4.heap.size S n a5 c5 xss ((w5.setCell ⟨w4.heap.size, 0, none⟩ (.int .i64 (S : Int))).setCell ⟨w4.heap.size, 1, none⟩ (.slice a5 n c5)) :=
        PrI.start HG.out HS0.out.symm HN.out (by omega) (by have := hB.size; omega) (World.block_lt_of_cell? w5 _ x50) x50 x51 y50 y51 (hb5.keep r0) (hb5.keep r1) (hb5.keepf hRz rf0) (hb5.keepf hRz rf1) (hB.next hb5) _ w5.heap.size o5 (Nat.le_refl _) (by simp)
      obtain ⟨wr, hwr⟩ : ∃ wr, wr = ((w5.setCell ⟨w4.heap.size, 0, none⟩ (.int .i64 (S : Int))).setCell ⟨w4.heap.size, 1, none⟩ (.slice a5 n c5)) := ⟨_, rfl⟩
      rw [← hwr] at hP ⊢
      clear hwr
      have hS1 : 1 ≤ S := by have := grB_iff hP.gr; omega
      obtain ⟨lo', hi', o1, o2, o3, o4⟩ := hP.own
      have hrd := o1.rd
      have c0 := hP.c0
      have c1 := hP.c1
      cases hl : leafN S xss with
      | none =>
        have HCT := Lib.hid (fun W' (h : RdR lo' hi' W' (.slice a5 n c5) xss) => leafOf S a5 n c5 xss W' h hP.len hP.gr)
        rw [hl, show ixI none = -1 from rfl] at HCT
        go_wp2
        go_step3
        go_wp2_with fail
        refine (HCT.out _ hrd).mono ?_
        rintro e w6 ⟨rfl, b6⟩
        have hP1 := hP.next b6
        clear b6 c0 c1 o1 hrd
        go_wp2
        go_step3
        exact ⟨.inr rfl, w4.heap.size, S, n, a5, c5, xss, _, _, _, _, _, _, _, _, _, _, _, _, _, _, _, _, _, _, _, rfl, hP1, fun _ => hl⟩
      | some v =>
        have HCT := Lib.hid (fun W' (h : RdR lo' hi' W' (.slice a5 n c5) xss) => leafOf S a5 n c5 xss W' h hP.len hP.gr)
        rw [hl, show ixI (some v) = (v : Int) from rfl] at HCT
        have HCW := Lib.hid (fun W' (h : RdR lo' hi' W' (.slice a5 n c5) xss) => withoutLeaf S v a5 n c5 xss W' h hP.len hP.gr)
        obtain ⟨hv1, hv2⟩ := leaf_get hl
        have hcg := cut_gr hP.gr hv1 hv2
        have hps := prune_some hS1 hl
        go_wp2
        go_step3
        go_wp2_with fail
        refine (HCT.out _ hrd).mono ?_
        rintro e w6 ⟨rfl, b6⟩
        have hP1 := hP.next b6
        have hrd1 := hrd.below b6
        replace c0 := hP1.c0
        replace c1 := hP1.c1
        clear b6 o1 hrd
        go_wp2_with fail
        refine (HCW.out _ hrd1).mono ?_
        rintro e w7 ⟨a3, c3, rfl, o7, b7⟩
        have hP3 := hP1.next b7
        replace c0 := hP3.c0
        replace c1 := hP3.c1
        have f0 := hP3.f0
        have f1 := hP3.f1
        have eS : ((S : Int) - 1) = ((S - 1 : Nat) : Int) := by omega
        have hP4 := hP3.cut (a3 := a3) (c3 := c3) (xs3 := cutV (v : Int) xss) (S3 := S - 1) hcg.2 (by rw [← hps]; exact hP3.pr) w6.heap.size w7.heap.size o7 (Nat.le_refl _) hP1.hXl
        have HP4 := Lib.hid hP4
        clear b7 hrd1 hP4
        go_wp2
        go_step3
        exact ⟨.inl rfl, w4.heap.size, S - 1, _, a3, c3, _, _, _, _, _, _, _, _, _, _, _, _, _, _, _, _, _, _, _, _, rfl, HP4.out, fun e => by omega⟩
    · have hP : PrI w s0 (w.heap.size + 1) w1.heap.size S n a5 c5 xss ((w5.setCell ⟨w1.heap.size, 0, none⟩ (.int .i64 (S : Int))).setCell ⟨w1.heap.size, 1, none⟩ (.slice a5 n c5)) :=
        PrI.start HG.out HS0.out.symm HN.out hRz hB.size (World.block_lt_of_cell? w5 _ x50) x50 x51 y50 y51 (hb5.keep r0) (hb5.keep r1) (hb5.keepf hRz rf0) (hb5.keepf hRz rf1) (hB.next hb5) _ w5.heap.size o5 (Nat.le_refl _) (World.block_lt_of_cell? w4 _ x40)
      obtain ⟨wr, hwr⟩ : ∃ wr, wr = ((w5.setCell ⟨w1.heap.size, 0, none⟩ (.int .i64 (S : Int))).setCell ⟨w1.heap.size, 1, none⟩ (.slice a5 n c5)) := ⟨_, rfl⟩
      rw [← hwr] at hP ⊢
      clear hwr
      have hS1 : 1 ≤ S := by have := grB_iff hP.gr; omega
      obtain ⟨lo', hi', o1, o2, o3, o4⟩ := hP.own
      have hrd := o1.rd
      have c0 := hP.c0
      have c1 := hP.c1
      cases hl : leafN S xss with
      | none =>
        have HCT := Lib.hid (fun W' (h : RdR lo' hi' W' (.slice a5 n c5) xss) => leafOf S a5 n c5 xss W' h hP.len hP.gr)
        rw [hl, show ixI none = -1 from rfl] at HCT
        go_wp2
        go_step3
        go_wp2_with fail
        refine (HCT.out _ hrd).mono ?_
        rintro e w6 ⟨rfl, b6⟩
        have hP1 := hP.next b6
        clear b6 c0 c1 o1 hrd
        go_wp2
        go_step3
        exact ⟨.inr rfl, w1.heap.size, S, n, a5, c5, xss, _, _, _, _, _, _, _, _, _, _, _, _, _, _, _, _, _, _, _, rfl, hP1, fun _ => hl⟩
      | some v =>
        have HCT := Lib.hid (fun W' (h : RdR lo' hi' W' (.slice a5 n c5) xss) => leafOf S a5 n c5 xss W' h hP.len hP.gr)
        rw [hl, show ixI (some v) = (v : Int) from rfl] at HCT
        have HCW := Lib.hid (fun W' (h : RdR lo' hi' W' (.slice a5 n c5) xss) => withoutLeaf S v a5 n c5 xss W' h hP.len hP.gr)
        obtain ⟨hv1, hv2⟩ := leaf_get hl
        have hcg := cut_gr hP.gr hv1 hv2
        have hps := prune_some hS1 hl
        go_wp2
        go_step3
        go_wp2_with fail
        refine (HCT.out _ hrd).mono ?_
        rintro e w6 ⟨rfl, b6⟩
        have hP1 := hP.next b6
        have hrd1 := hrd.below b6
        replace c0 := hP1.c0
        replace c1 := hP1.c1
        clear b6 o1 hrd
        go_wp2_with fail
        refine (HCW.out _ hrd1).mono ?_
        rintro e w7 ⟨a3, c3, rfl, o7, b7⟩
        have hP3 := hP1.next b7
        replace c0 := hP3.c0
        replace c1 := hP3.c1
        have f0 := hP3.f0
        have f1 := hP3.f1
        have eS : ((S : Int) - 1) = ((S - 1 : Nat) : Int) := by omega
        have hP4 := hP3.cut (a3 := a3) (c3 := c3) (xs3 := cutV (v : Int) xss) (S3 := S - 1) hcg.2 (by rw [← hps]; exact hP3.pr) w6.heap.size w7.heap.size o7 (Nat.le_refl _) hP1.hXl
        have HP4 := Lib.hid hP4
        clear b7 hrd1 hP4
        go_wp2
        go_step3
        exact ⟨.inl rfl, w1.heap.size, S - 1, _, a3, c3, _, _, _, _, _, _, _, _, _, _, _, _, _, _, _, _, _, _, _, _, rfl, HP4.out, fun e => by omega⟩
  · rintro l act wr ⟨hl, X, S', n', a', c', xs', u3, u5, u6, u7, u8, u9, u10, u11, u12, u13, u14, u15, u16, u17, u18, u19, u20, u21, u22, rfl, hP, hleaf⟩
    rcases hl with rfl | rfl
    · refine ⟨_, rfl, ?_⟩
      clear hleaf
      have hS1 : 1 ≤ S' := by have := grB_iff hP.gr; omega
      have hS8 : S' ≤ 8 := by have := grB_iff hP.gr; omega
      obtain ⟨lo', hi', o1, o2, o3, o4⟩ := hP.own
      have hrd := o1.rd
      have c0 := hP.c0
      have c1 := hP.c1
      cases hl : leafN S' xs' with
      | none =>
        have HCT := Lib.hid (fun W' (h : RdR lo' hi' W' (.slice a' n' c') xs') => leafOf S' a' n' c' xs' W' h hP.len hP.gr)
        rw [hl, show ixI none = -1 from rfl] at HCT
        go_wp2_with fail
        refine (HCT.out _ hrd).mono ?_
        rintro e w1 ⟨rfl, b1⟩
        have hP1 := hP.next b1
        clear b1 c0 c1 o1 hrd
        go_wp2
        go_step3
        apply And.intro
        · exact ⟨.inr rfl, X, S', n', a', c', xs', _, _, _, _, _, _, _, _, _, _, _, _, _, _, _, _, _, _, _, rfl, hP1, fun _ => hl⟩
        · simp <;> omega
      | some v =>
        have HCT := Lib.hid (fun W' (h : RdR lo' hi' W' (.slice a' n' c') xs') => leafOf S' a' n' c' xs' W' h hP.len hP.gr)
        rw [hl, show ixI (some v) = (v : Int) from rfl] at HCT
        have HCW := Lib.hid (fun W' (h : RdR lo' hi' W' (.slice a' n' c') xs') => withoutLeaf S' v a' n' c' xs' W' h hP.len hP.gr)
        obtain ⟨hv1, hv2⟩ := leaf_get hl
        have hcg := cut_gr hP.gr hv1 hv2
        have hps := prune_some hS1 hl
        go_wp2_with fail
        refine (HCT.out _ hrd).mono ?_
        rintro e w1 ⟨rfl, b1⟩
        have hP1 := hP.next b1
        have hrd1 := hrd.below b1
        replace c0 := hP1.c0
        replace c1 := hP1.c1
        clear b1 o1 hrd
        go_wp2_with fail
        refine (HCW.out _ hrd1).mono ?_
        rintro e w3 ⟨a3, c3, rfl, o5, b3⟩
        have hP3 := hP1.next b3
        have hsz := b3.size
        replace c0 := hP3.c0
        replace c1 := hP3.c1
        have f0 := hP3.f0
        have f1 := hP3.f1
        have eS : ((S' : Int) - 1) = ((S' - 1 : Nat) : Int) := by omega
        have hP4 := hP3.cut (a3 := a3) (c3 := c3) (xs3 := cutV (v : Int) xs') (S3 := S' - 1) hcg.2 (by rw [← hps]; exact hP3.pr) w1.heap.size w3.heap.size o5 (Nat.le_refl _) hP1.hXl
        have hme : cI (wr.cell? ⟨X, 0, none⟩) = S' := by rw [hP.c0]; simp [cI]
        have hme2 := hP4.c0
        have HP4 := Lib.hid (⟨hP4, hme2, hme⟩ : _ ∧ _ ∧ _)
        clear b3 hrd1 hP4 hme hme2
        go_wp2
        go_step3
        apply And.intro
        · exact ⟨.inl rfl, X, S' - 1, _, a3, c3, _, _, _, _, _, _, _, _, _, _, _, _, _, _, _, _, _, _, _, _, rfl, HP4.out.1, fun e => by omega⟩
        · have q1 := HP4.out.2.1
          have q2 := HP4.out.2.2
          rw [if_neg (by omega), if_neg (by omega)]
          show 1 + cI (World.cell? _ ⟨X, 0, none⟩) < 1 + cI (wr.cell? ⟨X, 0, none⟩)
          rw [q2, q1]
          simp only [cI]
          omega
    · refine ⟨_, rfl, ?_⟩
      have hS1 : 1 ≤ S' := by have := grB_iff hP.gr; omega
      have hpn := prune_none hS1 (hleaf rfl)
      have hpr := hP.pr
      rw [hpn] at hpr
      subst hpr
      have c0 := hP.c0
      have c1 := hP.c1
      have r0 := hP.r0
      have r1 := hP.r1
      have rf0 := hP.rf0
      have rf1 := hP.rf1
      have hRX : ¬ w.heap.size + 1 = X := by have := hP.hX; omega
      have hRX' : ¬ X = w.heap.size + 1 := fun e => hRX e.symm
      obtain ⟨lo', hi', o1, o2, o3, o4⟩ := hP.own
      have hRl : w.heap.size + 1 < wr.heap.size := Nat.lt_trans hP.hX hP.hXl
      have HH := Lib.hid (⟨o1, hP.below, hP.len⟩ : _ ∧ _ ∧ _)
      have hlen := hP.len
      clear hP o1 hpn hleaf HS0
      go_wp2
      refine bodyPost_ret (v := .tuple #[.agg #[.int .i64 (S' : Int), .slice a' n' c'], .int .i64 0]) (by simp [results, Try.results46, go_sem, r0, r1]) rfl ⟨a', c', rfl, ?_, ?_⟩
      · have o1 := HH.out.1
        refine (OwR.chg (lo' := w.heap.size + 1) (hi' := w.heap.size + 1 + 1) o1 ?_ (.inr o2)).mono (by omega) (by simp only [World.setCell] <;> simp <;> omega)
        exact ((Chg.refl (w.heap.size + 1) (w.heap.size + 1 + 1) _).setCell (by constructor <;> simp) _).setCell (by constructor <;> simp) _
      · repeat (refine Below.setCell ?_ (by simp <;> omega) _)
        exact HH.out.2.1

theorem implPrune {lo hi : Nat} (s : Int) (a : Option Addr) (n c : Nat) (xss : List (List Int)) (w : World) (h : RdR lo hi w (.slice a n c) xss) (hn : xss.length = n) :
    Calls Try.prog 46 #[.agg #[.int .i64 s, .slice a n c]] w fun e w' => ∃ a' c', e = .returned (.tuple #[.agg #[.int .i64 (pruneOf s xss).1.1, .slice a' (pruneOf s xss).1.2.length c'], .int .i64 (pruneOf s xss).2]) ∧ OwR w.heap.size w'.heap.size w' (.slice a' (pruneOf s xss).1.2.length c') (pruneOf s xss).1.2 ∧ Below w.heap.size w w' := by
  unfold pruneOf
  cases hg : grB s xss with
  | false =>
    rw [if_neg (by simp)]
    exact (implPrune_no s a n c xss w h hn hg).mono fun e w' ⟨he, hb⟩ => ⟨none, 0, he, OwR.nil (World.ownsRow_nil _ _ _ _) (Nat.le_refl _), hb⟩
  | true =>
    rw [if_pos rfl]
    have h1 := grB_iff hg
    obtain ⟨S, rfl⟩ : ∃ S : Nat, s = S := ⟨s.toNat, by omega⟩
    exact implPrune_yes S a n c xss w h hn hg

end Go.Proofs.Ytecobmmlpoaggaa
