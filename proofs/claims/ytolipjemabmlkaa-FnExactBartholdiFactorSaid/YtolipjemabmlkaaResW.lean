/- The growth of a determinant modulo a prime, of the program. -/
import Derived.Test.YtolipjemabmlkaaResV
import Derived.Deep.AppendLies
set_option linter.unusedSimpArgs false
set_option linter.unusedVariables false
set_option maxRecDepth 100000
namespace Go.Proofs.Ytolipjemabmlkaa
open Go.RowKit

/-- the column r above the row r, k times multiplied -/
def colK (p : Int) (N : Nat) (f : Nat → Nat → Int) (r : Nat) : Nat → List Int
  | 0 => (colL p N f r).take r
  | k + 1 => mulL p N f (colK p N f r k) r
theorem colK_len {p : Int} {N : Nat} {f : Nat → Nat → Int} {r : Nat} (h : r ≤ N) : ∀ k, (colK p N f r k).length = r
  | 0 => by unfold colK; rw [List.length_take, colL_len]; omega
  | k + 1 => mulL_len _ _ _ _ _
theorem colK_in {p : Int} {N : Nat} {f : Nat → Nat → Int} {r : Nat} (hp : 2 ≤ p) (h : r ≤ N) : ∀ k j, j < r → 0 ≤ (colK p N f r k).getD j 0 ∧ (colK p N f r k).getD j 0 < p
  | 0, j, hj => by
    have e : (colK p N f r 0).getD j 0 = f j r % p := by
      unfold colK
      rw [← colL_get (p := p) (N := N) (f := f) (j := r) (show j < N by omega)]
      simp [List.getD, List.getElem?_take, hj]
    rw [e]
    exact ⟨Int.emod_nonneg _ (by omega), Int.emod_lt_of_pos _ (by omega)⟩
  | k + 1, j, hj => by
    have e : (colK p N f r (k + 1)).getD j 0 = _ := mulL_get hj
    rw [e]
    exact wsN_in hp _
/-- the numbers of the growth -/
def growK (p : Int) (N : Nat) (f : Nat → Nat → Int) (r : Nat) : Nat → List Int
  | 0 => [1, (-(f r r % p)) % p]
  | k + 1 => growK p N f r k ++ [(-(wsN p (colK p N f r k) (rowL p N f r) r)) % p]
theorem growK_len (p : Int) (N : Nat) (f : Nat → Nat → Int) (r : Nat) : ∀ k, (growK p N f r k).length = 2 + k
  | 0 => rfl
  | k + 1 => by rw [growK, List.length_append, growK_len p N f r k]; rfl

theorem fld0 (a b : Int) (w : World) : Sem.run Try.prog (Instr.field 106 (.agg #[.int .i64 a, .int .i64 b]) 0) w = .ok (.int .i64 a) w := by kernel_rfl

theorem RdP.grown {w w' : World} {o : Obj} {a : Option Addr} {es : List (Int × Int)} {vb : Option Nat} (h : RdP w a es) (hgr : (w.alloc o).grownBy w' vb) (hne : ∀ b off, a = some ⟨b, off, none⟩ → some b ≠ vb) : RdP w' a es := fun j hj => by
  obtain ⟨b, off, h1, h2, h3⟩ := h j hj
  have hA : Below w.heap.size w (w.alloc o) := (Below.refl _ _).alloc (Nat.le_refl _) _
  exact ⟨b, off, h1, hgr.cell (hA.keep h2) (hne b off h1), hgr.cell (hA.keep h3) (hne b off h1)⟩

set_option maxHeartbeats 3200000 in
theorem growM (p : Int) (N : Nat) (f : Nat → Nat → Int) (a : Option Addr) (c r : Nat) (w : World) (h : RdT w p N f a) (hc : N * N ≤ c) (hmx : c ≤ maxLen) (hN : N ≤ 20) (hr : r < N) (hp : 2 ≤ p ∧ p ≤ 10007) :
    Calls Try.prog 121 #[.int .i64 p, .agg #[.int .i64 (N : Int), .slice a (N * N) c], .int .i64 (r : Int)] w fun e w' => ∃ g cg, e = .returned (.slice (some ⟨g, 0, none⟩) (2 + r) cg) ∧ w'.ownsRow w.heap.size 106 2 (.slice (some ⟨g, 0, none⟩) (2 + r) cg) (2 + r) (flat (rp p (growK p N f r r))) ∧ Below w.heap.size w w' := by
  obtain ⟨i0, hi', z0, z1, z2⟩ := info_parts Try.info106
  have hb0 : ∀ o, Below w.heap.size w (w.alloc o) := fun o => (Below.refl _ _).alloc (Nat.le_refl _) o
  have HT := Lib.hid (fun W (hB : Below w.heap.size w W) => h.below hB)
  have HC := Lib.hid hc
  obtain ⟨M, hM⟩ : ∃ M, M = N * N := ⟨_, rfl⟩
  rw [← hM]
  have HM := Lib.hid hM
  clear hM hc h
  go_enter Try.func121, Try.ntmps121
  go_wp2_with fail
  refine calls_gen (fun W => Below w.heap.size w W ∧ w.heap.size < W.heap.size ∧ W.cell? ⟨w.heap.size, 0, none⟩ = some (.int .i64 (N : Int)) ∧ W.cell? ⟨w.heap.size, 1, none⟩ = some (.slice a M c)) ⟨hb0 _, by simp, by go_simp, by go_simp⟩ ?_
  rintro W ⟨hB, hz, k0, k1⟩
  have HR := Lib.hid (tRow p N f a c r W (HT.out W hB) HC.out hmx hN hr)
  rw [← HM.out] at HR
  refine HR.out.mono ?_
  rintro e w1 ⟨ar, rfl, hrow, b1, gt, ot, hat, har⟩
  have hgt : gt < w.heap.size := by
    obtain ⟨g9, e1, e2, _⟩ := HT.out w (Below.refl _ _) r r hr hr
    rw [hat] at e1
    have := World.block_lt_of_cell? w _ e2
    simp at e1 this
    omega
  subst har
  clear hat
  clear HR
  replace hB := hB.next b1
  replace k0 := b1.keep k0
  replace k1 := b1.keep k1
  have HRW := Lib.hid hrow
  clear hrow b1
  have HCC := Lib.hid (tCol p N f a c r w1 (HT.out w1 hB) HC.out hmx hN hr)
  rw [← HM.out] at HCC
  go_wp2_with fail
  refine HCC.out.mono ?_
  rintro e w2 ⟨gc, rfl, hcol, b2⟩
  clear HCC
  replace hB := hB.next b2
  replace k0 := b2.keep k0
  replace k1 := b2.keep k1
  have hrow2 := HRW.out.below b2
  have HRW2 := Lib.hid hrow2
  obtain ⟨rb, ro, hrb, r1, r2⟩ := hrow2 r (by rw [rp_len, rowL_len]; exact hr)
  obtain ⟨rfl, rfl⟩ : gt = rb ∧ ot = ro := by simp at hrb; exact hrb
  clear hrb
  rw [rp_get (by rw [rowL_len]; exact hr), rowL_get hr] at r1 r2
  have HCL : Hid (RdP w2 (some ⟨gc, 0, none⟩) (rp p (colK p N f r 0))) := Lib.hid (fun j hj => by
    rw [rp_len, colK_len (by omega)] at hj
    have hl : j < (rp p (colL p N f r)).length := by rw [rp_len, colL_len]; omega
    obtain ⟨g1, g2⟩ := flat_getE (rp p (colL p N f r)) j hl
    rw [rp_get (by rw [colL_len]; omega)] at g1 g2
    have e : (colK p N f r 0).getD j 0 = (colL p N f r).getD j 0 := by
      unfold colK
      simp [List.getD, List.getElem?_take, hj]
    refine ⟨gc, 0, rfl, ?_, ?_⟩
    · rw [rp_get (by rw [colK_len (by omega)]; exact hj), e, Nat.zero_add]; exact (World.ownsRow.cellAt hcol _ (by omega)).trans g1
    · rw [rp_get (by rw [colK_len (by omega)]; exact hj), Nat.zero_add]; exact (World.ownsRow.cellAt hcol _ (by omega)).trans g2)
  have HGC := Lib.hid (show gc < w2.heap.size from (World.ownsRow.lt hcol gc rfl).2)
  obtain ⟨x, hx⟩ : ∃ x, x = f r r % p := ⟨_, rfl⟩
  have hxb : 0 ≤ x ∧ x < p := by rw [hx]; exact ⟨Int.emod_nonneg _ (by omega), Int.emod_lt_of_pos _ (by omega)⟩
  rw [← hx] at r1
  have HX := Lib.hid hx
  obtain ⟨z, hz2⟩ : ∃ z, z = (-x) % p := ⟨_, rfl⟩
  have HZ := Lib.hid hz2
  have HRO := Lib.hid (fun W' => show Calls Try.prog 119 #[.int .i64 (-x), .int .i64 p] W' fun e w' => e = .returned (.agg #[.int .i64 z, .int .i64 p]) ∧ Below W'.heap.size W' w' by
    have := residueOf (-x) p W' (by omega) (by omega)
    rw [← hz2] at this
    exact this)
  have HR1 := Lib.hid (fun W' => resIn 1 p W' (by omega) hp)
  have n1 : IntKind.i64.wrap (-x) = -x := IntWalk.i64_in _ (by clear hx hz2; omega)
  have n2 : wrap64 (-x) = -x := IntWalk.wrap64_in _ (by clear hx hz2 n1; omega)
  have hrN : (r : Int) ≤ (N : Int) := by clear hx hz2 n1 n2; omega
  have hrN2 : (r : Int) < (N : Int) := by clear hx hz2 n1 n2; omega
  have hr0 : (0 : Int) ≤ (r : Int) := by clear hx hz2 n1 n2; omega
  have HB2 := Lib.hid (⟨hB, hz, k0, k1⟩ : _ ∧ _ ∧ _ ∧ _)
  have q1 := (Qt.refl w2).drew.below.keep r1
  clear hx hz2 hcol b2 hB k0 k1 r2
  go_wp2
  go_region_with (first
    | (go_at_call 119; with_reducible refine (HR1.out _).mono ?_; rintro e w3 ⟨rfl, b3⟩; have i1 := b3.keep q1)
    | (go_at_call 119; with_reducible refine (HRO.out _).mono ?_; rintro e w4 ⟨rfl, b4⟩))
  all_goals
    have b4' : Below w2.heap.size w2 w4 := (((Qt.refl w2).drew).below.next b3).next b4
    obtain ⟨hB, hz, k0, k1⟩ := HB2.out
    have hB4 := hB.next b4'
    have hl0 := World.ownsRow_lit (base := w4.heap.size) (e := 106) (size := 2) w4 #[.int .i64 1, .int .i64 p, .int .i64 z, .int .i64 p] 2 (Nat.le_refl _) (by unfold maxLen; omega) rfl
    have hA : Below w4.heap.size w4 (w4.alloc (.cells #[.int .i64 1, .int .i64 p, .int .i64 z, .int .i64 p] 106)) := (Below.refl _ _).alloc (Nat.le_refl _) _
    have hg0 : growK p N f r 0 = [1, z] := by unfold growK; rw [HZ.out, HX.out]
    have hl1 : (w4.alloc (.cells #[.int .i64 1, .int .i64 p, .int .i64 z, .int .i64 p] 106)).ownsRow w4.heap.size 106 2 (.slice (some ⟨w4.heap.size, 0, none⟩) 2 2) 2 (flat (rp p (growK p N f r 0))) := by rw [hg0]; exact hl0
    have HF := Lib.hid (⟨hl1, (HCL.out.below b4').below hA, (HRW2.out.below b4').below hA, hB4.next hA, hA.keep (b4'.keep k0), hA.keep (b4'.keep k1)⟩ : _ ∧ _ ∧ _ ∧ _ ∧ _ ∧ _)
    have HG4 := Lib.hid (show w.heap.size ≤ w4.heap.size from hB4.size)
    have HZ4 := Lib.hid (show w.heap.size < w4.heap.size from World.block_lt_of_cell? w4 _ (b4'.keep k0))
    have HSEP : Hid (∀ b off, some (⟨gc, 0, none⟩ : Addr) = some ⟨b, off, none⟩ → b ≠ w4.heap.size) := Lib.hid (fun b off e => by simp at e; have := HGC.out; have := b4'.size; omega)
    clear hl0 hl1 hA hB4 b4' b3 b4 hB hz k0 k1 q1 r1 n1 n2 hg0
    go_simp
    go_wp2
    generalize hV : w4.alloc (.cells #[.int .i64 1, .int .i64 p, .int .i64 z, .int .i64 p] 106) = V at HF ⊢
    generalize w4.heap.size = G at HF HG4 HZ4 HSEP ⊢
    clear hV
    obtain ⟨X, hXX⟩ : ∃ X, X = w.heap.size := ⟨_, rfl⟩
    rw [← hXX]
    have HXX := Lib.hid hXX
    clear hXX
    go_loopw [8, 9, 30] (fun col gr i wr => ∃ (k g cg cc : Nat) (ac : Option Addr), k ≤ r ∧ Hid (∀ b off, ac = some ⟨b, off, none⟩ → b ≠ g) ∧ i = .int .i64 k ∧ col = .slice ac r cc ∧ gr = .slice (some ⟨g, 0, none⟩) (2 + k) cg ∧ wr.ownsRow G 106 2 (.slice (some ⟨g, 0, none⟩) (2 + k) cg) (2 + k) (flat (rp p (growK p N f r k))) ∧
      RdP wr ac (rp p (colK p N f r k)) ∧ RdP wr (some ⟨gt, ot, none⟩) (rp p (rowL p N f r)) ∧ Below w.heap.size w wr ∧ wr.cell? ⟨X, 0, none⟩ = some (.int .i64 (N : Int)) ∧ wr.cell? ⟨X, 1, none⟩ = some (.slice a M c)) (fun _ _ i _ => r - (intOf i).toNat)
    case atStart => exact ⟨0, G, 2, N, some ⟨gc, 0, none⟩, Nat.zero_le _, HSEP, rfl, rfl, rfl, HF.out.1, HF.out.2.1, HF.out.2.2.1, HF.out.2.2.2.1, by rw [HXX.out]; exact HF.out.2.2.2.2.1, by rw [HXX.out]; exact HF.out.2.2.2.2.2⟩
    case round =>
      clear HF
      obtain ⟨k, g, cg, cc, ac, hk, HSP, rfl, rfl, rfl, hown, hcol, hrow, hB, k0, k1⟩ := hrel
      by_cases hlt : k < r
      · have HW := Lib.hid (wSum p (colK p N f r k) (rowL p N f r) ac r cc (some ⟨gt, ot, none⟩) N N wr hcol (colK_len (by omega) k) hrow (rowL_len p N f r) (by omega) (by omega) (colK_in hp.1 (by omega) k) (fun q hq => by rw [rowL_get hq]; exact ⟨Int.emod_nonneg _ (by omega), Int.emod_lt_of_pos _ (by omega)⟩) hp)
        have HO := Lib.hid (⟨hown, hcol, hrow, hB⟩ : _ ∧ _ ∧ _ ∧ _)
        have hsb := wsN_in (p := p) (xs := colK p N f r k) (ys := rowL p N f r) hp.1 r
        have hgst : growK p N f r (k + 1) = growK p N f r k ++ [(-(wsN p (colK p N f r k) (rowL p N f r) r)) % p] := rfl
        clear hown hcol hrow hB
        go_wp2_with fail
        refine HW.out.mono ?_
        rintro e w5 ⟨⟨px, rfl, hpx⟩, b5⟩
        generalize wsN p (colK p N f r k) (rowL p N f r) r = s0 at hsb hgst ⊢
        obtain ⟨z3, hz3⟩ : ∃ z3, z3 = (-s0) % p := ⟨_, rfl⟩
        rw [← hz3] at hgst
        have HGS := Lib.hid hgst
        have HR3 := Lib.hid (fun W' => show Calls Try.prog 119 #[.int .i64 (-s0), .int .i64 p] W' fun e w' => e = .returned (.agg #[.int .i64 z3, .int .i64 p]) ∧ Below W'.heap.size W' w' by
          have := residueOf (-s0) p W' (by omega) (by omega)
          rw [← hz3] at this
          exact this)
        have n1 : IntKind.i64.wrap (-s0) = -s0 := IntWalk.i64_in _ (by clear hz3; omega)
        have n2 : wrap64 (-s0) = -s0 := IntWalk.wrap64_in _ (by clear hz3 n1; omega)
        have B5 := Lib.hid b5
        clear hz3 hgst hpx HW b5
        have hfl := fld0 s0 px w5
        go_wp2_with fail
        refine (HR3.out _).mono ?_
        rintro e w6 ⟨rfl, b6⟩
        have bb : Below wr.heap.size wr w6 := B5.out.next b6
        have hown6 := ownsRow_chg HO.out.1 (bb.chg 0 0) (fun _ _ => .inr (Nat.zero_le _))
        have hown7 := hown6.alloc (.cells #[.int .i64 z3, .int .i64 p] 106)
        have hnews := news_pair w6 106 (.int .i64 z3) (.int .i64 p)
        have hGw6 : G ≤ w6.heap.size := by have := (hown6.lt g rfl); omega
        have HBB := Lib.hid (⟨bb, hown6, hGw6⟩ : _ ∧ _ ∧ _)
        clear bb b6 hown6 B5 HR3 n1 n2
        go_wp2_with (first | (at_builtin; refine wpList_append_lies _ rfl _ _ 108 rfl G 106 i0 (.agg #[.int .i64 0, .int .i64 0]) 2 16 Try.underlying108 hi' z0 z1 z2 rfl (by decide) _ _ _ rfl hown7 ⟨w6.heap.size, 0, none⟩ 1 1 [.int .i64 z3, .int .i64 p] rfl rfl ?d1 ?d2 (by decide) ?d3 ?d4 ?d5 _ rfl ?_) | fail)
        case d1 => exact hnews
        case d2 => intro u hu; simp at hu; rcases hu with rfl | rfl <;> rfl
        case d3 => unfold maxLen; omega
        case d4 => omega
        case d5 => simp; omega
        intro g7 c7 w7 hown3 hgr hlie hlt3
        have hown8 : w7.ownsRow G 106 2 (.slice (some ⟨g7, 0, none⟩) (2 + (k + 1)) c7) (2 + (k + 1)) (flat (rp p (growK p N f r (k + 1)))) := by
          rw [HGS.out, rp_snoc]; exact hown3
        obtain ⟨bb, hown6, hGw6⟩ := HBB.out
        obtain ⟨_, hcol, hrow, hB⟩ := HO.out
        have hgG := hown6.lt g rfl
        obtain ⟨hB7, hz7, hcl7, hch7⟩ := grown_own (hB.next bb) hown6 HG4.out hgr
        have hcol7 := (hcol.below bb).grown hgr (fun b off e h9 => HSP.out b off e (by simpa [Value.ownBlock] using h9))
        have hrow7 := (hrow.below bb).grown hgr (fun b off e h9 => by
          have h8 : b = g := by simpa [Value.ownBlock] using h9
          have h7 : gt = b := by simp at e; exact e.1
          have := HG4.out
          omega)
        have m0 := hcl7 _ _ (show X < G by rw [HXX.out]; exact HZ4.out) (bb.keep k0)
        have m1 := hcl7 _ _ (show X < G by rw [HXX.out]; exact HZ4.out) (bb.keep k1)
        have HTI := Lib.hid (tTimes p N f a c ac r cc (colK p N f r k) w7 (HT.out w7 hB7) HC.out hmx hN hcol7 (colK_len (by omega) k) (by omega) (colK_in hp.1 (by omega) k) hp)
        rw [← HM.out] at HTI
        have H7 := Lib.hid (⟨hown8, hrow7, hB7, m0, m1⟩ : _ ∧ _ ∧ _ ∧ _ ∧ _)
        clear hown3 hgr hlie hown8 bb hown6 hcol hrow hB hgG hB7 hcl7 hch7 hcol7 hrow7 HO HBB k0 k1 hown7 hnews
        go_wp2_with fail
        refine HTI.out.mono ?_
        rintro e w8 ⟨gq, rfl, hq, b8⟩
        have hq' := hq
        have hqlt := World.ownsRow.lt hq gq rfl
        have HN : Hid (w8.ownsRow G 106 2 (.slice (some ⟨g7, 0, none⟩) (2 + (k + 1)) c7) (2 + (k + 1)) (flat (rp p (growK p N f r (k + 1)))) ∧ RdP w8 (some ⟨gq, 0, none⟩) (rp p (colK p N f r (k + 1))) ∧ RdP w8 (some ⟨gt, ot, none⟩) (rp p (rowL p N f r)) ∧ Below w.heap.size w w8 ∧ w8.cell? ⟨X, 0, none⟩ = some (.int .i64 (N : Int)) ∧ w8.cell? ⟨X, 1, none⟩ = some (.slice a M c)) := Lib.hid (by
          obtain ⟨p1, p2, p3, p4, p5⟩ := H7.out
          refine ⟨ownsRow_chg p1 (b8.chg 0 0) (fun _ _ => .inr (Nat.zero_le _)), fun j hj => ?_, p2.below b8, p3.next b8, b8.keep p4, b8.keep p5⟩
          rw [rp_len, colK_len (by omega)] at hj
          have hl : j < (rp p (mulL p N f (colK p N f r k) r)).length := by rw [rp_len, mulL_len]; exact hj
          obtain ⟨g1, g2⟩ := flat_getE (rp p (mulL p N f (colK p N f r k) r)) j hl
          refine ⟨gq, 0, rfl, ?_, ?_⟩
          · rw [Nat.zero_add]; exact (World.ownsRow.cellAt hq' _ (by omega)).trans g1
          · rw [Nat.zero_add]; exact (World.ownsRow.cellAt hq' _ (by omega)).trans g2)
        have HSN : Hid (∀ b off, some (⟨gq, 0, none⟩ : Addr) = some ⟨b, off, none⟩ → b ≠ g7) := Lib.hid (fun b off e => by simp at e; omega)
        clear hq hq' b8 HTI
        go_wp2
        go_roundw
        case rel => exact ⟨k+1, g7, c7, r, some ⟨gq, 0, none⟩, by omega, HSN, by go_num, rfl, by simp [Nat.add_assoc], HN.out⟩
        case measure => simp [intOf]; omega
      · obtain rfl : k = r := by omega
        have HF2 := Lib.hid (⟨ownsRow_mono hown HG4.out, hB⟩ : _ ∧ _)
        clear hown hB hcol hrow
        go_wp2
        go_ret
        exact ⟨g, cg, rfl, HF2.out⟩

end Go.Proofs.Ytolipjemabmlkaa
