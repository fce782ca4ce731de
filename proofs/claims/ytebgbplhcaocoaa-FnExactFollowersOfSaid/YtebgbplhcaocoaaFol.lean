/- FollowersOf, both sides. -/
import Derived.Test.YtebgbplhcaocoaaEdgeRows
import Derived.Test.YtebgbplhcaocoaaCoreF
import Derived.Test.YtebgbplhcaocoaaCoreC
set_option linter.unusedSimpArgs false
set_option linter.unusedVariables false
set_option maxRecDepth 100000
namespace Go.Proofs.Ytebgbplhcaocoaa
open Go.RowKit

def flN (ds : List (Int × Int)) (e : Nat) : Nat → List Int
  | 0 => []
  | j + 1 => if stepQ ds (e : Int) (j : Int) = true then flN ds e j ++ [(j : Int)] else flN ds e j
theorem flN_yes {ds : List (Int × Int)} {e j : Nat} (h : stepQ ds (e : Int) (j : Int) = true) : flN ds e (j + 1) = flN ds e j ++ [(j : Int)] := by
  show (if stepQ ds (e : Int) (j : Int) = true then _ else _) = _
  rw [if_pos h]
theorem flN_no {ds : List (Int × Int)} {e j : Nat} (h : stepQ ds (e : Int) (j : Int) = false) : flN ds e (j + 1) = flN ds e j := by
  show (if stepQ ds (e : Int) (j : Int) = true then _ else _) = _
  rw [h]; rfl
theorem flN_len (ds : List (Int × Int)) (e : Nat) : ∀ j, (flN ds e j).length ≤ j
  | 0 => Nat.le_refl _
  | j + 1 => by
    have := flN_len ds e j
    unfold flN
    split
    · simp; omega
    · omega
theorem flN_I64 (ds : List (Int × Int)) (e : Nat) : ∀ j, j ≤ 1000 → ∀ x ∈ flN ds e j, I64 x
  | 0, _, x, h => by simp [flN] at h
  | j + 1, hj, x, h => by
    have ih := flN_I64 ds e j (by omega)
    unfold flN at h
    split at h
    · rcases List.mem_append.mp h with h | h
      · exact ih x h
      · simp at h; subst h; unfold I64; omega
    · exact ih x h
def flv (ds : List (Int × Int)) (e j : Nat) : List Value := (flN ds e j).map (Value.int .i64)
theorem flv_yes {ds : List (Int × Int)} {e j : Nat} (h : stepQ ds (e : Int) (j : Int) = true) : flv ds e (j + 1) = flv ds e j ++ [.int .i64 (j : Int)] := by unfold flv; rw [flN_yes h]; simp
theorem flv_no {ds : List (Int × Int)} {e j : Nat} (h : stepQ ds (e : Int) (j : Int) = false) : flv ds e (j + 1) = flv ds e j := by unfold flv; rw [flN_no h]
def folOf (s : Int) (xss : List (List Int)) (e : Int) : List Int × Int := if grB s xss = true then (if 0 ≤ e ∧ e < 2 * (xss.length : Int) then (flN (dirE (pairs xss)) e.toNat (2 * xss.length), 0) else ([], 2)) else ([], 1)
theorem folOf_no {s : Int} {xss : List (List Int)} (e : Int) (h : grB s xss = false) : folOf s xss e = ([], 1) := by unfold folOf; rw [h]; rfl
theorem folOf_out {s : Int} {xss : List (List Int)} {e : Int} (h : grB s xss = true) (h2 : ¬ (0 ≤ e ∧ e < 2 * (xss.length : Int))) : folOf s xss e = ([], 2) := by unfold folOf; rw [if_pos h, if_neg h2]
theorem folOf_yes {s : Int} {xss : List (List Int)} {e : Nat} (h : grB s xss = true) (h2 : (e : Int) < 2 * (xss.length : Int)) : folOf s xss (e : Int) = (flN (dirE (pairs xss)) e (2 * xss.length), 0) := by unfold folOf; rw [if_pos h, if_pos ⟨by omega, h2⟩, Int.toNat_natCast]

/-- the headers of rows under way -/
def updH (hs : Nat → Value) (k : Nat) (v : Value) : Nat → Value := fun j => if j = k then v else hs j
theorem updH_set (hs : Nat → Value) {k N : Nat} (v : Value) (hk : k < N) : ((List.range N).map hs).set k v = (List.range N).map (updH hs k v) := by
  apply List.ext_getElem
  · simp
  · intro j h1 h2
    rw [List.getElem_set]
    by_cases e : k = j
    · subst e; simp [updH]
    · rw [if_neg e]
      have : ¬ j = k := fun h => e h.symm
      simp [updH, this]
theorem hs_get (hs : Nat → Value) {N j : Nat} (h : j < N) : ((List.range N).map hs)[j]? = some (hs j) := by simp [h]
theorem made_nil (N : Nat) : (madeCells #[Value.slice none 0 0] N).toList = (List.range N).map (fun _ => Value.slice none 0 0) := by
  rw [toList_madeCells_one]
  apply List.ext_getElem
  · simp
  · intro j h1 h2
    simp
def FlR (ds : List (Int × Int)) (N F hi k : Nat) (hs : Nat → Value) (w : World) : Prop := ∀ j, j < k → OwI (F + 1) hi w (hs j) (flN ds j N)
def FlN (N k : Nat) (hs : Nat → Value) : Prop := ∀ j, k ≤ j → j < N → hs j = .slice none 0 0
theorem FlR.chg {ds : List (Int × Int)} {N F hi k lo' hi' : Nat} {hs : Nat → Value} {w w' : World} (h : FlR ds N F hi k hs w) (hc : Chg lo' hi' w w') (ho : hi ≤ lo' ∨ hi' ≤ F + 1) : FlR ds N F hi k hs w' := fun j hj => (h j hj).chg hc ho
theorem FlR.upd {ds : List (Int × Int)} {N F hi k : Nat} {hs : Nat → Value} {v : Value} {w : World} (h : FlR ds N F hi k hs w) : FlR ds N F hi k (updH hs k v) w := fun j hj => by
  have e : updH hs k v j = hs j := if_neg (by omega)
  rw [e]; exact h j hj
theorem FlN.upd {N k : Nat} {hs : Nat → Value} {v : Value} (h : FlN N (k + 1) hs) : FlN N (k + 1) (updH hs k v) := fun j h1 h2 => by
  have e : updH hs k v j = hs j := if_neg (by omega)
  rw [e]; exact h j h1 h2

theorem own_shape {w : World} {base e size n : Nat} {v : Value} {xs : List Value} (h : w.ownsRow base e size v n xs) : ∃ a c, v = .slice a n c := by
  rcases h.2 with ⟨rfl, h1⟩ | ⟨g, cap, cur, rfl, _⟩
  · exact ⟨none, 0, by rw [h1]⟩
  · exact ⟨_, _, rfl⟩

set_option maxHeartbeats 6400000 in
theorem followersIn {lo hi : Nat} (s : Int) (a : Option Addr) (n c : Nat) (xss : List (List Int)) (w : World) (h : RdR lo hi w (.slice a n c) xss) (hn : xss.length = n) (hg : grB s xss = true) :
    Calls Try.prog 68 #[.agg #[.int .i64 s, .slice a n c]] w fun e w' => ∃ (F : Nat) (hs : Nat → Value), e = .returned (.slice (some ⟨F, 0, none⟩) (2 * n) (2 * n)) ∧ (∀ j, j < 2 * n → w'.cell? ⟨F, j, none⟩ = some (hs j) ∧ OwI w.heap.size w'.heap.size w' (hs j) (flN (dirE (pairs xss)) j (2 * n))) ∧ Below w.heap.size w w' := by
  obtain ⟨i0, hi', z0, z1, z2⟩ := info_parts Try.info2
  obtain ⟨j0, hj', y0, y1, y2⟩ := info_parts Try.info37
  have hb0 : ∀ o, Below w.heap.size w (w.alloc o) := fun o => (Below.refl _ _).alloc (Nat.le_refl _) o
  have hn10 : n ≤ 10 := by have := grB_iff hg; omega
  have HE := Lib.hid (fun W (hB : Below w.heap.size w W) => edgeRows s a n c xss W (h.below hB) hn hg)
  obtain ⟨ds, hds⟩ : ∃ ds, ds = dirE (pairs xss) := ⟨_, rfl⟩
  obtain ⟨N, hN⟩ : ∃ N, N = 2 * n := ⟨_, rfl⟩
  rw [← hds, ← hN] at HE
  rw [← hds, ← hN]
  have hN20 : N ≤ 20 := by omega
  clear h hn hds hN
  go_enter Try.func68, Try.ntmps68
  go_wp2_with fail
  refine calls_gen (fun W => Below w.heap.size w W) (hb0 _) ?_
  rintro W hB
  refine (HE.out W hB).mono ?_
  rintro e w1 ⟨a', c', rfl, o1, b1⟩
  have HB1 := Lib.hid (hB.next b1)
  have HO1 := Lib.hid (show RdR W.heap.size w1.heap.size w1 (.slice a' N c') (tab N (edgeM ds)) from o1.rd)
  clear hB o1 b1 HE hb0
  go_wp2_with (at_make; refine wpList_make_full _ rfl _ _ 22 rfl w1.heap.size 37 j0 (.slice none 0 0) 1 Try.underlying22 hj' y0 y1 _ _ _ _ N rfl rfl rfl rfl ?c1 ?c2 ?c3 ?_)
  case c1 => rw [y2]; omega
  case c2 => unfold maxLen; omega
  case c3 => exact Nat.le_refl _
  intro w2 hown hgr
  have hb2 : Below w1.heap.size w1 w2 := (Below.refl _ _).grown hgr (Nat.le_refl _) (fun j hj => by cases hj)
  have hsz2 : w1.heap.size < w2.heap.size := (hown.lt w1.heap.size rfl).2
  rw [made_nil N] at hown
  obtain ⟨F, hF⟩ : ∃ F, F = w1.heap.size := ⟨_, rfl⟩
  have HFE := Lib.hid hF
  rw [← hF] at hown hsz2 ⊢
  have HI0 := Lib.hid (⟨hown, fun j hj => by omega, fun j _ _ => rfl, HB1.out.next hb2, by rw [hF]; exact hb2, hsz2⟩ : w2.ownsRow F 37 1 (.slice (some ⟨F, 0, none⟩) N N) N ((List.range N).map (fun _ => Value.slice none 0 0)) ∧ FlR ds N F w2.heap.size 0 (fun _ => Value.slice none 0 0) w2 ∧ FlN N 0 (fun _ => Value.slice none 0 0) ∧ Below w.heap.size w w2 ∧ Below F w1 w2 ∧ F < w2.heap.size)
  have HWF := Lib.hid (show w.heap.size ≤ F by rw [hF]; exact HB1.out.size)
  clear hown hgr hb2 hsz2 HB1 hF
  go_wp2
  go_loopw [16] (fun v wr => ∃ (k : Nat) (hs : Nat → Value), k ≤ N ∧ v = .int .i64 k ∧ wr.ownsRow F 37 1 (.slice (some ⟨F, 0, none⟩) N N) N ((List.range N).map hs) ∧ FlR ds N F wr.heap.size k hs wr ∧ FlN N k hs ∧ Below w.heap.size w wr ∧ Below F w1 wr ∧ F < wr.heap.size) (fun v _ => N - (intOf v).toNat)
  case atStart => exact ⟨0, _, Nat.zero_le _, rfl, HI0.out⟩
  case round =>
    clear HI0
    obtain ⟨k, hs, hk, rfl, hO, hR, hN, hB, hBF, hFz⟩ := hrel
    obtain ⟨U, rfl⟩ : ∃ U, U = wr := ⟨_, rfl⟩
    by_cases hlt : k < N
    · have hkN : (k : Int) < (N : Int) := by omega
      obtain ⟨b, off, rv, rfl, e2, e3⟩ := HO1.out.at (tab_len _ _) k hlt
      obtain ⟨ra, rc, rfl⟩ := e3.shape
      rw [tab_rlen _ hlt] at e2 e3
      have g2 : U.cell? ⟨b, off + k, none⟩ = some (.slice ra N rc) := by
        have hb := World.block_lt_of_cell? w1 _ e2
        exact (hBF.cell (by rw [HFE.out]; exact hb)).trans e2
      have hUN : U.ownsRow U.heap.size 2 1 (hs k) 0 (flv ds k 0) := by rw [hN k (Nat.le_refl _) hlt]; exact World.ownsRow_nil _ _ _ _
      have HR := Lib.hid (fun W (hB : Below F w1 W) j (hj : j < N) => show ∃ b2 off2, ra = some ⟨b2, off2, none⟩ ∧ W.cell? ⟨b2, off2 + j, none⟩ = some (.int .i64 (edgeM ds k j)) by
        obtain ⟨b2, off2, r1, r2⟩ := e3.at (tab_rlen _ hlt) j hj
        have hb := World.block_lt_of_cell? w1 _ r2
        rw [tab_get _ hlt hj] at r2
        exact ⟨b2, off2, r1, (hB.cell (by rw [HFE.out]; exact hb)).trans r2⟩)
      obtain ⟨Z, hZ⟩ : ∃ Z, Z = U.heap.size := ⟨_, rfl⟩
      rw [← hZ] at hUN hR hFz
      have HS0 := Lib.hid (⟨hO, hR, fun j h1 h2 => hN j (by omega) h2, hUN, hB, hBF, by rw [hZ]; exact Nat.le_refl _⟩ : _ ∧ _ ∧ FlN N (k + 1) hs ∧ _ ∧ _ ∧ _ ∧ Z ≤ U.heap.size)
      clear e2 e3 hUN hB hBF hO hR hN hZ
      go_wp2
      clear g2
      go_loopw [23] (fun v wr => ∃ (m q : Nat) (hs : Nat → Value), m ≤ N ∧ v = .int .i64 m ∧ q ≤ m ∧ wr.ownsRow F 37 1 (.slice (some ⟨F, 0, none⟩) N N) N ((List.range N).map hs) ∧ FlR ds N F Z k hs wr ∧ FlN N (k + 1) hs ∧ wr.ownsRow Z 2 1 (hs k) q (flv ds k m) ∧ Below w.heap.size w wr ∧ Below F w1 wr ∧ Z ≤ wr.heap.size) (fun v _ => N - (intOf v).toNat)
      case atStart => exact ⟨0, 0, hs, Nat.zero_le _, rfl, Nat.le_refl _, HS0.out⟩
      case round =>
        rename_i hrel
        clear HS0
        obtain ⟨m, q, hs, hm, rfl, hq, hO, hR, hN, hC, hB, hBF, hZz⟩ := hrel
        by_cases hlm : m < N
        · have hmN : (m : Int) < (N : Int) := by omega
          obtain ⟨b2, off2, rfl, r2⟩ := HR.out wr hBF m hlm
          have hem : edgeM ds k m = if stepQ ds (k : Int) (m : Int) = true then 1 else 0 := rfl
          cases hst : stepQ ds (k : Int) (m : Int) with
          | false =>
            rw [hst, if_neg (by simp)] at hem
            rw [hem] at r2
            rw [← flv_no hst] at hC
            have HF := Lib.hid (⟨hO, hR, hN, hC, hB, hBF, hZz⟩ : _ ∧ _ ∧ _ ∧ _ ∧ _ ∧ _ ∧ _)
            clear hO hR hN hC hB hBF hZz hem hst
            go_wp2
            go_roundw
            case rel => exact ⟨m+1, q, hs, by omega, by go_num, by omega, HF.out⟩
            case measure => simp [intOf]; omega
          | true =>
            rw [hst, if_pos rfl] at hem
            rw [hem] at r2
            have e0 := (hO.cellAt k (by omega)).trans (hs_get hs hlt)
            have e4 := hO.frozenAt k
            have hFL := hO.lt F rfl
            have HV := Lib.hid (⟨hO, hR, hN, hB, hBF, hZz, flv_yes hst⟩ : _ ∧ _ ∧ _ ∧ _ ∧ _ ∧ _ ∧ _)
            obtain ⟨ca, cc, hcur⟩ := own_shape hC
            rw [hcur] at e0 hC
            have hCl := hC.lt
            have HCU := Lib.hid hcur
            clear hO hR hN hB hBF hem hst hcur
            go_wp2_with (at_builtin; refine wpList_append_own _ rfl _ _ 37 rfl Z 2 i0 (.int .i64 0) 1 8 Try.underlying37 hi' z0 z1 z2 rfl (by decide) _ _ _ rfl (hC.alloc _) ⟨wr.heap.size, 0, none⟩ 1 1 [.int .i64 (m : Int)] rfl rfl ?d1 ?d2 ?d3 ?d4 ?d5 ?_)
            case d1 => exact news_one _ _ _
            case d2 => first | (intro u hu; simp at hu; subst hu; rfl) | rfl | simp
            case d3 => unfold maxLen; omega
            case d4 => omega
            case d5 => simp; omega
            intro v3 w3 hown3 hgr _
            obtain ⟨a3, c3, rfl⟩ := own_shape hown3
            obtain ⟨hO, hR, hN, hB, hBF, hZz, hfl⟩ := HV.out
            have hbA := (Below.refl wr.heap.size wr).alloc (Nat.le_refl _) (.cells #[.int .i64 (m : Int)] 2)
            have hch : Chg Z wr.heap.size wr w3 := (hbA.chg _ _).trans (Chg.grown hgr (fun j hj => hCl j hj))
            have hbs := hbA.size
            have hgs := hgr.size
            have hO3 := ownsRow_chg hO hch (fun j hj => by cases hj; exact .inl hFz)
            have e0' := (hO3.cellAt k (by omega)).trans (hs_get hs hlt)
            rw [HCU.out] at e0'
            have e4' := hO3.frozenAt k
            have hst := (hO3.stored k (.slice a3 (q + 1) c3)).1
            rw [updH_set hs (.slice a3 (q + 1) c3) hlt] at hst
            have hcs : Chg F (F + 1) w3 (w3.setCell ⟨F, k, none⟩ (.slice a3 (q + 1) c3)) := (Chg.refl F (F + 1) w3).setCell (p := ⟨F, k, none⟩) ⟨Nat.le_refl _, Nat.lt_succ_self _⟩ _
            have hR3 := ((hR.chg hch (.inl (Nat.le_refl _))).chg hcs (.inr (Nat.le_refl _))).upd (v := (.slice a3 (q + 1) c3))
            have hC3 : (w3.setCell ⟨F, k, none⟩ (.slice a3 (q + 1) c3)).ownsRow Z 2 1 (updH hs k (.slice a3 (q + 1) c3) k) (q + 1) (flv ds k (m + 1)) := by
              rw [show updH hs k (.slice a3 (q + 1) c3) k = (.slice a3 (q + 1) c3) from if_pos rfl, hfl]
              exact ownsRow_chg hown3 hcs (fun j hj => .inr (by have := (hown3.lt j hj).1; omega))
            have hB3 : Below w.heap.size w (w3.setCell ⟨F, k, none⟩ (.slice a3 (q + 1) c3)) := ((hB.alloc hB.size _).grown hgr (by have := hB.size; omega) (fun j hj => by have := (hCl j hj).1; have := HWF.out; omega)).setCell (p := ⟨F, k, none⟩) HWF.out _
            have hBF3 : Below F w1 (w3.setCell ⟨F, k, none⟩ (.slice a3 (q + 1) c3)) := ((hBF.alloc (by omega) _).grown hgr (by omega) (fun j hj => by have := (hCl j hj).1; omega)).setCell (p := ⟨F, k, none⟩) (Nat.le_refl _) _
            have HF := Lib.hid (⟨hst, hR3, hN.upd (v := (.slice a3 (q + 1) c3)), hC3, hB3, hBF3, by rw [World.size_setCell]; omega⟩ : _ ∧ _ ∧ _ ∧ _ ∧ _ ∧ _ ∧ Z ≤ (w3.setCell ⟨F, k, none⟩ (.slice a3 (q + 1) c3)).heap.size)
            clear hO hR hN hB hBF hbA hch hbs hgs hO3 hst hcs hR3 hC3 hB3 hBF3 hown3 hgr hCl hC hFL hfl e0 e4
            go_wp2
            go_roundw
            case rel => exact ⟨m+1, q+1, _, by omega, by go_num, by omega, HF.out⟩
            case measure => simp [intOf]; omega
        · obtain rfl : m = N := by omega
          have hO1 : OwI Z wr.heap.size wr (hs k) (flN ds k m) := OwI.mk hC (by omega) (flN_I64 ds k m (by omega))
          have HF := Lib.hid (⟨hO, fun j hj => by
            by_cases e : j = k
            · subst e; exact hO1.mono (by omega) (Nat.le_refl _)
            · exact (hR j (by omega)).mono (Nat.le_refl _) hZz, hN, hB, hBF, by omega⟩ : _ ∧ FlR ds m F wr.heap.size (k + 1) hs wr ∧ _ ∧ _ ∧ _ ∧ F < wr.heap.size)
          clear hO hR hN hC hB hBF hO1
          go_wp2
          go_roundw
          case rel => exact ⟨k+1, hs, by omega, by go_num, HF.out⟩
          case measure => simp [intOf]; omega
    · obtain rfl : k = N := by omega
      have HF := Lib.hid (show (∀ j, j < k → U.cell? ⟨F, j, none⟩ = some (hs j) ∧ OwI w.heap.size U.heap.size U (hs j) (flN ds j k)) ∧ Below w.heap.size w U from ⟨fun j hj => ⟨(hO.cellAt j (by omega)).trans (hs_get hs hj), (hR j hj).mono (by have := HWF.out; omega) (Nat.le_refl _)⟩, hB⟩)
      clear hO hR hN hB hBF
      go_wp2
      go_ret
      exact ⟨F, hs, rfl, HF.out⟩

theorem stepN_dec (e N : Int) : (decide (0 ≤ e) && decide (e ≤ N - 1)) = decide (0 ≤ e ∧ e < N) := by
  by_cases h : 0 ≤ e ∧ e < N
  · rw [decide_eq_true h, decide_eq_true h.1, decide_eq_true (by omega)]; rfl
  · rw [decide_eq_false h]
    by_cases h1 : 0 ≤ e
    · rw [decide_eq_false (p := e ≤ N - 1) (by omega), Bool.and_false]
    · rw [decide_eq_false h1, Bool.false_and]

set_option maxHeartbeats 3200000 in
theorem specFol {lo hi : Nat} (s : Int) (a : Option Addr) (n c : Nat) (xss : List (List Int)) (e0 : Int) (w : World) (h : RdR lo hi w (.slice a n c) xss) (hn : xss.length = n) :
    Calls Try.prog 28 #[.agg #[.int .i64 s, .slice a n c], .int .i64 e0] w fun e w' => ∃ a' c', e = .returned (.tuple #[.slice a' (folOf s xss e0).1.length c', .int .i64 (folOf s xss e0).2]) ∧ OwI w.heap.size w'.heap.size w' (.slice a' (folOf s xss e0).1.length c') (folOf s xss e0).1 ∧ Below w.heap.size w w' := by
  obtain ⟨i0, hi', z0, z1, z2⟩ := info_parts Try.info2
  have hb0 : ∀ o, Below w.heap.size w (w.alloc o) := fun o => (Below.refl _ _).alloc (Nat.le_refl _) o
  have HI := Lib.hid (fun W (hB : Below w.heap.size w W) => l01Is s a n c xss W (h.below hB) hn)
  cases hg : grB s xss with
  | true =>
    rw [hg] at HI
    have hn10 : n ≤ 10 := by have := grB_iff hg; omega
    have HNX := Lib.hid (fun W (hB : Below w.heap.size w W) x y i0 i1 j0 j1 => l03Next s a n c xss W (h.below hB) hn hg x y i0 i1 j0 j1)
    obtain ⟨N, hN⟩ : ∃ N, N = 2 * n := ⟨_, rfl⟩
    have hN20 : N ≤ 20 := by omega
    have hm2 : IntKind.i64.wrap (2 * (n : Int)) = (N : Int) := by rw [hN]; rw [IntWalk.i64_in _ (by omega)]; omega
    have hm2' : wrap64 (2 * (n : Int)) = (N : Int) := by rw [hN]; rw [IntWalk.wrap64_in _ (by omega)]; omega
    have hm3 : 2 * (n : Int) = (N : Int) := by omega
    have hm4 : IntKind.i64.wrap ((N : Int) - 1) = (N : Int) - 1 := IntWalk.i64_in _ (by omega)
    have hm5 : wrap64 ((N : Int) - 1) = (N : Int) - 1 := IntWalk.wrap64_in _ (by omega)
    by_cases hin : 0 ≤ e0 ∧ e0 < 2 * (xss.length : Int)
    · obtain ⟨E, rfl⟩ : ∃ E : Nat, e0 = (E : Int) := ⟨e0.toNat, by omega⟩
      rw [folOf_yes hg hin.2, hn, ← hN]
      have hEN : (E : Int) < (N : Int) := by rw [hn] at hin; omega
      have HL := Lib.hid (fun W => l01In (E : Int) 0 ((N : Int) - 1) W)
      rw [decide_eq_true (show (0 : Int) ≤ (E : Int) by omega), decide_eq_true (show (E : Int) ≤ (N : Int) - 1 by omega)] at HL
      obtain ⟨ds, hds⟩ : ∃ ds, ds = dirE (pairs xss) := ⟨_, rfl⟩
      rw [← hds, hm3] at HNX
      rw [← hds]
      clear h hn hg hds hN hin hm3 hn10
      go_enter Try.func28, Try.ntmps28
      go_wp2_with fail
      refine calls_gen (fun W => Below w.heap.size w W ∧ w.heap.size < W.heap.size ∧ W.cell? ⟨w.heap.size, 0, none⟩ = some (.int .i64 s) ∧ W.cell? ⟨w.heap.size, 1, none⟩ = some (.slice a n c)) ⟨hb0 _, by simp, by go_simp, by go_simp⟩ ?_
      rintro W ⟨hB, hz, k0, k1⟩
      refine (HI.out W hB).mono ?_
      rintro e w1 ⟨rfl, b1⟩
      replace hB := hB.next b1
      replace k0 := b1.keep k0
      replace k1 := b1.keep k1
      have hz1 := Nat.lt_of_lt_of_le hz b1.size
      clear b1 HI hz
      go_wp2_with fail
      refine (HL.out w1).mono ?_
      rintro e w2 ⟨rfl, q2⟩
      replace hB := hB.qt q2
      replace k0 := q2.cell k0
      replace k1 := q2.cell k1
      have hz2 := Nat.lt_of_lt_of_le hz1 q2.below.size
      clear q2 HL hz1
      have HK := Lib.hid (⟨hB, hz2, k0, k1⟩ : _ ∧ _ ∧ _ ∧ _)
      clear hB hz2 k0
      go_wp2
      clear k1
      go_loopw [7, 6] (fun i v wr => ∃ (k q : Nat), k ≤ N ∧ i = .int .i64 k ∧ q ≤ k ∧ wr.ownsRow (w.heap.size + 1) 2 1 v q (flv ds E k) ∧ Below w.heap.size w wr ∧ w.heap.size < wr.heap.size ∧ wr.cell? ⟨w.heap.size, 0, none⟩ = some (.int .i64 s) ∧ wr.cell? ⟨w.heap.size, 1, none⟩ = some (.slice a n c)) (fun i _ _ => N - (intOf i).toNat)
      case atStart =>
        obtain ⟨hB, hz2, k0, k1⟩ := HK.out
        refine ⟨0, 0, Nat.zero_le _, rfl, Nat.le_refl _, ?_, hB.alloc hB.size _, by simp; omega, by go_simp, by go_simp⟩
        exact World.ownsRow_lit _ #[] 0 (by omega) (by unfold maxLen; omega) rfl
      case round =>
        clear HK
        obtain ⟨k, q, hk, rfl, hq, hC, hB, hz, k0, k1⟩ := hrel
        by_cases hlt : k < N
        · have hkN : (k : Int) < (N : Int) := by omega
          obtain ⟨b0, hb0'⟩ : ∃ b0 : Bool, b0 = stepQ ds (E : Int) (k : Int) := ⟨_, rfl⟩
          have hnx := HNX.out wr hB (E : Int) (k : Int) (by omega) hEN (by omega) hkN
          rw [← hb0'] at hnx
          have HST := Lib.hid hb0'
          have HX := Lib.hid hnx
          have HV := Lib.hid (⟨hC, hB, hz, k0, k1⟩ : _ ∧ _ ∧ _ ∧ _ ∧ _)
          clear hC hB hz hnx hb0'
          go_wp2_with fail
          refine HX.out.mono ?_
          clear HX k0 k1
          rintro e w5 ⟨rfl, b5⟩
          obtain ⟨hC, hB, hz, k0, k1⟩ := HV.out
          replace hC := ownsRow_chg hC (b5.chg 0 0) (fun _ _ => .inr (Nat.zero_le _))
          replace hB := hB.next b5
          replace hz := Nat.lt_of_lt_of_le hz b5.size
          replace k0 := b5.keep k0
          replace k1 := b5.keep k1
          clear b5 HV
          cases b0 with
          | false =>
            rw [← flv_no HST.out.symm] at hC
            have HF := Lib.hid (⟨hC, hB, hz, k0, k1⟩ : _ ∧ _ ∧ _ ∧ _ ∧ _)
            clear hC hB hz k0 k1
            go_wp2
            go_roundw
            case rel => exact ⟨k+1, q, by omega, by go_num, by omega, HF.out⟩
            case measure => simp [intOf]; omega
          | true =>
            have hfl := flv_yes HST.out.symm
            have HFL := Lib.hid hfl
            clear hfl
            go_wp2_with (at_builtin; refine wpList_append_own _ rfl _ _ 37 rfl (w.heap.size + 1) 2 i0 (.int .i64 0) 1 8 Try.underlying37 hi' z0 z1 z2 rfl (by decide) _ _ _ rfl (hC.alloc _) ⟨w5.heap.size, 0, none⟩ 1 1 [.int .i64 (k : Int)] rfl rfl ?d1 ?d2 ?d3 ?d4 ?d5 ?_)
            case d1 => exact news_one _ _ _
            case d2 => first | (intro u hu; simp at hu; subst hu; rfl) | rfl | simp
            case d3 => unfold maxLen; omega
            case d4 => omega
            case d5 => simp; omega
            intro v3 w3 hown3 hgr _
            obtain ⟨hB3, hz3, hk3, _⟩ := grown_own hB hC (Nat.le_succ _) hgr
            replace k0 := hk3 _ _ (Nat.lt_succ_self _) k0
            replace k1 := hk3 _ _ (Nat.lt_succ_self _) k1
            rw [← HFL.out] at hown3
            have HF := Lib.hid (⟨hown3, hB3, by omega, k0, k1⟩ : _ ∧ _ ∧ w.heap.size < w3.heap.size ∧ _ ∧ _)
            clear hown3 hB3 hz3 hk3 hgr hC hB hz k0 k1
            go_wp2
            go_roundw
            case rel => exact ⟨k+1, q+1, by omega, by go_num, by omega, HF.out⟩
            case measure => simp [intOf]; omega
        · obtain rfl : k = N := by omega
          obtain ⟨a3, c3, rfl⟩ := own_shape hC
          have hql : (flN ds E k).length = q := by have := hC.1; simpa [flv] using this
          have hO := (OwI.mk hC (by omega) (flN_I64 ds E k (by omega))).mono (Nat.le_succ _) (Nat.le_refl _)
          have HF := Lib.hid (⟨hO, hB⟩ : _ ∧ _)
          have HQ := Lib.hid hql
          clear hC hO hB hql hz k0
          go_wp2
          go_ret2
          refine ⟨a3, c3, ?_, ?_, HF.out.2⟩
          · show _ = Ending.returned (.tuple #[.slice a3 (flN ds E k).length c3, .int .i64 0])
            rw [HQ.out]; rfl
          · show OwI _ _ _ (.slice a3 (flN ds E k).length c3) (flN ds E k)
            rw [HQ.out]; exact HF.out.1
    · rw [folOf_out hg hin]
      have HL := Lib.hid (fun W => l01In e0 0 ((N : Int) - 1) W)
      rw [stepN_dec, decide_eq_false (show ¬ (0 ≤ e0 ∧ e0 < (N : Int)) by rw [hn] at hin; omega)] at HL
      clear h hn hg hN hin hm3 hn10 HNX
      go_enter Try.func28, Try.ntmps28
      go_wp2_with fail
      refine calls_gen (fun W => Below w.heap.size w W ∧ w.heap.size < W.heap.size ∧ W.cell? ⟨w.heap.size, 0, none⟩ = some (.int .i64 s) ∧ W.cell? ⟨w.heap.size, 1, none⟩ = some (.slice a n c)) ⟨hb0 _, by simp, by go_simp, by go_simp⟩ ?_
      rintro W ⟨hB, hz, k0, k1⟩
      refine (HI.out W hB).mono ?_
      rintro e w1 ⟨rfl, b1⟩
      replace hB := hB.next b1
      replace k0 := b1.keep k0
      replace k1 := b1.keep k1
      clear b1 HI hz
      go_wp2_with fail
      refine (HL.out w1).mono ?_
      rintro e w2 ⟨rfl, q2⟩
      replace hB := hB.qt q2
      clear q2 HL k0 k1
      go_wp2
      go_ret2
      exact ⟨none, 0, rfl, OwI.nil' _ _ _, hB⟩
  | false =>
    rw [hg] at HI
    rw [folOf_no _ hg]
    clear h hn hg
    go_enter Try.func28, Try.ntmps28
    go_wp2_with fail
    refine calls_gen (fun W => Below w.heap.size w W) (hb0 _) ?_
    rintro W hB
    refine (HI.out W hB).mono ?_
    rintro e w1 ⟨rfl, b1⟩
    replace hB := hB.next b1
    clear b1 HI
    go_wp2
    go_ret2
    exact ⟨none, 0, rfl, OwI.nil' _ _ _, hB⟩

set_option maxHeartbeats 3200000 in
theorem implFol {lo hi : Nat} (s : Int) (a : Option Addr) (n c : Nat) (xss : List (List Int)) (e0 : Int) (w : World) (h : RdR lo hi w (.slice a n c) xss) (hn : xss.length = n) :
    Calls Try.prog 29 #[.agg #[.int .i64 s, .slice a n c], .int .i64 e0] w fun e w' => ∃ a' c', e = .returned (.tuple #[.slice a' (folOf s xss e0).1.length c', .int .i64 (folOf s xss e0).2]) ∧ OwI w.heap.size w'.heap.size w' (.slice a' (folOf s xss e0).1.length c') (folOf s xss e0).1 ∧ Below w.heap.size w w' := by
  have hb0 : ∀ o, Below w.heap.size w (w.alloc o) := fun o => (Below.refl _ _).alloc (Nat.le_refl _) o
  have HI := Lib.hid (fun W (hB : Below w.heap.size w W) => implIsGraph s a n c xss W (h.below hB) hn)
  cases hg : grB s xss with
  | true =>
    rw [hg] at HI
    have hn10 : n ≤ 10 := by have := grB_iff hg; omega
    have HFO := Lib.hid (fun W (hB : Below w.heap.size w W) => followersIn s a n c xss W (h.below hB) hn hg)
    obtain ⟨N, hN⟩ : ∃ N, N = 2 * n := ⟨_, rfl⟩
    rw [← hN] at HFO
    have hN20 : N ≤ 20 := by omega
    have hm2 : IntKind.i64.wrap (2 * (n : Int)) = (N : Int) := by rw [hN]; rw [IntWalk.i64_in _ (by omega)]; omega
    have hm2' : wrap64 (2 * (n : Int)) = (N : Int) := by rw [hN]; rw [IntWalk.wrap64_in _ (by omega)]; omega
    have HL := Lib.hid (fun W => isIndex e0 (N : Int) W)
    by_cases hin : 0 ≤ e0 ∧ e0 < 2 * (xss.length : Int)
    · obtain ⟨E, rfl⟩ : ∃ E : Nat, e0 = (E : Int) := ⟨e0.toNat, by omega⟩
      rw [folOf_yes hg hin.2, hn, ← hN]
      have hEN : (E : Int) < (N : Int) := by rw [hn] at hin; omega
      have hEN' : E < N := by omega
      rw [show inR (E : Int) (N : Int) = true by unfold inR; simp; omega] at HL
      obtain ⟨ds, hds⟩ : ∃ ds, ds = dirE (pairs xss) := ⟨_, rfl⟩
      rw [← hds] at HFO
      rw [← hds]
      clear h hn hg hds hN hin hn10
      go_enter Try.func29, Try.ntmps29
      go_wp2_with fail
      refine calls_gen (fun W => Below w.heap.size w W ∧ W.cell? ⟨w.heap.size, 0, none⟩ = some (.int .i64 s) ∧ W.cell? ⟨w.heap.size, 1, none⟩ = some (.slice a n c)) ⟨hb0 _, by go_simp, by go_simp⟩ ?_
      rintro W ⟨hB, k0, k1⟩
      refine (HI.out W hB).mono ?_
      rintro e w1 ⟨rfl, b1⟩
      replace hB := hB.next b1
      replace k0 := b1.keep k0
      replace k1 := b1.keep k1
      clear b1 HI
      go_wp2_with fail
      refine (HL.out w1).mono ?_
      rintro e w2 ⟨rfl, q2⟩
      replace hB := hB.qt q2
      replace k0 := q2.cell k0
      replace k1 := q2.cell k1
      clear q2 HL hm2 hm2'
      have HB := Lib.hid hB
      clear hB
      go_wp2_with fail
      refine (HFO.out w2 HB.out).mono ?_
      rintro e w3 ⟨F, hs, rfl, hrow, b3⟩
      obtain ⟨g1, g2⟩ := hrow E hEN'
      obtain ⟨a3, c3, hsh⟩ := g2.rd.shape
      rw [hsh] at g1 g2
      have HF := Lib.hid (⟨g2.mono HB.out.size (Nat.le_refl _), HB.out.next b3⟩ : OwI w.heap.size w3.heap.size w3 _ _ ∧ Below w.heap.size w w3)
      clear g2 hrow b3 hsh HFO k0 k1
      obtain ⟨q, hq⟩ : ∃ q, q = (flN ds E N).length := ⟨_, rfl⟩
      rw [← hq] at g1 HF
      have HQ := Lib.hid hq.symm
      clear hq
      go_wp2
      go_ret2
      refine ⟨a3, c3, ?_, ?_, HF.out.2⟩
      · show _ = Ending.returned (.tuple #[.slice a3 (flN ds E N).length c3, .int .i64 0])
        rw [HQ.out]; rfl
      · show OwI _ _ _ (.slice a3 (flN ds E N).length c3) (flN ds E N)
        rw [HQ.out]; exact HF.out.1
    · rw [folOf_out hg hin]
      rw [show inR e0 (N : Int) = false by unfold inR; rw [hn] at hin; simp; omega] at HL
      clear h hn hg hN hin hn10 HFO
      go_enter Try.func29, Try.ntmps29
      go_wp2_with fail
      refine calls_gen (fun W => Below w.heap.size w W ∧ W.cell? ⟨w.heap.size, 0, none⟩ = some (.int .i64 s) ∧ W.cell? ⟨w.heap.size, 1, none⟩ = some (.slice a n c)) ⟨hb0 _, by go_simp, by go_simp⟩ ?_
      rintro W ⟨hB, k0, k1⟩
      refine (HI.out W hB).mono ?_
      rintro e w1 ⟨rfl, b1⟩
      replace hB := hB.next b1
      replace k0 := b1.keep k0
      replace k1 := b1.keep k1
      clear b1 HI
      go_wp2_with fail
      refine (HL.out w1).mono ?_
      rintro e w2 ⟨rfl, q2⟩
      replace hB := hB.qt q2
      clear q2 HL k0 k1
      go_wp2
      go_ret2
      exact ⟨none, 0, rfl, OwI.nil' _ _ _, hB⟩
  | false =>
    rw [hg] at HI
    rw [folOf_no _ hg]
    clear h hn hg
    go_enter Try.func29, Try.ntmps29
    go_wp2_with fail
    refine calls_gen (fun W => Below w.heap.size w W) (hb0 _) ?_
    rintro W hB
    refine (HI.out W hB).mono ?_
    rintro e w1 ⟨rfl, b1⟩
    replace hB := hB.next b1
    clear b1 HI
    go_wp2
    go_ret2
    exact ⟨none, 0, rfl, OwI.nil' _ _ _, hB⟩

end Go.Proofs.Ytebgbplhcaocoaa
