/-
  The contract of the model's function that draws a word of so many pairs: it draws a word.
-/
import Derived.Test.YtooplolalbcmjaaCEnds
import Derived.Test.YtooplolalbcmjaaZV
import Derived.Test.YtooplolalbcmjaaZGV
import Derived.Test.YtooplolalbcmjaaZD
namespace Go.Proofs.Ytooplolalbcmjaa
open Go.RowKit

theorem wat_fold (f : Nat) : ∀ (r o l : Nat), 2 * l + o = f → r < ee l o → (wat f r o l).foldl vstep (some o) = some 0 := by
  induction f with
  | zero =>
    intro r o l h _
    obtain rfl : o = 0 := by omega
    rfl
  | succ f ih =>
    intro r o l hf hr
    by_cases hl : 0 < l
    · by_cases hk : r < ee (l - 1) (o + 1)
      · rw [wat_opn f r o l hl hk, List.foldl_cons]
        have e : vstep (some o) 40 = some (o + 1) := by simp [vstep]
        rw [e]
        exact ih _ _ _ (by omega) hk
      · obtain ⟨ho, hlt⟩ := low_open hl hr hk
        rw [wat_cls f r o l hl hk, List.foldl_cons]
        have e : vstep (some o) 41 = some (o - 1) := by simp [vstep]; omega
        rw [e]
        exact ih _ _ _ (by omega) hlt
    · obtain rfl : l = 0 := by omega
      rw [wat_end, List.foldl_cons]
      have e : vstep (some o) 41 = some (o - 1) := by simp [vstep]; omega
      rw [e]
      exact ih _ _ _ (by omega) (by rw [ee_zero] at hr ⊢; exact hr)
theorem wat_ok (m k : Nat) (hm : m ≤ 9) (hk : k < ee m 0) : valid (ByteArray.mk (wat (2 * m) k 0 m).toArray).data.toList = true := by
  show valid (wat (2 * m) k 0 m) = true
  have h : scan (wat (2 * m) k 0 m) = some 0 := wat_fold (2 * m) k 0 m (by omega) hk
  have h2 := wat_length (2 * m) k 0 m
  simp [valid, h, h2]
  omega
theorem wat_sz (m k : Nat) : (ByteArray.mk (wat (2 * m) k 0 m).toArray).size = 2 * m := by
  rw [← size_list]; exact wat_length _ _ _ _
theorem cat_ee (m : Nat) (hm : m ≤ 9) : cat m = (ee m 0 : Nat) := by rw [ee_cat m hm]; revert m; decide
/-- some word of m pairs -/
def WordOf_ (m B R : Nat) (a : Option Addr) (n c p d : Nat) (w : World) (e : Ending) (w' : World) : Prop :=
  ∃ s : ByteArray, e = .returned (.string s) ∧ valid s.data.toList = true ∧ s.size = 2 * m ∧ Rd w' B R a n c (p + d) ∧ Below B w w'

set_option maxHeartbeats 1600000 in
theorem specWat_ok (n r : Nat) (hn : n ≤ 9) (hr : r < ee n 0) (w : World) :
    Calls Try.prog 80 #[.int .i64 n, .int .i64 r] w fun e w' => e = .returned (.string ⟨(wat (2 * n) r 0 n).toArray⟩) ∧ w = w' := by
  have hr9 := (ee_bd n hn 0 (by omega)).2
  go_enter Try.func80, Try.ntmps80
  go_wp2
  go_loop [1, 5, 6, 7] (fun a b c d => ∃ (f x o l : Nat) (t : ByteArray), a = .int .i64 x ∧ b = .string t ∧ c = .int .i64 o ∧ d = .int .i64 l ∧ 2 * l + o = f ∧ t.size + f = 2 * n ∧ o + l ≤ n ∧ x < 4862 ∧ Hid (x < ee l o ∧ t.data.toList ++ wat f x o l = wat (2 * n) r 0 n)) (fun _ b _ _ => match b with | .string t => 2 * n - t.size | _ => 0)
  case atStart => exact ⟨2 * n, r, 0, n, ⟨#[]⟩, rfl, rfl, rfl, rfl, by omega, by simp [ByteArray.size], by omega, by omega, hr, rfl⟩
  case round =>
    obtain ⟨f, x, o, l, t, rfl, rfl, rfl, rfl, hf, ht, hon, hx, H⟩ := hrel
    cases f with
    | zero =>
      have e : t = ⟨(wat (2 * n) r 0 n).toArray⟩ := bytes_ext (by rw [← H.out.2]; simp [wat])
      have E := Lib.hid e
      have b1 : 2 * (n : Int) ≤ (t.size : Int) := by omega
      clear e
      go_wp2
      go_ret
      exact ⟨by rw [← E.out]; rfl, rfl⟩
    | succ f =>
      have z1 : t.size + (ByteArray.mk #[40]).size ≤ 9223372036854775807 := by rw [show (ByteArray.mk #[40]).size = 1 from rfl]; omega
      have z2 : t.size + (ByteArray.mk #[41]).size ≤ 9223372036854775807 := by rw [show (ByteArray.mk #[41]).size = 1 from rfl]; omega
      have s40 : (t ++ ByteArray.mk #[40]).size = t.size + 1 := by rw [ByteArray.size_append]; rfl
      have s41 : (t ++ ByteArray.mk #[41]).size = t.size + 1 := by rw [ByteArray.size_append]; rfl
      have e40 : (t ++ ByteArray.mk #[40]).data.toList = t.data.toList ++ [40] := toList_append _ _
      have e41 : (t ++ ByteArray.mk #[41]).data.toList = t.data.toList ++ [41] := toList_append _ _
      have S40 := Lib.hid s40
      have S41 := Lib.hid s41
      have E40 := Lib.hid e40
      have E41 := Lib.hid e41
      have b1 : (t.size : Int) < 2 * (n : Int) := by omega
      clear s40 s41 e40 e41
      by_cases hl : 0 < l
      · have y := ee_bd (l - 1) (by omega) (o + 1) (by omega)
        have i1 := fun w => specEnds_in _ (o + 1) (l - 1) ((o : Int) + 1) ((l : Int) - 1) w rfl (by omega) (by omega) (by omega)
        have b2 : (0 : Int) < (l : Int) := by omega
        by_cases hk : x < ee (l - 1) (o + 1)
        · have N : Hid (x < ee (l - 1) (o + 1) ∧ (t ++ ByteArray.mk #[40]).data.toList ++ wat f x (o + 1) (l - 1) = wat (2 * n) r 0 n) := ⟨hk, by
            rw [← H.out.2, wat_opn f x o l hl hk, E40.out, List.append_assoc]; rfl⟩
          obtain ⟨X, hX⟩ : ∃ X, X = ee (l - 1) (o + 1) := ⟨_, rfl⟩
          rw [← hX] at y i1 hk
          have I1 := Lib.hid i1
          have b3 : (x : Int) < (X : Int) := by omega
          clear i1 hX H
          go_wp2_with fail
          refine (I1.out _).mono ?_
          rintro e w1 ⟨rfl, rfl⟩
          go_wp2
          go_round
          case rel => exact ⟨f, x, o + 1, l - 1, t ++ ByteArray.mk #[40], rfl, rfl, by go_num, by go_num, by omega, by rw [S40.out]; omega, by omega, hx, N⟩
          case measure => show 2 * n - (t ++ ByteArray.mk #[40]).size < 2 * n - t.size; rw [S40.out]; omega
        · obtain ⟨ho, hlt⟩ := low_open hl H.out.1 hk
          have N : Hid (x - ee (l - 1) (o + 1) < ee l (o - 1) ∧ (t ++ ByteArray.mk #[41]).data.toList ++ wat f (x - ee (l - 1) (o + 1)) (o - 1) l = wat (2 * n) r 0 n) := ⟨hlt, by
            rw [← H.out.2, wat_cls f x o l hl hk, E41.out, List.append_assoc]; rfl⟩
          clear hlt
          obtain ⟨X, hX⟩ : ∃ X, X = ee (l - 1) (o + 1) := ⟨_, rfl⟩
          rw [← hX] at y i1 hk N
          have I1 := Lib.hid i1
          have b3 : (X : Int) ≤ (x : Int) := by omega
          clear i1 hX H
          go_wp2_with fail
          refine (I1.out _).mono ?_
          rintro e w1 ⟨rfl, rfl⟩
          go_wp2
          go_round
          case rel => exact ⟨f, x - X, o - 1, l, t ++ ByteArray.mk #[41], by go_num, rfl, by go_num, rfl, by omega, by rw [S41.out]; omega, by omega, by omega, N⟩
          case measure => show 2 * n - (t ++ ByteArray.mk #[41]).size < 2 * n - t.size; rw [S41.out]; omega
      · obtain rfl : l = 0 := by omega
        have N : Hid (x < ee 0 (o - 1) ∧ (t ++ ByteArray.mk #[41]).data.toList ++ wat f x (o - 1) 0 = wat (2 * n) r 0 n) := ⟨H.out.1, by
          rw [← H.out.2, wat_end, E41.out, List.append_assoc]; rfl⟩
        clear H hl
        go_wp2
        go_round
        case rel => exact ⟨f, x, o - 1, 0, t ++ ByteArray.mk #[41], by go_num, rfl, by go_num, rfl, by omega, by rw [S41.out]; omega, by omega, by omega, N⟩
        case measure => show 2 * n - (t ++ ByteArray.mk #[41]).size < 2 * n - t.size; rw [S41.out]; omega

set_option maxHeartbeats 1600000 in
theorem goodWord_ok (m : Nat) (hm : m ≤ 9) (B R : Nat) (a : Option Addr) (n c p : Nat) (w : World) (h : Hid (Rd w B R a n c p)) (hp : p ≤ 5000) :
    Calls Try.prog 51 #[.pointer (some ⟨R, 0, none⟩), .int .i64 m] w (WordOf_ m B R a n c p 1 w) := by
  go_enter Try.func51, Try.ntmps51
  go_wp2_with fail
  refine (counts_any m hm w).mono ?_
  rintro e w1 ⟨v, rfl, hown, hb, _⟩
  rw [catV_length] at hown
  obtain ⟨g, cap, rfl, hg, hgl, hc, hcm⟩ := own_form hown (by omega)
  have hcell := (hown.cellAt m (by omega)).trans (catV_at (m + 1) m (by omega))
  have b1 : m < m + 1 := by omega
  have hcb := cat_bd m hm
  have hee : cat m = (ee m 0 : Nat) ∧ 1 ≤ ee m 0 := ⟨cat_ee m hm, (ee_bd m hm 0 (by omega)).1⟩
  obtain ⟨K, hK⟩ : ∃ K, K = cat m := ⟨_, rfl⟩
  rw [← hK] at hcell hcb hee
  have HEE := Lib.hid hee
  have R1 := Lib.hid (h.out.grow hb)
  have hlow := h.out.low
  have hlt := h.out.lt
  have B1 := Lib.hid (hb.mono (show B ≤ w.heap.size by omega))
  clear hown hb hK hee
  rcases (show K < 250 ∨ K = 250 ∨ 250 < K by omega) with hK250 | rfl | hK250
  all_goals
    go_wp2_with fail
    refine (pick_any B R a n c p _ _ R1.out hp (by omega) (by omega)).mono ?_
    rintro e w2 ⟨k, rfl, hk1, _, hrd, honly⟩
    have hk2 : k < ee m 0 := by have h1 := HEE.out.1; have h2 := HEE.out.2; have h3 := hk1 (by omega); omega
    have HK := Lib.hid hk2
    have R2 := Lib.hid hrd
    have B2 := Lib.hid (B1.out.trans (honly.below hlow))
    clear hrd honly hcell hk1 hk2
    go_wp2_with fail
    refine (specWat_ok m k hm HK.out w2).mono ?_
    rintro e w3 ⟨rfl, rfl⟩
    go_wp2
    go_ret
    exact ⟨_, rfl, wat_ok m k hm HK.out, wat_sz m k, R2.out, B2.out⟩
end Go.Proofs.Ytooplolalbcmjaa
