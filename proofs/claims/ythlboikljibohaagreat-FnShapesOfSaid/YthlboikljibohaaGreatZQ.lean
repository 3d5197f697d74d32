/-
  Plain facts: the product of the numbers up to how many nodes a tree has is divided by the number of its maps to itself. Nothing of the program is named here.
  Plain facts: the shapes of all trees of up to five nodes, and how many trees have each (by reckoning). Nothing of the program is named here.
-/
import Derived.Test.YthlboikljibohaaGreatZJ
import Derived.Test.YthlboikljibohaaGreatZM
namespace Go.Proofs.YthlboikljibohaaGreat

/-- the product of the numbers up to one -/
def fct : Nat → Nat
  | 0 => 1
  | n + 1 => (n + 1) * fct n
theorem fct_pos : ∀ n, 0 < fct n
  | 0 => Nat.one_pos
  | n + 1 => Nat.mul_pos (Nat.succ_pos n) (fct_pos n)
theorem fct_two : ∀ (s a b : Nat), a + b = s → ∃ c, fct (a + b) = fct a * fct b * c := by
  intro s
  induction s with
  | zero =>
    intro a b h
    obtain ⟨rfl, rfl⟩ : a = 0 ∧ b = 0 := by omega
    exact ⟨1, rfl⟩
  | succ s ih =>
    intro a b h
    cases a with
    | zero => exact ⟨1, by rw [Nat.zero_add]; show fct b = 1 * fct b * 1; omega⟩
    | succ a =>
      cases b with
      | zero => exact ⟨1, by rw [Nat.add_zero]; show _ = fct (a + 1) * 1 * 1; omega⟩
      | succ b =>
        obtain ⟨c, hc⟩ := ih a (b + 1) (by omega)
        obtain ⟨d, hd⟩ := ih (a + 1) b (by omega)
        refine ⟨c + d, ?_⟩
        have e1 : fct (a + 1 + (b + 1)) = (a + 1 + (b + 1)) * fct (a + (b + 1)) := by
          rw [show a + 1 + (b + 1) = (a + (b + 1)) + 1 by omega]; rfl
        have e2 : fct (a + (b + 1)) = fct (a + 1 + b) := by rw [show a + (b + 1) = a + 1 + b by omega]
        have e3 : fct (a + 1) = (a + 1) * fct a := rfl
        have e4 : fct (b + 1) = (b + 1) * fct b := rfl
        rw [e1, Nat.add_mul, Nat.mul_add]
        congr 1
        · rw [hc, e3, Nat.mul_assoc (a + 1), Nat.mul_assoc (a + 1)]
        · rw [e2, hd, e4, Nat.mul_left_comm (fct (a + 1)), Nat.mul_assoc (b + 1)]
theorem fct_dvd (a b : Nat) : fct a * fct b ∣ fct (a + b) := by
  obtain ⟨c, hc⟩ := fct_two _ a b rfl
  exact ⟨c, hc⟩
theorem fct_up (a b : Nat) : fct a ∣ fct (a + b) := Nat.dvd_trans (Nat.dvd_mul_right _ _) (fct_dvd a b)

/-- of a list, the last one first: the product of how often each is there so far -/
def pR : List (List UInt8) → Nat
  | [] => 1
  | x :: r => pR r * (r.count x + 1)
theorem pR_out (t : List UInt8) : ∀ T : List (List UInt8), pR T = fct (T.count t) * pR (T.filter fun y => decide (y ≠ t))
  | [] => rfl
  | x :: r => by
    have ih := pR_out t r
    by_cases h : x = t
    · subst h
      rw [pR, ih, List.count_cons_self, List.filter_cons_of_neg (by simp)]
      show _ = (r.count x + 1) * fct (r.count x) * _
      rw [Nat.mul_comm (r.count x + 1), Nat.mul_right_comm]
    · rw [List.count_cons_of_ne h, List.filter_cons_of_pos (by simpa using h), pR, pR, ih, Nat.mul_assoc]
      have : (r.filter fun y => decide (y ≠ t)).count x = r.count x := by
        rw [List.count_filter (by simpa using h)]
      rw [this]
theorem count_len (t : List UInt8) : ∀ T : List (List UInt8), T.count t + (T.filter fun y => decide (y ≠ t)).length = T.length
  | [] => rfl
  | x :: r => by
    have ih := count_len t r
    by_cases h : x = t
    · subst h
      rw [List.count_cons_self, List.filter_cons_of_neg (by simp), List.length_cons]; omega
    · rw [List.count_cons_of_ne h, List.filter_cons_of_pos (by simpa using h), List.length_cons, List.length_cons]; omega
theorem pR_dvd : ∀ (m : Nat) (T : List (List UInt8)), T.length ≤ m → pR T ∣ fct T.length := by
  intro m
  induction m with
  | zero =>
    intro T h
    obtain rfl : T = [] := List.eq_nil_of_length_eq_zero (by omega)
    exact Nat.dvd_refl _
  | succ m ih =>
    intro T h
    cases T with
    | nil => exact Nat.dvd_refl _
    | cons t r =>
      have h1 := count_len t (t :: r)
      have h2 : 0 < (t :: r).count t := by rw [List.count_cons_self]; omega
      rw [pR_out t, ← h1]
      exact Nat.dvd_trans (Nat.mul_dvd_mul_left _ (ih _ (by omega))) (fct_dvd _ _)

/-- how many nodes some branches have -/
def szB (E : Edges) (d : Nat) (L : List (Nat × Int)) : Nat := (L.map fun b => (nds E d b.1 b.2).length).sum
theorem cms_dvd {E : Edges} {d : Nat} (L : List (Nat × Int)) (hc : ∀ b ∈ L, ∃ s, (nds E d b.1 b.2).length = s + 1 ∧ cm E d (prt E b) ∣ fct s) :
    ∀ k, k ≤ L.length → ∃ q s, cms E d L k = pR ((txts E d (L.take k)).reverse) * q ∧ q ∣ fct s ∧ s + k = szB E d (L.take k) := by
  intro k
  induction k with
  | zero => intro _; exact ⟨1, 0, rfl, Nat.dvd_refl _, rfl⟩
  | succ k ih =>
    intro hk
    have hlt : k < L.length := by omega
    obtain ⟨q, s, h1, h2, h3⟩ := ih (by omega)
    obtain ⟨s', g1, g2⟩ := hc L[k] (List.getElem_mem hlt)
    refine ⟨q * cm E d (prt E L[k]), s + s', ?_, Nat.dvd_trans (Nat.mul_dvd_mul h2 g2) (fct_dvd _ _), ?_⟩
    · have e : (txts E d (L.take (k + 1))).reverse = txt E d L[k].1 L[k].2 :: (txts E d (L.take k)).reverse := by
        unfold txts
        rw [List.take_succ_eq_append_getElem hlt, List.map_append, List.reverse_append]; rfl
      rw [cms_next E d L hlt, h1, e, pR, List.count_reverse]
      generalize pR (txts E d (L.take k)).reverse = A
      generalize (txts E d (L.take k)).count (txt E d L[k].1 L[k].2) + 1 = B
      generalize cm E d (prt E L[k]) = C
      rw [Nat.mul_assoc, Nat.mul_assoc, Nat.mul_left_comm q]
    · unfold szB at h3 ⊢
      rw [List.take_succ_eq_append_getElem hlt, List.map_append, List.sum_append, ← h3]
      simp only [List.map_cons, List.map_nil, List.sum_cons, List.sum_nil]
      omega
theorem szB_prt (E : Edges) (d v : Nat) (fr : Int) : (nds E (d + 1) v fr).length = szB E d (prt E (v, fr)) + 1 := by
  rw [nds, List.length_cons]
  unfold szB prt
  rw [List.length_flatMap, List.map_map]
  rfl
theorem cm_dvd {E : Edges} : ∀ (d : Nat) (L : List (Nat × Int)), (∀ b ∈ L, Brn E d b.1 b.2) → cm E (d + 1) L ∣ fct (szB E d L) := by
  intro d
  induction d with
  | zero =>
    intro L h
    cases L with
    | nil => exact Nat.dvd_refl _
    | cons b r => exact (h b (by simp)).elim
  | succ d ih =>
    intro L h
    have hc : ∀ b ∈ L, ∃ s, (nds E (d + 1) b.1 b.2).length = s + 1 ∧ cm E (d + 1) (prt E b) ∣ fct s := by
      intro b hb
      refine ⟨szB E d (prt E b), szB_prt E d b.1 b.2, ih _ ?_⟩
      intro x hx
      obtain ⟨y, hy, rfl⟩ := List.mem_map.1 hx
      exact h b hb y hy
    obtain ⟨q, s, h1, h2, h3⟩ := cms_dvd L hc L.length (Nat.le_refl _)
    rw [List.take_length] at h1 h3
    rw [← cms_all, h1, ← h3]
    have h4 := pR_dvd _ (txts E (d + 1) L).reverse (Nat.le_refl _)
    rw [List.length_reverse] at h4
    have h5 : (txts E (d + 1) L).length = L.length := by simp [txts]
    rw [h5] at h4
    rw [Nat.add_comm s]
    exact Nat.dvd_trans (Nat.mul_dvd_mul h4 h2) (fct_dvd _ _)
theorem sum_out {L : List Nat} {b : Nat} (f : Nat → Nat) (hn : L.Nodup) (hb : b ∈ L) : (L.map f).sum = f b + ((L.filter fun x => decide (x ≠ b)).map f).sum := by
  induction L with
  | nil => cases hb
  | cons a r ih =>
    have hn' := List.nodup_cons.1 hn
    by_cases h : a = b
    · subst h
      have e : (r.filter fun x => decide (x ≠ a)) = r := List.filter_eq_self.2 fun x hx => by
        have : x ≠ a := fun e => hn'.1 (e ▸ hx)
        simpa using this
      rw [List.filter_cons_of_neg (by simp), e, List.map_cons, List.sum_cons]
    · have hb' : b ∈ r := by
        rcases List.mem_cons.1 hb with e | e
        · exact absurd e.symm h
        · exact e
      rw [List.filter_cons_of_pos (by simpa using h), List.map_cons, List.sum_cons, List.map_cons, List.sum_cons, ih hn'.2 hb']
      omega
theorem two_sides {n : Nat} {E : Edges} (h : ValidT n E) (h7 : n ≤ 7) {a b : Nat} (ha : a < n) (hab : Adj E a b) : (nds E 14 a (b : Int)).length + (nds E 14 b (a : Int)).length = n := by
  have h1 := nd_len h h7 ha
  have hB := valid_brn h h7 a (-1)
  have ho : ∀ e ∈ E, e.1 < e.2 := fun e he => (h.ord e he).1
  have hnd : (nb E a).Nodup := (nb_asc ho h.asc a).imp fun hab => by omega
  have hbm : b ∈ nb E a := mem_nb.2 hab
  have e0 : away E a (-1) = nb E a := by
    unfold away
    rw [List.filter_eq_self.2]
    intro x _
    have : ¬ ((x : Int) = -1) := by omega
    simp [this]
  have e1 : away E a (b : Int) = (nb E a).filter fun x => decide (x ≠ b) := by
    unfold away
    apply List.filter_congr
    intro x _
    by_cases hx : x = b
    · subst hx; simp
    · have : ¬ ((x : Int) = (b : Int)) := by omega
      simp [hx, this]
  have hBb : Brn E 13 b (a : Int) := hB b (by rw [e0]; exact hbm)
  have e2 : nds E 14 b (a : Int) = nds E 13 b (a : Int) := nds_le (by omega) hBb
  rw [nds, List.length_cons, List.length_flatMap, e0, sum_out (fun x => (nds E 13 x (a : Int)).length) hnd hbm] at h1
  rw [nds, List.length_cons, List.length_flatMap, e1, e2]
  omega
theorem maps_dvd {n : Nat} {E : Edges} (h : ValidT n E) (h7 : n ≤ 7) : mapsN n E ∣ fct n := by
  rcases cents_two h h7 with ⟨a, hc, ha⟩ | ⟨a, b, hc, hab, hb, he⟩
  · unfold mapsN
    rw [hc]
    have hB := valid_brn h h7 a (-1)
    have h1 := cm_dvd (E := E) 13 (prt E (a, -1)) (fun x hx => by
      obtain ⟨y, hy, rfl⟩ := List.mem_map.1 hx
      exact hB y hy)
    have h2 := szB_prt E 13 a (-1)
    rw [nd_len h h7 ha] at h2
    rw [h2]
    exact Nat.dvd_trans h1 (fct_up _ 1)
  · unfold mapsN
    rw [hc]
    have h1 := cm_dvd (E := E) 14 [(a, (b : Int)), (b, (a : Int))] (fun x hx => by
      simp only [List.mem_cons, List.not_mem_nil, or_false] at hx
      rcases hx with rfl | rfl
      · exact valid_brn h h7 _ _
      · exact valid_brn h h7 _ _)
    have h2 := two_sides h h7 (show a < n by omega) (.inl he)
    have h3 : szB E 14 [(a, (b : Int)), (b, (a : Int))] = n := by
      unfold szB
      simp only [List.map_cons, List.map_nil, List.sum_cons, List.sum_nil]
      omega
    rw [h3] at h1
    exact h1
theorem fct_le : ∀ n, n ≤ 7 → fct n ≤ 5040 := by decide
theorem maps_pos {n : Nat} {E : Edges} (h : ValidT n E) (h7 : n ≤ 7) : 0 < mapsN n E ∧ mapsN n E ≤ 5040 := by
  have h1 := maps_dvd h h7
  exact ⟨Nat.pos_of_dvd_of_pos h1 (fct_pos n), Nat.le_trans (Nat.le_of_dvd (fct_pos n) h1) (fct_le n h7)⟩
end Go.Proofs.YthlboikljibohaaGreat

namespace Go.Proofs.YthlboikljibohaaGreat

def shapesT (n : Nat) : List (List UInt8) := (List.range (n ^ (n - 2))).map fun w => freeT n (treeN n (codeD n w))
def mapsT (n : Nat) : List Nat := (List.range (n ^ (n - 2))).map fun w => mapsN n (treeN n (codeD n w))
/-- the texts of the shapes, how many maps each has, and which shape each tree has -/
def shpX : Nat → List (List UInt8) × List Nat × List Nat
  | 1 => ([[40, 41]], [1], [0])
  | 2 => ([[40, 40, 41, 41]], [2], [0])
  | 3 => ([[40, 40, 41, 40, 41, 41]], [2], [0, 0, 0])
  | 4 => ([[40, 40, 41, 40, 41, 40, 41, 41], [40, 40, 40, 41, 41, 40, 41, 41]], [6, 2], [0, 1, 1, 1, 1, 0, 1, 1, 1, 1, 0, 1, 1, 1, 1, 0])
  | 5 => ([[40, 40, 41, 40, 41, 40, 41, 40, 41, 41], [40, 40, 40, 41, 40, 41, 41, 40, 41, 41], [40, 40, 40, 41, 41, 40, 40, 41, 41, 41]], [24, 2, 2], [0, 1, 1, 1, 1, 1, 1, 2, 2, 2, 1, 2, 1, 2, 2, 1, 2, 2, 1, 2, 1, 2, 2, 2, 1, 1, 1, 2, 2, 2, 1, 0, 1, 1, 1, 2, 1, 1, 2, 2, 2, 1, 2, 1, 2, 2, 1, 2, 2, 1, 1, 2, 1, 2, 2, 2, 1, 1, 2, 2, 1, 1, 0, 1, 1, 2, 2, 1, 1, 2, 2, 2, 1, 2, 1, 1, 2, 2, 1, 2, 2, 1, 2, 1, 2, 2, 2, 1, 1, 2, 1, 1, 1, 0, 1, 2, 2, 2, 1, 1, 1, 2, 2, 2, 1, 2, 1, 2, 2, 1, 2, 2, 1, 2, 1, 2, 2, 2, 1, 1, 1, 1, 1, 1, 0])
  | _ => ([], [], [])
def shpOk (n : Nat) : Bool := Nat.beq (shpX n).2.2.length (n ^ (n - 2)) && (List.range (n ^ (n - 2))).all fun w =>
  decide (freeT n (treeN n (codeD n w)) = (shpX n).1.getD ((shpX n).2.2.getD w 0) []) && Nat.beq (mapsN n (treeN n (codeD n w))) ((shpX n).2.1.getD ((shpX n).2.2.getD w 0) 0) && Nat.blt ((shpX n).2.2.getD w 0) (shpX n).1.length
theorem shp_ok : ∀ n, 1 ≤ n → n ≤ 5 → shpOk n = true := by
  intro n h1 h5
  obtain rfl | rfl | rfl | rfl | rfl : n = 1 ∨ n = 2 ∨ n = 3 ∨ n = 4 ∨ n = 5 := by omega
  all_goals decide +kernel
theorem shp_at {n : Nat} (h1 : 1 ≤ n) (h5 : n ≤ 5) : (shpX n).2.2.length = n ^ (n - 2) ∧ ∀ w, w < n ^ (n - 2) → freeT n (treeN n (codeD n w)) = (shpX n).1.getD ((shpX n).2.2.getD w 0) [] ∧ mapsN n (treeN n (codeD n w)) = (shpX n).2.1.getD ((shpX n).2.2.getD w 0) 0 ∧ (shpX n).2.2.getD w 0 < (shpX n).1.length := by
  have h := shp_ok n h1 h5
  unfold shpOk at h
  rw [Bool.and_eq_true] at h
  refine ⟨Nat.eq_of_beq_eq_true h.1, fun w hw => ?_⟩
  have h2 := List.all_eq_true.1 h.2 w (List.mem_range.2 hw)
  rw [Bool.and_eq_true, Bool.and_eq_true, decide_eq_true_eq] at h2
  exact ⟨h2.1.1, Nat.eq_of_beq_eq_true h2.1.2, by have := Nat.le_of_ble_eq_true h2.2; omega⟩
theorem map_getD {α : Type} (I : List Nat) (f : Nat → α) : (List.range I.length).map (fun w => f (I.getD w 0)) = I.map f := by
  apply List.ext_getElem
  · simp
  · intro i h1 h2
    simp only [List.length_map, List.length_range] at h1
    simp [List.getD_eq_getElem?_getD, List.getElem?_eq_getElem h1]
theorem shp_lists {n : Nat} (h1 : 1 ≤ n) (h5 : n ≤ 5) : shapesT n = (shpX n).2.2.map (fun i => (shpX n).1.getD i []) ∧ mapsT n = (shpX n).2.2.map (fun i => (shpX n).2.1.getD i 0) := by
  obtain ⟨hl, ha⟩ := shp_at h1 h5
  unfold shapesT mapsT
  constructor
  · rw [← map_getD (shpX n).2.2, hl]
    exact List.map_congr_left fun w hw => (ha w (List.mem_range.1 hw)).1
  · rw [← map_getD (shpX n).2.2, hl]
    exact List.map_congr_left fun w hw => (ha w (List.mem_range.1 hw)).2.1
theorem shp_few : ∀ n, 1 ≤ n → n ≤ 5 → ∀ i, i < (shpX n).1.length → ((shpX n).2.2.map (fun i => (shpX n).1.getD i [])).count ((shpX n).1.getD i []) * (shpX n).2.1.getD i 0 = fct n := by
  intro n h1 h5
  obtain rfl | rfl | rfl | rfl | rfl : n = 1 ∨ n = 2 ∨ n = 3 ∨ n = 4 ∨ n = 5 := by omega
  all_goals decide +kernel
theorem shp_sum : ∀ n, 1 ≤ n → n ≤ 5 → ((shpX n).2.2.map (fun i => (shpX n).2.1.getD i 0)).sum = fct n * (sortW ((shpX n).2.2.map (fun i => (shpX n).1.getD i []))).length := by
  intro n h1 h5
  obtain rfl | rfl | rfl | rfl | rfl : n = 1 ∨ n = 2 ∨ n = 3 ∨ n = 4 ∨ n = 5 := by omega
  all_goals decide +kernel
theorem valid_num {n : Nat} {E : Edges} (h : ValidT n E) (h1 : 1 ≤ n) : ∃ w, w < n ^ (n - 2) ∧ treeN n (codeD n w) = E := by
  by_cases h2 : 2 ≤ n
  · exact tree_num h h2
  · obtain rfl : n = 1 := by omega
    exact ⟨0, by decide, by rw [one_num h]; decide +kernel⟩
/-- how many trees have the text of a tree -/
theorem few_shapes {n : Nat} {E : Edges} (h : ValidT n E) (h1 : 1 ≤ n) (h5 : n ≤ 5) : (shapesT n).count (freeT n E) * mapsN n E = fct n := by
  obtain ⟨w, hw, rfl⟩ := valid_num h h1
  obtain ⟨a, b, c⟩ := (shp_at h1 h5).2 w hw
  rw [(shp_lists h1 h5).1, a, b]
  exact shp_few n h1 h5 _ c
theorem sum_shapes {n : Nat} (h1 : 1 ≤ n) (h5 : n ≤ 5) : (mapsT n).sum = fct n * (sortW (shapesT n)).length := by
  rw [(shp_lists h1 h5).1, (shp_lists h1 h5).2]
  exact shp_sum n h1 h5
end Go.Proofs.YthlboikljibohaaGreat
