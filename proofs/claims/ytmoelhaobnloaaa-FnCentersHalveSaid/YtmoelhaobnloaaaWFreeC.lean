/-
  Plain facts: the text of a tree seen from a node, in how many ways branches go to each other. Nothing of the program is named here.
-/
import Derived.Test.YtmoelhaobnloaaaZW
import Derived.Test.YtmoelhaobnloaaaWSortW
import Derived.Test.YtmoelhaobnloaaaWPerm
namespace Go.Proofs.Ytmoelhaobnloaaa

/-! ### texts in their order, each as often as it is there -/
def leT (x y : List UInt8) : Bool := !lessL y x
theorem leT_trans {x y z : List UInt8} (h : leT x y = true) (k : leT y z = true) : leT x z = true := by
  unfold leT at *
  simp only [Bool.not_eq_true'] at *
  cases h3 : lessL z x with
  | false => rfl
  | true =>
    exfalso
    rcases less_total x y with e | e | e
    · rw [less_trans _ _ _ h3 e] at k; cases k
    · subst e; rw [h3] at k; cases k
    · rw [e] at h; cases h
theorem leT_total (x y : List UInt8) : leT x y = true ∨ leT y x = true := by
  unfold leT
  simp only [Bool.not_eq_true']
  cases h1 : lessL y x with
  | false => exact .inl rfl
  | true =>
    right
    cases h2 : lessL x y with
    | false => rfl
    | true => have := less_trans _ _ _ h1 h2; rw [less_self] at this; cases this
theorem leT_anti {x y : List UInt8} (h : leT x y = true) (k : leT y x = true) : x = y := by
  unfold leT at *
  simp only [Bool.not_eq_true'] at *
  rcases less_total x y with e | e | e
  · rw [e] at k; cases k
  · exact e
  · rw [e] at h; cases h
def AscT (L : List (List UInt8)) : Prop := L.Pairwise fun x y => leT x y = true
theorem ascT_uniq : ∀ (L M : List (List UInt8)), AscT L → AscT M → L.Perm M → L = M
  | [], M, _, _, h => (List.nil_perm.1 h).symm
  | x :: L, [], _, _, h => by have := h.length_eq; simp at this
  | x :: L, y :: M, h1, h2, h => by
    obtain ⟨a1, a2⟩ := List.pairwise_cons.1 h1
    obtain ⟨b1, b2⟩ := List.pairwise_cons.1 h2
    have hxy : x = y := by
      rcases List.mem_cons.1 (h.mem_iff.1 (show x ∈ x :: L by simp)) with e | e
      · exact e
      · rcases List.mem_cons.1 (h.mem_iff.2 (show y ∈ y :: M by simp)) with e' | e'
        · exact e'.symm
        · exact leT_anti (a1 y e') (b1 x e)
    subst hxy
    rw [ascT_uniq L M a2 b2 (List.Perm.cons_inv h)]
def insT (out : List (List UInt8)) (x : List UInt8) : List (List UInt8) := out.takeWhile (fun y => leT y x) ++ x :: out.dropWhile (fun y => leT y x)
def srtT (L : List (List UInt8)) : List (List UInt8) := L.foldl insT []
theorem insT_perm (out : List (List UInt8)) (x : List UInt8) : (insT out x).Perm (x :: out) := by
  unfold insT
  refine List.perm_middle.trans (List.Perm.cons _ ?_)
  rw [List.takeWhile_append_dropWhile]
theorem ins_fold_perm (L : List (List UInt8)) : ∀ out, (L.foldl insT out).Perm (L ++ out) := by
  induction L with
  | nil => intro out; exact List.Perm.refl _
  | cons a r ih =>
    intro out
    rw [List.foldl_cons]
    exact (ih _).trans (((insT_perm out a).append_left r).trans List.perm_middle)
theorem srtT_perm (L : List (List UInt8)) : (srtT L).Perm L := by have := ins_fold_perm L []; rwa [List.append_nil] at this
theorem dropT_gt (x : List UInt8) : ∀ (out : List (List UInt8)), AscT out → ∀ y ∈ out.dropWhile (fun y => leT y x), leT x y = true
  | [], _, y, hy => by simp at hy
  | z :: r, h, y, hy => by
    obtain ⟨h1, h2⟩ := List.pairwise_cons.1 h
    by_cases hz : leT z x = true
    · rw [List.dropWhile_cons, if_pos hz] at hy
      exact dropT_gt x r h2 y hy
    · rw [List.dropWhile_cons, if_neg hz] at hy
      have hzx : leT x z = true := (leT_total x z).resolve_right hz
      rcases List.mem_cons.1 hy with e | e
      · rw [e]; exact hzx
      · exact leT_trans hzx (h1 y e)
theorem takeT_le (x : List UInt8) : ∀ (out : List (List UInt8)), ∀ y ∈ out.takeWhile (fun y => leT y x), leT y x = true
  | [], y, hy => by simp at hy
  | z :: r, y, hy => by
    rw [List.takeWhile_cons] at hy
    split at hy
    · rcases List.mem_cons.1 hy with e | e
      · rw [e]; assumption
      · exact takeT_le x r y e
    · simp at hy
theorem asc_insT {out : List (List UInt8)} (x : List UInt8) (h : AscT out) : AscT (insT out x) := by
  unfold insT AscT
  have e := List.takeWhile_append_dropWhile (p := fun y => leT y x) (l := out)
  have h' : (out.takeWhile (fun y => leT y x) ++ out.dropWhile (fun y => leT y x)).Pairwise fun x y => leT x y = true := by rw [e]; exact h
  obtain ⟨p1, p2, p3⟩ := List.pairwise_append.1 h'
  rw [List.pairwise_append]
  refine ⟨p1, List.pairwise_cons.2 ⟨dropT_gt x out h, p2⟩, fun a ha b hb => ?_⟩
  rcases List.mem_cons.1 hb with rfl | hb
  · exact takeT_le _ out a ha
  · exact p3 a ha b hb
theorem asc_srtT (L : List (List UInt8)) : AscT (srtT L) := by
  have key : ∀ (L out : List (List UInt8)), AscT out → AscT (L.foldl insT out) := by
    intro L
    induction L with
    | nil => intro out h; exact h
    | cons a r ih => intro out h; exact ih _ (asc_insT a h)
  exact key L [] List.Pairwise.nil
theorem srtT_uniq {L M : List (List UInt8)} (hM : AscT M) (h : M.Perm L) : M = srtT L := ascT_uniq _ _ hM (asc_srtT L) (h.trans (srtT_perm L).symm)
theorem srtT_snoc (L : List (List UInt8)) (x : List UInt8) : srtT (L ++ [x]) = insT (srtT L) x := by unfold srtT; rw [List.foldl_append]; rfl
theorem srtT_len (L : List (List UInt8)) : (srtT L).length = L.length := (srtT_perm L).length_eq
theorem merge_srtT (L : List (List UInt8)) : (L.mergeSort fun x y => decide (x ≤ y)) = srtT L := by
  have hle : ∀ x y : List UInt8, decide (x ≤ y) = leT x y := by
    intro x y
    unfold leT
    cases hl : lessL y x with
    | false => exact decide_eq_true (fun h => by rw [less_lt.2 h] at hl; cases hl)
    | true => exact decide_eq_false (fun h => h (less_lt.1 hl))
  have hf : (fun x y : List UInt8 => decide (x ≤ y)) = leT := funext fun x => funext fun y => hle x y
  rw [hf]
  refine srtT_uniq ?_ (List.mergeSort_perm _ _)
  exact List.pairwise_mergeSort (le := leT) (fun a b c h1 h2 => leT_trans h1 h2) (fun a b => by rw [Bool.or_eq_true]; exact leT_total a b) L

/-! ### texts of branches -/
def txt (E : Edges) : Nat → Nat → Int → List UInt8
  | 0, _, _ => []
  | d + 1, v, fr => 40 :: ((srtT ((away E v fr).map fun x => txt E d x v)).flatten ++ [41])
theorem txt_len {E : Edges} : ∀ (d v : Nat) (fr : Int), (txt E d v fr).length = 2 * (nds E d v fr).length := by
  intro d
  induction d with
  | zero => intro v fr; rfl
  | succ d ih =>
    intro v fr
    rw [txt, nds, List.length_cons, List.length_append, List.length_cons, List.length_flatten, ((srtT_perm _).map List.length).sum_nat, List.length_cons (as := List.flatMap _ _), List.length_flatMap, List.map_map]
    have : ((away E v fr).map (List.length ∘ fun x => txt E d x v)).sum = 2 * ((away E v fr).map fun x => (nds E d x v).length).sum := by
      induction away E v fr with
      | nil => rfl
      | cons a r ihr =>
        simp only [List.map_cons, List.sum_cons, Function.comp_apply] at ihr ⊢
        rw [ih a v, ihr]; omega
    rw [this]; simp; omega
theorem txt_more {E : Edges} : ∀ (d v : Nat) (fr : Int), Brn E d v fr → txt E (d + 1) v fr = txt E d v fr := by
  intro d
  induction d with
  | zero => intro v fr h; exact h.elim
  | succ d ih =>
    intro v fr h
    rw [txt, txt, List.map_congr_left fun x hx => ih x v (h x hx)]
/-- the least of texts -/
def minT (x y : List UInt8) : List UInt8 := if lessL y x then y else x
def freeT (n : Nat) (E : Edges) : List UInt8 := match (cents n E).map fun c => txt E 14 c (-1) with
  | [] => []
  | x :: r => r.foldl minT x

/-! ### maps -/
def prt (E : Edges) (b : Nat × Int) : List (Nat × Int) := (away E b.1 b.2).map fun x => (x, (b.1 : Int))
def cm (E : Edges) : Nat → List (Nat × Int) → Nat
  | 0, _ => 1
  | d + 1, L => (L.foldl (fun (st : Nat × List (List UInt8)) b => (st.1 * (((st.2.count (txt E d b.1 b.2)) + 1) * cm E d (prt E b)), st.2 ++ [txt E d b.1 b.2])) (1, [])).1
def cms (E : Edges) (d : Nat) (L : List (Nat × Int)) (k : Nat) : Nat := ((L.take k).foldl (fun (st : Nat × List (List UInt8)) b => (st.1 * (((st.2.count (txt E d b.1 b.2)) + 1) * cm E d (prt E b)), st.2 ++ [txt E d b.1 b.2])) (1, [])).1
def txts (E : Edges) (d : Nat) (L : List (Nat × Int)) : List (List UInt8) := L.map fun b => txt E d b.1 b.2
theorem cm_texts (E : Edges) (d : Nat) (L : List (Nat × Int)) : ∀ (st : Nat × List (List UInt8)), (L.foldl (fun (st : Nat × List (List UInt8)) b => (st.1 * (((st.2.count (txt E d b.1 b.2)) + 1) * cm E d (prt E b)), st.2 ++ [txt E d b.1 b.2])) st).2 = st.2 ++ txts E d L := by
  induction L with
  | nil => intro st; simp [txts]
  | cons a r ih => intro st; rw [List.foldl_cons, ih]; simp [txts]
theorem cms_next (E : Edges) (d : Nat) (L : List (Nat × Int)) {k : Nat} (hk : k < L.length) : cms E d L (k + 1) = cms E d L k * (((txts E d (L.take k)).count (txt E d L[k].1 L[k].2) + 1) * cm E d (prt E L[k])) := by
  unfold cms
  rw [List.take_succ_eq_append_getElem hk, List.foldl_append, List.foldl_cons, List.foldl_nil]
  simp only
  rw [cm_texts]; rfl
theorem cms_all (E : Edges) (d : Nat) (L : List (Nat × Int)) : cms E d L L.length = cm E (d + 1) L := by
  unfold cms; rw [List.take_length]; rfl
/-- in how many ways a tree goes to itself -/
def mapsN (n : Nat) (E : Edges) : Nat := match cents n E with
  | [a] => cm E 14 (prt E (a, -1))
  | [a, b] => cm E 15 [(a, (b : Int)), (b, (a : Int))]
  | _ => 1
end Go.Proofs.Ytmoelhaobnloaaa
