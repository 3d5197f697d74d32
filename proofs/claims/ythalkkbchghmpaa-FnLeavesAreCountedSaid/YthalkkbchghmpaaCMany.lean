/-
  The contract of the program's function that counts the words of so many pairs and so many leaves.
-/
import Derived.Test.YthalkkbchghmpaaCColl
import Derived.Test.YthalkkbchghmpaaCLeaves
import Derived.Test.YthalkkbchghmpaaCEven
import Derived.Test.YthalkkbchghmpaaWMany
import Derived.RangeFuncCalls
import Derived.RegionIn
import Derived.TacticsIn
namespace Go.Proofs.Ythalkkbchghmpaa
open Go.RowKit Go.Shelf

attribute [local go_sem] Oper.semAt_some

theorem many_cmp (k : Nat) (h : ByteArray) : decide (k < Lib.countB h ⟨#[40, 41]⟩) = many k h.data.toList := by
  rw [many, Bool.eq_iff_iff]
  simp [Lib.countB]

set_option maxHeartbeats 800000 in
theorem cutMany_any (B k : Nat) (h : ByteArray) (o l : Nat) (W : World) (hs : h.size ≤ 18) (hsh : W.ShapedOpen Try.prog) (hB : W.heap[B]? = some (.cells #[.int .i64 k] 3 (0, 0))) :
    Calls Try.prog 53 #[Beg h o l, .pointer (some ⟨B, 0, none⟩)] W fun e W' => e = .returned (.bool (many k h.data.toList)) ∧ Below W.heap.size W W' := by
  have hBW : B < W.heap.size := (Array.getElem?_eq_some_iff.1 hB).1
  obtain ⟨W1, hW1⟩ : ∃ W1, W1 = W.alloc (.cells #[.string h, .int .i64 o, .int .i64 l] 45) := ⟨_, rfl⟩
  have hb1 : W1.heap[B]? = some (.cells #[.int .i64 k] 3 (0, 0)) := by rw [hW1]; exact (Below.heap_alloc _ _ _ hBW).trans hB
  have hb2 : W1.heap[W.heap.size]? = some (.cells #[.string h, .int .i64 o, .int .i64 l] 45 (0, 0)) := by rw [hW1]; exact World.alloc_heap_new W _
  have hbl : Below W.heap.size W W1 := by rw [hW1]; exact (Below.refl _ W).alloc (Nat.le_refl _) _
  have c0 : W1.cell? ⟨B, 0, none⟩ = some (.int .i64 k) := cell_blk hb1 0
  have c1 : W1.cell? ⟨W.heap.size, 0, none⟩ = some (.string h) := cell_blk hb2 0
  have SH : ∀ q, (W1.drewN q).ShapedOpen Try.prog := fun q => shaped_below hsh (below_drewN hbl q)
  have HBL := Lib.hid hbl
  have SZ : h.size < 4294967281 := by omega
  have HM := Lib.hid (many_cmp k h)
  go_enter Try.func53, Try.ntmps53
  simp only [Beg]
  go_wp2_with fail
  rw [← hW1]
  clear hW1 hb1 hb2 hbl
  have SHd : W1.drew.ShapedOpen Try.prog := SH 1
  go_region_with (go_at_call 54; refine (Try.strings_Count_shaped _ _ _ SHd SZ (by decide)).mono ?_; rintro e w' ⟨rfl, rfl⟩)
  all_goals
    go_wp2
    (try go_bits)
    go_ret
    exact ⟨by rw [← HM.out]; rfl, HBL.out.drew⟩

/-- the count stands in its box -/
def cntV (k : Nat) (pre : List W18) : Value := .int .i64 (cntL k (vals pre) : Nat)
theorem cnt_next (k : Nat) (pre : List W18) (x : W18) : cntL k (vals (pre ++ [x])) = cntL k (vals pre) + (if leafOut x.1 = (k : Int) then 1 else 0) := by
  rw [vals_snoc, cntL_snoc]
  congr 1
  unfold leafOut
  cases hv : valid x.1
  · rw [if_neg (by simp), if_neg (show ¬ ((if false = true then (leavesL x.1 : Int) else -1) = (k : Int)) by rw [if_neg (by decide)]; omega)]
  · by_cases h : leavesL x.1 = k
    · rw [if_pos (by simp [h]), if_pos (by rw [if_pos rfl, h])]
    · rw [if_neg (by simp [h]), if_neg (by rw [if_pos rfl]; omega)]
theorem leafOut_bd (x : W18) : -1 ≤ leafOut x.1 ∧ leafOut x.1 ≤ 18 := by
  have := leavesL_le x.1
  have := x.2
  unfold leafOut
  split <;> omega

theorem boxed_keep {A B : World} {row : Option Nat} {b : Nat} {t : TypeId} {v : Value} (h : Boxed A b t v) (hg : A.grownBy B row) (hr : ∀ r, row = some r → ∃ o : Obj, A.heap[r]? = some o ∧ o.isCells = false) : Boxed B b t v :=
  Boxed.kept h hg (fun e => by
    obtain ⟨o, ho, hc⟩ := hr b e.symm
    rw [show A.heap[b]? = _ from h] at ho; cases ho; cases hc)

set_option maxRecDepth 100000 in
set_option maxHeartbeats 3200000 in
theorem implMany_in (n k : Nat) (hn : n ≤ 6) (hk : k ≤ 6) (w : World) (hsh : w.ShapedOpen Try.prog) :
    CallsIn Fence.wide 100 Try.prog 32 #[.int .i64 n, .int .i64 k] w fun e w' => e = .returned (.int .i64 (evL n k : Nat)) ∧ Below w.heap.size w w' := by
  have hall := many_all n hn k hk
  have hle : (gw (cutOf (many k)) (2 * n) () [] 0 n).1.length ≤ 4096 := Nat.le_trans (gw_le _ _ _ _ _) (Nat.pow_le_pow_right (by decide) (by omega : 2 * n ≤ 12))
  obtain ⟨L, hL⟩ : ∃ L, L = (gw (cutOf (many k)) (2 * n) () [] 0 n).1 := ⟨_, rfl⟩
  rw [← hL] at hall hle
  have HALL := Lib.hid hall
  have HL := Lib.hid hL
  have d1 : decide ((n : Int) < 0) = false := decide_eq_false (by omega)
  have d2 : decide (6 < (n : Int)) = false := decide_eq_false (by omega)
  have d3 : decide ((k : Int) < 0) = false := decide_eq_false (by omega)
  have d4 : decide (6 < (k : Int)) = false := decide_eq_false (by omega)
  have hmx : Try.prog.follows .mixedOrders = true := by kernel_rfl
  clear hall hL
  refine callsIn_of_wp_marks Try.func32 rfl trivial ?_ rfl
  simp only [Try.ntmps32, List.size_toArray, List.length_cons, List.length_nil, Nat.reduceAdd, Nat.reduceSub, Array.replicate_succ, Array.replicate_zero, List.push_toArray, List.append_toArray, List.nil_append, List.cons_append]
  gi_wp2_with fail
  refine ⟨trivial, ?_⟩
  refine (wordsBut_any Fence.wide 99 trivial rfl _ _ _ _).mono ?_
  rintro e w2 ⟨rfl, rfl⟩
  gi_wp2_with fail
  have bK : Boxed ((((w.alloc (.cells #[.int .i64 k] 3)).alloc (.cells #[.int .i64 0] 3)).alloc (.cells #[.int .i64 n] 3)).alloc (.cells #[.func (.func 53) #[] #[.pointer (some ⟨w.heap.size, 0, none⟩)]] 46)) w.heap.size 3 (.int .i64 k) := (((Boxed.new w 3 (.int .i64 k)).alloc _).alloc _).alloc _
  have bC : Boxed ((((w.alloc (.cells #[.int .i64 k] 3)).alloc (.cells #[.int .i64 0] 3)).alloc (.cells #[.int .i64 n] 3)).alloc (.cells #[.func (.func 53) #[] #[.pointer (some ⟨w.heap.size, 0, none⟩)]] 46)) (w.heap.size + 1) 3 (.int .i64 0) := by
    have := ((Boxed.new (w.alloc (.cells #[.int .i64 k] 3)) 3 (.int .i64 0)).alloc (.cells #[.int .i64 n] 3)).alloc (.cells #[.func (.func 53) #[] #[.pointer (some ⟨w.heap.size, 0, none⟩)]] 46)
    rwa [World.size_alloc] at this
  have bN : Boxed ((((w.alloc (.cells #[.int .i64 k] 3)).alloc (.cells #[.int .i64 0] 3)).alloc (.cells #[.int .i64 n] 3)).alloc (.cells #[.func (.func 53) #[] #[.pointer (some ⟨w.heap.size, 0, none⟩)]] 46)) (w.heap.size + 1 + 1) 3 (.int .i64 n) := by
    have := (Boxed.new ((w.alloc (.cells #[.int .i64 k] 3)).alloc (.cells #[.int .i64 0] 3)) 3 (.int .i64 n)).alloc (.cells #[.func (.func 53) #[] #[.pointer (some ⟨w.heap.size, 0, none⟩)]] 46)
    rwa [World.size_alloc, World.size_alloc] at this
  have bF : Boxed ((((w.alloc (.cells #[.int .i64 k] 3)).alloc (.cells #[.int .i64 0] 3)).alloc (.cells #[.int .i64 n] 3)).alloc (.cells #[.func (.func 53) #[] #[.pointer (some ⟨w.heap.size, 0, none⟩)]] 46)) (w.heap.size + 1 + 1 + 1) 46 (.func (.func 53) #[] #[.pointer (some ⟨w.heap.size, 0, none⟩)]) := by
    have := Boxed.new (((w.alloc (.cells #[.int .i64 k] 3)).alloc (.cells #[.int .i64 0] 3)).alloc (.cells #[.int .i64 n] 3)) 46 (.func (.func 53) #[] #[.pointer (some ⟨w.heap.size, 0, none⟩)])
    rwa [World.size_alloc, World.size_alloc, World.size_alloc] at this
  have bl : Below w.heap.size w ((((w.alloc (.cells #[.int .i64 k] 3)).alloc (.cells #[.int .i64 0] 3)).alloc (.cells #[.int .i64 n] 3)).alloc (.cells #[.func (.func 53) #[] #[.pointer (some ⟨w.heap.size, 0, none⟩)]] 46)) :=
    ((((Below.refl _ w).alloc (Nat.le_refl _) _).alloc (by simp) _).alloc (by simp; omega) _).alloc (by simp; omega) _
  have hsz : w.heap.size + 4 = ((((w.alloc (.cells #[.int .i64 k] 3)).alloc (.cells #[.int .i64 0] 3)).alloc (.cells #[.int .i64 n] 3)).alloc (.cells #[.func (.func 53) #[] #[.pointer (some ⟨w.heap.size, 0, none⟩)]] 46)).heap.size := by simp
  obtain ⟨W, hW⟩ : ∃ W, W = ((((w.alloc (.cells #[.int .i64 k] 3)).alloc (.cells #[.int .i64 0] 3)).alloc (.cells #[.int .i64 n] 3)).alloc (.cells #[.func (.func 53) #[] #[.pointer (some ⟨w.heap.size, 0, none⟩)]] 46)) := ⟨_, rfl⟩
  rw [← hW] at bK bC bN bF bl hsz ⊢
  clear hW
  have HSZ := Lib.hid hsz
  clear hsz
  refine wpIn_rangeFunc_ownG rfl (by omega) (gf := 57) (lb := #[.pointer (some ⟨w.heap.size + 1 + 1, 0, none⟩), .pointer (some ⟨w.heap.size + 1 + 1 + 1, 0, none⟩)]) rfl trivial (enters_of Try.func57 (by kernel_rfl) rfl)
    (words_stops Fence.wide rfl rfl trivial trivial (many k) 53 #[.pointer (some ⟨w.heap.size, 0, none⟩)] trivial (enters_of Try.func53 (by kernel_rfl) rfl) n (by omega) (w.heap.size + 1) W (by rw [← HSZ.out]; omega)
      (fun m h o l W3 hz hb => callsIn_wide.2 (cutMany_any w.heap.size k h o l W3 (by omega) (shaped_below hsh (bl.trans (hb.mono (by omega)))) ((hb.block w.heap.size (by omega)).trans bK))) 99 (w.heap.size + 1 + 1) (w.heap.size + 1 + 1 + 1) bN.cell bF.cell)
    Kept.trans (Kept.put (by rw [← HSZ.out]; omega)) (Below.refl _ _) (fun _ => rfl)
    (fun pre W' => (Boxed W' (w.heap.size + 1) 3 (cntV k pre) ∧ Boxed W' w.heap.size 3 (.int .i64 k)) ∧ Below w.heap.size w W')
    (fun _ _ _ => False)
    (OwnFrom.and (Own.from (fun s A B row hs hg hr => ⟨boxed_keep hs.1 hg hr, boxed_keep hs.2 hg hr⟩) _) (ownFrom_below (Nat.le_refl _) (by rw [← HSZ.out]; omega)))
    (fun _ _ _ _ _ hs _ _ => hs)
    ⟨⟨bC, bK⟩, bl⟩ ?a1 ?assign ?body ?done ?stop
  case assign =>
    intro l x W1 K hK
    gi_wp2
    exact hK
  case body =>
    rintro l pre x W1 ⟨⟨hc, hk1⟩, hB⟩ hlt
    have hcc := hc.cell
    have hfc := hc.frozen
    have hkc := hk1.cell
    have hnext := cnt_next k pre x
    have hbd := leafOut_bd x
    have hX : cntL k (vals pre) ≤ 4096 := by
      have h1 := cntL_le k (vals pre)
      rw [vals_length] at h1
      have h2 : pre.length < L.length := by rw [HL.out]; exact hlt
      omega
    have LV : ∀ W', Below w.heap.size w W' → Calls Try.prog 34 #[.string ⟨x.1.toArray⟩] W' fun e w' => e = .returned (.int .i64 (leafOut x.1)) ∧ Below W'.heap.size W' w' := fun W' hb =>
      implLeaves_any ⟨x.1.toArray⟩ W' (by have := x.2; show x.1.toArray.size ≤ maxLen; rw [List.size_toArray]; unfold maxLen; omega) (shaped_below hsh hb)
    obtain ⟨LO, hLO⟩ : ∃ LO, LO = leafOut x.1 := ⟨_, rfl⟩
    unfold cntV at hc hcc ⊢
    obtain ⟨X, hXe⟩ : ∃ X, X = cntL k (vals pre) := ⟨_, rfl⟩
    rw [← hLO] at hnext hbd LV
    rw [← hXe] at hnext hX hc hcc
    have LV' := Lib.hid (LV W1.drew hB.drew)
    have hdr : 1 ≤ 100 - 1 - 1 := by omega
    have HN := Lib.hid hnext
    have hw1 := hk1.lt
    have hw2 := hc.lt
    have HB := Lib.hid hB
    clear LV hLO hXe hnext hlt HALL HL bK bC bN bF bl hB
    by_cases hx : LO = (k : Int)
    · have hq : (LO == (k : Int)) = true := by rw [hx]; simp
      have hv : (((cntL k (vals (pre ++ [x])) : Nat) : Int)) = (X : Int) + 1 := by rw [HN.out, if_pos hx]; omega
      have HV := Lib.hid hv
      clear HN hx hv
      gi_wp2_with fail
      gi_region_with_o (refine ⟨trivial, ?_⟩; gi_at_call 34; refine (CallsIn.inRound l (callsIn_wide.2 LV'.out)).mono ?_; rintro e w' ⟨rfl, hb'⟩; have g1 : Boxed w' (w.heap.size + 1) 3 (.int .i64 X) := (hb'.block _ hw2).trans hc; have g2 : Boxed w' w.heap.size 3 (.int .i64 k) := (hb'.block _ hw1).trans hk1; have gc := g1.cell; have gf := g1.frozen; have gk := g2.cell; have HB' := Lib.hid hb'; clear hb')
      all_goals gi_wp2
      all_goals (try go_bits)
      all_goals
        refine ⟨(((KeepsOthers.drew W1).trans (KeepsOthers.of_grownBy (below_grown_none HB'.out) (fun j o e => by cases e))).trans (KeepsOthers.setCell _ _ _)).from _, ⟨?_, ?_⟩, ⟨?_, ?_⟩, ?_⟩
        · exact ((Below.refl _ W1).drew.trans (HB'.out.mono (show w.heap.size + 1 ≤ W1.heap.size by omega))).setCell (p := ⟨w.heap.size + 1, 0, none⟩) (Nat.le_refl _) _
        · intro j vs r e
          have e1 := (HB'.out.block j (Array.getElem?_eq_some_iff.1 e).1).trans e
          have hne : j ≠ w.heap.size + 1 := fun ej => by subst ej; rw [show w'.heap[w.heap.size + 1]? = _ from g1] at e1; cases e1
          exact ((grownBy_setCell' w' (w.heap.size + 1) _).block j (Array.getElem?_eq_some_iff.1 e1).1 (by simpa using hne)).trans e1
        · rw [HV.out]; exact Boxed.set _ g1
        · exact Boxed.kept g2 (grownBy_setCell' w' (w.heap.size + 1) _) (by simp)
        · exact (HB.out.drew.trans (HB'.out.mono (show w.heap.size ≤ W1.heap.size by omega))).setCell (p := ⟨w.heap.size + 1, 0, none⟩) (by show _ ≤ w.heap.size + 1; omega) _
    · have hq : (LO == (k : Int)) = false := beq_false_of_ne hx
      have hv : cntL k (vals (pre ++ [x])) = X := by rw [HN.out, if_neg hx]; omega
      have HV := Lib.hid hv
      clear HN hx hv
      gi_wp2_with fail
      gi_region_with_o (refine ⟨trivial, ?_⟩; gi_at_call 34; refine (CallsIn.inRound l (callsIn_wide.2 LV'.out)).mono ?_; rintro e w' ⟨rfl, hb'⟩; have g1 : Boxed w' (w.heap.size + 1) 3 (.int .i64 X) := (hb'.block _ hw2).trans hc; have g2 : Boxed w' w.heap.size 3 (.int .i64 k) := (hb'.block _ hw1).trans hk1; have gc := g1.cell; have gf := g1.frozen; have gk := g2.cell; have HB' := Lib.hid hb'; clear hb')
      all_goals gi_wp2
      all_goals (try go_bits)
      all_goals
        refine ⟨((KeepsOthers.drew W1).trans (KeepsOthers.of_grownBy (below_grown_none HB'.out) (fun j o e => by cases e))).from _, ⟨?_, ?_⟩, ⟨?_, g2⟩, ?_⟩
        · exact (Below.refl _ W1).drew.trans (HB'.out.mono (show w.heap.size + 1 ≤ W1.heap.size by omega))
        · intro j vs r e
          exact (HB'.out.block j (Array.getElem?_eq_some_iff.1 e).1).trans e
        · rw [HV.out]; exact g1
        · exact HB.out.drew.trans (HB'.out.mono (show w.heap.size ≤ W1.heap.size by omega))
  case done =>
    rintro D ys W1 hD hys ⟨⟨hc, hk1⟩, hB⟩ hK
    have hcc := hc.cell
    have e : cntV k ys = .int .i64 (evL n k : Nat) := by rw [cntV, hys, ← HL.out, HALL.out]
    rw [e] at hcc
    gi_wp2
    refine ⟨by simp, .inl ⟨_, _, rfl, run_takeDeferred hK, ?_⟩⟩
    exact ⟨_, results_tmp rfl _ _ _, rfl, hB.trans (belowK_b (w := W) (by rw [← HSZ.out]; omega) W1 D _ _ hD hK rfl rfl)⟩
  case stop =>
    rintro D c pre W1 _ _ h _
    exact h.elim

theorem evL_ev (n k : Nat) : evL n k = ev n k := rfl

theorem implMany_any (n k : Int) (w : World) (hsh : w.ShapedOpen Try.prog) :
    Calls Try.prog 32 #[.int .i64 n, .int .i64 k] w fun e w' => e = .returned (.int .i64 (evOut n k)) ∧ Below w.heap.size w w' := by
  by_cases h : (0 ≤ n ∧ n ≤ 6) ∧ 0 ≤ k ∧ k ≤ 6
  · obtain ⟨a, rfl⟩ : ∃ a : Nat, n = a := ⟨n.toNat, by omega⟩
    obtain ⟨b, rfl⟩ : ∃ b : Nat, k = b := ⟨k.toNat, by omega⟩
    rw [evOut_in a b (by omega) (by omega), ← evL_ev]
    exact callsIn_wide.1 (implMany_in a b (by omega) (by omega) w hsh)
  · have e : evOut n k = -1 := by unfold evOut; rw [if_neg h]
    rw [e]
    have hbl : Below w.heap.size w (w.alloc (.cells #[.int .i64 k] 3)) := (Below.refl _ w).alloc (Nat.le_refl _) _
    have HBL := Lib.hid hbl
    clear e hbl hsh
    by_cases h1 : n < 0
    · have d1 : decide (n < 0) = true := decide_eq_true h1
      clear h
      go_enter Try.func32, Try.ntmps32
      go_wp2
      go_ret
      exact ⟨rfl, HBL.out⟩
    · have d1 : decide (n < 0) = false := decide_eq_false h1
      by_cases h2 : 6 < n
      · have d2 : decide (6 < n) = true := decide_eq_true h2
        clear h h1
        go_enter Try.func32, Try.ntmps32
        go_wp2
        go_ret
        exact ⟨rfl, HBL.out⟩
      · have d2 : decide (6 < n) = false := decide_eq_false h2
        by_cases h3 : k < 0
        · have d3 : decide (k < 0) = true := decide_eq_true h3
          clear h h1 h2
          go_enter Try.func32, Try.ntmps32
          go_wp2
          go_ret
          exact ⟨rfl, HBL.out⟩
        · have d3 : decide (k < 0) = false := decide_eq_false h3
          have d4 : 6 < k := by omega
          clear h h1 h2 h3
          go_enter Try.func32, Try.ntmps32
          go_wp2
          go_ret
          exact ⟨rfl, HBL.out⟩
end Go.Proofs.Ythalkkbchghmpaa
