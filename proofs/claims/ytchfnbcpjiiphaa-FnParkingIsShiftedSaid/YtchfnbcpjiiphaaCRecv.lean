/-
  The receiver of cars: each wish that comes is given its place, till the channel is found closed.
-/
import Derived.Test.YtchfnbcpjiiphaaCSend
import Derived.Test.YtchfnbcpjiiphaaGSpawn
namespace Go.Proofs.Ytchfnbcpjiiphaa
open Go Go.Conc Go.RowKit

theorem Try.infoIntK : (Try.prog.info? 3).map (fun i => (i.zero, i.size, i.bytes)) = some (some (.int .i64 0), 1, 8) := by kernel_rfl
theorem Try.infoBoolK : (Try.prog.info? 4).map (fun i => (i.zero, i.size, i.bytes)) = some (some (.bool false), 1, 1) := by kernel_rfl
def bP : Frame := Conc.base 11
noncomputable def bodyP : Code := Try.f11.body.getD .skip
/-- what is left behind the first statements -/
noncomputable def tail4 : Code := match bodyP with | .seq _ (.seq _ (.seq _ r)) => r | _ => .skip
noncomputable def ops4P : Array Oper := match tail4 with | .seq (.region _ ops _) _ => ops | _ => #[]
noncomputable def tail5 : Code := match tail4 with | .seq _ r => r | _ => .skip
noncomputable def loopP : Code := match tail5 with | .seq _ (.seq _ (.seq (.seq _ (.block _ (.loop c))) _)) => c | _ => .skip
noncomputable def tailR : Code := match tail5 with | .seq _ (.seq _ (.seq _ r)) => r | _ => .skip
noncomputable def ops8P : Array Oper := match loopP with | .seq (.region _ ops _) _ => ops | _ => #[]
noncomputable def loopB : Code := match loopP with | .seq _ r => r | _ => .skip
noncomputable def ops10P : Array Oper := match loopB with | .seq _ (.block _ (.seq _ (.region _ ops _))) => ops | _ => #[]
/-- what goroutine 0 knows right behind the go statement -/
structure RG (c : Nat) (w0 w : World) : Prop where
  size : w.heap.size = c + 1
  below : BelowX c w0 w
theorem RG.aside {c : Nat} {w0 w w₁ : World} (h : RG c w0 w) (ha : Aside c w w₁) : RG c w0 w₁ :=
  ⟨ha.size.trans h.size, h.below.trans ⟨ha.os, ha.output, by rw [ha.size]; exact Nat.le_refl _, fun k hk => ha.block k (by omega)⟩⟩
theorem RG.made {c n : Nat} {w0 w : World} (h : RG c w0 w) : RF c w0 (emptyT n) (.slice none 0 0) [] (w.alloc (.cells (madeCells #[.bool false] n) 4)) := by
  refine ⟨?_, World.ownsRow_nil _ _ _ _, h.below.trans (below_x ((Below.refl _ w).alloc (by rw [h.size]; omega) _)), fun _ => rfl⟩
  have e : (madeCells #[Value.bool false] n) = (bv (emptyT n)).toArray := by
    apply Array.ext'
    simp only [madeCells, bv, emptyT, Array.toList_map, Array.toList_range, List.map_replicate]
    refine List.ext_getElem (by simp) fun i h1 h2 => ?_
    simp [Nat.mod_one]
  rw [e, ← h.size]
  exact heap_alloc_new w _
theorem DA_down {c : Nat} {S : World → Prop} (hS : LowS c S) {w w' : World} {es : Array Event} (h : Below (c + 1) w w') (he : ∀ e ∈ es, EvA (MineP c) e) : DA c S (MineP c) w w' es :=
  ⟨fun hs => hS w w' (fun k hk => h.block k (by omega)) hs, h.block c (by omega), he⟩
theorem evA_readR {c : Nat} (l : Loc) (s : Bool) (h : ∀ m, l = .mark m → Neutral m) : EvA (MineP c) ⟨l, false, s⟩ := ⟨h, fun h => by cases h⟩
section
variable (c : Nat) (v : Value) (n : Nat) (cs : List Frame)
/-- at the receive (rest = [0, 1]); behind it (rest = [1]) -/
noncomputable def atRecvP (out : Value) (u1 u6 u7 u8 u9 u10 u11 u12 u13 u14 u15 u17 u18 u19 u20 u21 u22 u23 u24 u25 u26 : Value) (rest : List Nat) : Goroutine :=
  G (bP.at ⟨#[v, u1, (.slice none 0 0), (.chan (some c)), (.slice (some ⟨c + 1, 0, none⟩) n n), out, u6, u7, u8, u9, u10, u11, u12, u13, u14, u15, (.chan (some c)), u17, u18, u19, u20, u21, u22, u23, u24, u25, u26], []⟩ (.inRegion ops8P rest :: .code loopB :: .inLoop loopP :: .inBlock 0 :: .code tailR :: [])) cs
/-- at the call of park (rest = [3, 4, 5, 6]); behind it (rest = [4, 5, 6]) -/
noncomputable def atParkP (out : Value) (x : Int) (u1 u7 u8 u9 u10 u11 u12 u13 u14 u15 u17 u18 u19 u23 u24 u25 u26 : Value) (rest : List Nat) : Goroutine :=
  G (bP.at ⟨#[v, u1, (.slice none 0 0), (.chan (some c)), (.slice (some ⟨c + 1, 0, none⟩) n n), out, (.int .i64 x), u7, u8, u9, u10, u11, u12, u13, u14, u15, (.chan (some c)), u17, u18, u19, out, (.slice (some ⟨c + 1, 0, none⟩) n n), (.int .i64 x), u23, u24, u25, u26], []⟩ (.inRegion ops10P rest :: .inBlock 1 :: .inLoop loopP :: .inBlock 0 :: .code tailR :: [])) cs
end
theorem RF.alloc {c : Nat} {w0 : World} {T : List Bool} {out : Value} {L : List Int} {w : World} (h : RF c w0 T out L w) (o : Obj) : RF c w0 T out L (w.alloc o) :=
  ⟨by rw [Below.heap_alloc _ _ _ (by have := h.size; omega)]; exact h.taken, h.own.alloc o, h.below.trans (below_x ((Below.refl c w).alloc (by have := h.size; omega) o)), h.nil0⟩
theorem RF.grown {c : Nat} {w0 : World} {T : List Bool} {out out' : Value} {L L' : List Int} {w w' : World} (h : RF c w0 T out L w) (hg : w.grownBy w' out.ownBlock) (ho : w'.ownsRow (c + 2) 3 1 out' (L ++ L').length (iv (L ++ L'))) (hn : L' ≠ []) : RF c w0 T out' (L ++ L') w' := by
  refine ⟨?_, ho, h.below.trans (below_x ((Below.refl c w).grown hg (by have := h.size; omega) (fun k hk => by have := (h.own.lt k hk).1; omega))), fun e => absurd (List.append_eq_nil_iff.1 e).2 hn⟩
  rw [hg.block (c + 1) (by have := h.size; omega) (fun e => by have := (h.own.lt _ e.symm).1; omega)]
  exact h.taken
section
variable {c : Nat} {S : World → Prop} {v : Value} {n : Nat} {cs : List Frame} {w0 : World}
local notation "GA" => Goes Try.prog true (Aside c) (DA c S (MineP c))

set_option maxRecDepth 100000 in
set_option maxHeartbeats 1600000 in
/-- from behind the go statement to the first receive -/
theorem seg_r1 (Stop : Goroutine → World → Prop) (n₀ : Nat) (hS : LowS c S) (hn : n ≤ 1048576) (a0 : Option Addr) (cap : Nat) (hv : v = .slice a0 n cap) (u1 u6 u7 u8 u9 u10 u11 u12 u13 u14 u15 u17 u18 u19 u20 u21 u22 u23 u24 u25 u26 u4 u5 u16 : Value) (w : World) (hF : RG c w0 w)
    (next : ∀ (u1 u6 u7 u8 u9 u10 u11 u12 u13 u14 u15 u17 u18 u19 u20 u21 u22 u23 u24 u25 u26 : Value) w', RF c w0 (emptyT n) (.slice none 0 0) [] w' → GA Stop n₀ (atRecvP c v n cs (.slice none 0 0) u1 u6 u7 u8 u9 u10 u11 u12 u13 u14 u15 u17 u18 u19 u20 u21 u22 u23 u24 u25 u26 [0, 1]) w') :
    GA Stop (n₀ + 23) (G (bP.at ⟨#[v, u1, (.slice none 0 0), (.chan (some c)), u4, u5, u6, u7, u8, u9, u10, u11, u12, u13, u14, u15, u16, u17, u18, u19, u20, u21, u22, u23, u24, u25, u26], []⟩ (.inRegion ops4P [] :: .code tail5 :: [])) cs) w := by
  subst hv
  obtain ⟨i0, hi, hz0, hz1, hz2⟩ := info_parts Try.infoBoolK
  have hmk := fun w => run_make (P := Try.prog) w 39 4 i0 (.bool false) Try.underlying39 hi hz0 .i64 .i64 n n (by omega) (by omega) (by rw [hz2]; omega) (by omega)
  have hme := fun w es => events_make (P := Try.prog) w 39 4 i0 (.bool false) Try.underlying39 hi hz0 .i64 .i64 n n (by omega) (by omega) (by rw [hz2]; omega) (by omega) (by rw [hz2]; omega) es
  simp only [Int.toNat_natCast, hz1, Nat.mul_one] at hmk
  have hcells : (Value.bool false).cells = #[.bool false] := rfl
  rw [hcells] at hmk
  simp only [atRecvP, ops8P, loopB, loopP, tailR, ops4P, tail5, tail4, bodyP, Try.f11, Option.getD_some] at next ⊢
  repeat (first | a_ctl hF RG.aside (DA_down hS (Below.refl _ _) (by simp)) | a_op hF RG.aside [] (DA_down hS (Below.refl _ _)) (evA_readR _ _ (by simp)))
  refine Goes.step rfl (fun w₁ h₁ => ?_)
  replace hF := hF.aside h₁
  clear h₁
  have hm1 := hmk w₁
  have he1 := hme w₁
  refine goes_oper_k rfl rfl (by decide) (fun K hK => ?_)
  go_simp
  refine hK _ _ ⟨DA_down hS ((Below.refl _ _).alloc (by rw [hF.size]; exact Nat.le_refl _) _) (fun e he => ?_), ?_⟩
  · have hm := mem_listed he
    simp [go_sem, he1] at hm
  clear hK K hm1 he1 hmk hme
  rw [hF.size]
  have hG : RF c w0 (emptyT n) (.slice none 0 0) [] (w₁.alloc (.cells (madeCells #[.bool false] n) 4)) := hF.made
  generalize w₁.alloc (.cells (madeCells #[.bool false] n) 4) = w₂ at hG ⊢
  clear hF
  repeat (first | a_ctl hG RF.aside (DA_down hS (Below.refl _ _) (by simp)) | a_op hG RF.aside [] (DA_down hS (Below.refl _ _)) (evA_readR _ _ (by simp)))
  exact Goes.mono (n := n₀) (next _ _ _ _ _ _ _ _ _ _ _ _ _ _ _ _ _ _ _ _ _ _ hG) (by omega)

set_option maxRecDepth 100000 in
set_option maxHeartbeats 1600000 in
/-- from behind the receive of a wish to the call of park -/
theorem seg_r2 (Stop : Goroutine → World → Prop) (n₀ : Nat) (hS : LowS c S) (T : List Bool) (out : Value) (L : List Int) (x : Int) (u1 u6 u7 u8 u9 u10 u11 u12 u13 u14 u15 u18 u19 u20 u21 u22 u23 u24 u25 u26 : Value) (w : World) (hG : RF c w0 T out L w)
    (next : ∀ (u1 u7 u8 u9 u10 u11 u12 u13 u14 u15 u17 u18 u19 u23 u24 u25 u26 : Value) w', RF c w0 T out L w' → GA Stop n₀ (atParkP c v n cs out x u1 u7 u8 u9 u10 u11 u12 u13 u14 u15 u17 u18 u19 u23 u24 u25 u26 [3, 4, 5, 6]) w') :
    GA Stop (n₀ + 20) (atRecvP c v n cs out u1 u6 u7 u8 u9 u10 u11 u12 u13 u14 u15 (.tuple #[.int .i64 x, .bool true]) u18 u19 u20 u21 u22 u23 u24 u25 u26 [1]) w := by
  simp only [atRecvP, atParkP, ops8P, ops10P, loopB, loopP, tailR, tail5, tail4, bodyP, Try.f11, Option.getD_some] at next ⊢
  repeat (first | a_ctl hG RF.aside (DA_down hS (Below.refl _ _) (by simp)) | a_op hG RF.aside [] (DA_down hS (Below.refl _ _)) (evA_readR _ _ (by simp)))
  a_cond true hG RF.aside (DA_down hS (Below.refl _ _) (by simp))
  repeat (first | a_ctl hG RF.aside (DA_down hS (Below.refl _ _) (by simp)) | a_op hG RF.aside [] (DA_down hS (Below.refl _ _)) (evA_readR _ _ (by simp)))
  exact Goes.mono (n := n₀) (next _ _ _ _ _ _ _ _ _ _ _ _ _ _ _ _ _ _ hG) (by omega)

set_option maxRecDepth 100000 in
set_option maxHeartbeats 1600000 in
/-- from behind the call of park to the next receive -/
theorem seg_r3 (Stop : Goroutine → World → Prop) (n₀ : Nat) (hS : LowS c S) (T : List Bool) (out : Value) (L : List Int) (x y : Int) (hL : L.length + 1 ≤ 1048577) (u1 u7 u8 u9 u10 u11 u12 u13 u14 u15 u17 u18 u19 u24 u25 u26 : Value) (w : World) (hG : RF c w0 T out L w)
    (next : ∀ (out' : Value) (u1 u6 u7 u8 u9 u10 u11 u12 u13 u14 u15 u17 u18 u19 u20 u21 u22 u23 u24 u25 u26 : Value) w', RF c w0 T out' (L ++ [y]) w' → GA Stop n₀ (atRecvP c v n cs out' u1 u6 u7 u8 u9 u10 u11 u12 u13 u14 u15 u17 u18 u19 u20 u21 u22 u23 u24 u25 u26 [0, 1]) w') :
    GA Stop (n₀ + 20) (atParkP c v n cs out x u1 u7 u8 u9 u10 u11 u12 u13 u14 u15 u17 u18 u19 (.int .i64 y) u24 u25 u26 [4, 5, 6]) w := by
  simp only [atRecvP, atParkP, ops8P, ops10P, loopB, loopP, tailR, tail5, tail4, bodyP, Try.f11, Option.getD_some] at next ⊢
  -- buildSlice: a new block of one cell
  refine Goes.step rfl (fun w₁ h₁ => ?_)
  replace hG := hG.aside h₁
  clear h₁
  refine goes_oper_k rfl rfl (by decide) (fun K hK => ?_)
  go_simp
  refine hK _ _ ⟨DA_down hS ((Below.refl _ _).alloc (by have := hG.size; omega) _) (fun e he => ?_), ?_⟩
  · have hm := mem_listed he
    simp [go_sem] at hm
  clear hK K
  have hsz := hG.size
  have hnew : (w₁.alloc (.cells #[.int .i64 y] 3)).cell? ⟨w₁.heap.size, 0, none⟩ = some (.int .i64 y) := by
    rw [World.cell?_alloc_at _ _ _ _ rfl]; rfl
  replace hG := hG.alloc (.cells #[.int .i64 y] 3)
  -- append
  refine Goes.step rfl (fun w₂ h₂ => ?_)
  replace hG := hG.aside h₂
  replace hnew : w₂.cell? ⟨w₁.heap.size, 0, none⟩ = some (.int .i64 y) := (World.cell?_of_block (h₂.block _ (by simp; omega))).trans hnew
  clear h₂
  obtain ⟨i0, hi, hz0, hz1, hz2⟩ := info_parts Try.infoIntK
  have hnews : ∀ j u, [Value.int .i64 y][j]? = some u → w₂.cell? ((⟨w₁.heap.size, 0, none⟩ : Addr).add j) = some u := by
    intro j u hj
    match j, hj with
    | 0, hj => simp at hj; subst hj; simpa [Addr.add] using hnew
  have h1 : ∀ u ∈ [Value.int .i64 y], u.oneCell' = true := by intro u hu; simp at hu; subst hu; rfl
  have h63 : L.length + 1 ≤ maxLen := by simp only [maxLen]; omega
  have hlen : (L.length + 1) * 8 ≤ 140737488355328 := by omega
  have hivl : (iv L).length = L.length := iv_length L
  obtain ⟨out', w₃, hr, hown', hgrow, hnil⟩ := run_append_own (P := Try.prog) w₂ (c + 2) 23 23 3 i0 (.int .i64 0) 1 8 Try.underlying23 hi hz0 hz1 hz2 rfl (by decide) out L.length (iv L) hG.own ⟨w₁.heap.size, 0, none⟩ 1 1 [.int .i64 y] rfl hnews h1 h63 hlen hG.size
  have hevs := events_append_own (P := Try.prog) w₂ (c + 2) 23 23 3 i0 (.int .i64 0) 1 8 Try.underlying23 hi hz0 hz1 hz2 out L.length (iv L) hG.own ⟨w₁.heap.size, 0, none⟩ 1 1 [.int .i64 y] rfl hnews h1 h63 hlen
  refine goes_oper_k rfl rfl (by decide) (fun K hK => ?_)
  refine uponK_append (.tmp 20) (.tmp 24) 23 rfl rfl rfl hr (hK _ _ ⟨DA_down hS ((Below.refl _ _).grown hgrow (by have := hG.size; omega) (fun k hk => by have := (hG.own.lt k hk).1; omega)) (fun e he => ?_), ?_⟩)
  · have hm := mem_listed he
    rw [events_append_op (.tmp 20) (.tmp 24) 23 rfl rfl rfl] at hm
    rcases hevs e hm with ⟨ad, h2, h3⟩ | ⟨ad, h2, h3⟩ | ⟨m, rfl, hn⟩
    · exact ⟨fun m => by rw [h2]; simp, fun hw => by rw [h3] at hw; cases hw⟩
    · exact ⟨fun m => by rw [h2]; simp, fun _ => ⟨ad, h2, by have := (hG.own.lt _ h3.symm).1; omega⟩⟩
    · exact ⟨fun m' h' => (by cases h'; exact hn), fun hw => (by cases hw)⟩
  clear hK K
  replace hG : RF c w0 T out' (L ++ [y]) w₃ := hG.grown hgrow (by rw [← iv_snoc, List.length_append]; exact hown') (by simp)
  clear hr hown' hgrow hevs hnews hnew
  repeat (first | a_ctl hG RF.aside (DA_down hS (Below.refl _ _) (by simp)) | a_op hG RF.aside [] (DA_down hS (Below.refl _ _)) (evA_readR _ _ (by simp)))
  exact Goes.mono (n := n₀) (next out' _ _ _ _ _ _ _ _ _ _ _ _ _ _ _ _ _ _ _ _ _ _ hG) (by omega)
end
end Go.Proofs.Ytchfnbcpjiiphaa
