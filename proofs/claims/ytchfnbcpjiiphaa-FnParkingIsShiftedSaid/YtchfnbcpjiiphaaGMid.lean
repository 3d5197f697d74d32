/-
  The trace between the go statement and the channel found closed: one sender beside goroutine 0; all else leaves.
-/
import Derived.Conc.Beside
namespace Go.Proofs.Ytchfnbcpjiiphaa
open Go Go.Conc

/-- what may be done meanwhile: goroutine 0 writes only what is its own; the sender writes nothing and touches nothing of that; the others touch nothing -/
def Meanwhile (Mine : Loc → Prop) (j : Nat) (op : MemOp) : Prop :=
  (op.g = 0 ∧ ∀ x, op.act.touch? = some x → x.write = true → Mine x.loc) ∨ (op.g = j ∧ ∀ x, op.act.touch? = some x → x.write = false ∧ ¬ Mine x.loc) ∨ op.act.touch? = none
structure Mid (Mine : Loc → Prop) (j p : Nat) (t : Trace) : Prop where
  jpos : j ≠ 0
  clean : ∀ said i k a b, i < k → k < p → touchAt t i = some a → touchAt t k = some b → a.conflicts said b → HappensBefore t i k ∨ HappensBefore t k i
  known : ∀ i a, i < p → touchAt t i = some a → a.loc.isMemory = true → HappensBefore t i p
  over : ∀ i g, i < p → t.g? i = some g → g ≠ 0 → t.counts i → ∃ q, t.g? q = some 0 ∧ HappensBefore t i q
  go : ∃ op, t[p]? = some op ∧ op.g = 0 ∧ op.act = .go j ∧ t.heard p
  start : ∃ op, t[p + 1]? = some op ∧ op.g = j ∧ op.act = .start ∧ t.heard (p + 1)
  late : ∀ i op, t[i]? = some op → p + 1 < i → Meanwhile Mine j op
  hears : Deaf t 0 = 0
  hearsJ : Deaf t j = 0
section
variable {Mine : Loc → Prop} {j p : Nat} {t u : Trace}
theorem act_low (x : MemAct) : ∃ B, x.low B := by
  cases x with
  | access e =>
    obtain ⟨loc, wr, sy⟩ := e
    cases loc with
    | cell a => exact ⟨a.block + 1, Nat.lt_succ_self _⟩
    | obj r => exact ⟨r + 1, Nat.lt_succ_self _⟩
    | _ => exact ⟨0, trivial⟩
  | mark m => cases m <;> first | exact ⟨_, Nat.lt_succ_self _⟩ | exact ⟨0, trivial⟩
  | go _ => exact ⟨0, trivial⟩
  | start => exact ⟨0, trivial⟩
  | send _ _ => exact ⟨_, Nat.lt_succ_self _⟩
  | sendDone _ _ => exact ⟨_, Nat.lt_succ_self _⟩
  | recv _ _ _ => exact ⟨_, Nat.lt_succ_self _⟩
  | recvDone _ _ => exact ⟨_, Nat.lt_succ_self _⟩
  | close _ => exact ⟨_, Nat.lt_succ_self _⟩
  | recvClosed _ => exact ⟨_, Nat.lt_succ_self _⟩
theorem list_low : ∀ l : List MemOp, ∃ B, ∀ op ∈ l, op.act.low B
  | [] => ⟨0, by simp⟩
  | x :: l => by
    obtain ⟨B, hB⟩ := list_low l
    obtain ⟨B', hB'⟩ := act_low x.act
    refine ⟨max B B', fun op hop => ?_⟩
    rcases List.mem_cons.1 hop with rfl | h
    · exact MemAct.low_mono (Nat.le_max_right _ _) hB'
    · exact MemAct.low_mono (Nat.le_max_left _ _) (hB op h)
/-- a trace is finite: all its addresses lie below some bound -/
theorem all_low (t : Trace) : ∃ B, ∀ op ∈ t, op.act.low B := by
  obtain ⟨B, hB⟩ := list_low t.toList
  exact ⟨B, fun op hop => hB op (by simpa using hop)⟩
theorem touchAt_eq {i : Nat} {a : Touch} (h : touchAt t i = some a) : ∃ op, t[i]? = some op ∧ op.act.touch? = some a := touch_of h
theorem Mid.app (h : Mid Mine j p t) (hu : ∀ op ∈ u, Meanwhile Mine j op) (h0 : Deaf (t ++ u) 0 = 0) (hj : Deaf (t ++ u) j = 0) : Mid Mine j p (t ++ u) := by
  obtain ⟨g, hg, hg1, hg2, hg3⟩ := h.go
  obtain ⟨s, hs, hs1, hs2, hs3⟩ := h.start
  have hp1 := lt_size_of_getElem? hs
  refine ⟨h.jpos, fun said i k a b hik hk ha hb hc => ?_, fun i a hi ha hm => ?_, fun i g' hi hg' hne hc => ?_, ⟨g, ?_, hg1, hg2, ?_⟩, ⟨s, ?_, hs1, hs2, ?_⟩, fun i op hi hlt => ?_, h0, hj⟩
  · rw [touchAt_old (by omega)] at ha hb
    exact (h.clean said i k a b hik hk ha hb hc).imp (hb_app u) (hb_app u)
  · rw [touchAt_old (by omega)] at ha
    exact hb_app u (h.known i a hi ha hm)
  · have hio : i < t.size := by omega
    rw [g?_old hio] at hg'
    obtain ⟨q, hq, hb⟩ := h.over i g' hi hg' hne ((counts_old hio).1 hc)
    have hql : q < t.size := by
      unfold Trace.g? at hq
      obtain ⟨z, hz, _⟩ := Option.map_eq_some_iff.1 hq
      exact lt_size_of_getElem? hz
    exact ⟨q, by rw [g?_old hql]; exact hq, hb_app u hb⟩
  · rw [getElem?_append_old (by omega)]; exact hg
  · exact (heard_old (by omega)).2 hg3
  · rw [getElem?_append_old hp1]; exact hs
  · exact (heard_old hp1).2 hs3
  · rcases getElem?_append_cases hi with ⟨_, hi'⟩ | ⟨_, hm⟩
    · exact h.late i op hi' hlt
    · exact hu op hm
theorem Mid.go_start (h : Mid Mine j p t) : HappensBefore t p (p + 1) := by
  obtain ⟨g, hg, hg1, hg2, hg3⟩ := h.go
  obtain ⟨s, hs, hs1, hs2, hs3⟩ := h.start
  exact .single (.inr ⟨.spawn (child := j) (by simp [Trace.act?, hg, hg2]) (by simp [Trace.act?, hs, hs2]) (by simp [Trace.g?, hs, hs1]), hg3, hs3⟩)
theorem Mid.noRace (h : Mid Mine j p t) (said : Bool) : ¬ Race said t := by
  rintro ⟨i, k, hik, ⟨x, y, hx, hy, hcf⟩, hn, hn'⟩
  obtain ⟨oi, hoi, hxi⟩ := touch_of hx
  obtain ⟨ok, hok, hyk⟩ := touch_of hy
  obtain ⟨g, hg, hg1, hg2, hg3⟩ := h.go
  obtain ⟨s, hs, hs1, hs2, hs3⟩ := h.start
  have nip : i ≠ p := by rintro rfl; rw [hg] at hoi; cases hoi; simp [hg2, MemAct.touch?] at hxi
  have nip1 : i ≠ p + 1 := by rintro rfl; rw [hs] at hoi; cases hoi; simp [hs2, MemAct.touch?] at hxi
  have nkp : k ≠ p := by rintro rfl; rw [hg] at hok; cases hok; simp [hg2, MemAct.touch?] at hyk
  have nkp1 : k ≠ p + 1 := by rintro rfl; rw [hs] at hok; cases hok; simp [hs2, MemAct.touch?] at hyk
  by_cases hk : k < p
  · rcases h.clean said i k x y hik hk hx hy hcf with hb | hb
    · exact hn hb
    · exact hn' hb
  have hkl : p + 1 < k := by omega
  apply hn
  by_cases hi : i < p
  · have e0 : HappensBefore t i p := h.known i x hi hx hcf.2.1
    rcases h.late k ok hok hkl with ⟨gk, _⟩ | ⟨gk, _⟩ | hno
    · exact e0.trans (hb_po (by omega) hg hok (by rw [hg1, gk]))
    · exact (e0.trans h.go_start).trans (hb_po hkl hs hok (by rw [hs1, gk]))
    · rw [hyk] at hno; cases hno
  · obtain ⟨hloc, _, hwr, _⟩ := hcf
    rcases h.late i oi hoi (by omega) with ⟨gi, wi⟩ | ⟨gi, ri⟩ | hno <;> rcases h.late k ok hok hkl with ⟨gk, wk⟩ | ⟨gk, rk⟩ | hno'
    · exact hb_po hik hoi hok (by rw [gi, gk])
    · exfalso
      obtain ⟨r1, r2⟩ := rk y hyk
      rcases hwr with hw | hw
      · exact r2 (hloc ▸ wi x hxi hw)
      · rw [r1] at hw; cases hw
    · rw [hyk] at hno'; cases hno'
    · exfalso
      obtain ⟨r1, r2⟩ := ri x hxi
      rcases hwr with hw | hw
      · rw [r1] at hw; cases hw
      · exact r2 (hloc ▸ wk y hyk hw)
    · exact hb_po hik hoi hok (by rw [gi, gk])
    · rw [hyk] at hno'; cases hno'
    · rw [hxi] at hno; cases hno
    · rw [hxi] at hno; cases hno
    · rw [hxi] at hno; cases hno
/-- the channel has been found closed: all that was done is known -/
theorem Mid.past {c pc pr : Nat} (h : Mid Mine j p t) (hclose : ∃ op, t[pc]? = some op ∧ op.g = j ∧ op.act = .close c ∧ t.heard pc) (hlast : ∀ i op, t[i]? = some op → op.g = j → (op.act.touch?).isSome = true → i ≤ pc)
    (hr : ∃ op, t[pr]? = some op ∧ op.g = 0 ∧ op.act = .recvClosed c ∧ t.heard pr) : ∃ B, Past (fun _ => False) B t := by
  obtain ⟨k, hk, hk1, hk2, hk3⟩ := hclose
  obtain ⟨r, hr, hr1, hr2, hr3⟩ := hr
  obtain ⟨g, hg, hg1, _, _⟩ := h.go
  have e2 : HappensBefore t pc pr := .single (.inr ⟨.closed (c := c) (by simp [Trace.act?, hk, hk2]) (by simp [Trace.act?, hr, hr2]), hk3, hr3⟩)
  have ofJ : ∀ i op x, t[i]? = some op → op.g = j → op.act.touch? = some x → HappensBefore t i pr := fun i op x hi hgj hx => by
    have hle := hlast i op hi hgj (by rw [hx]; rfl)
    have hne : i ≠ pc := by rintro rfl; rw [hk] at hi; cases hi; simp [hk2, MemAct.touch?] at hx
    exact (hb_po (by omega) hi hk (by rw [hgj, hk1])).trans e2
  obtain ⟨B, hB⟩ := all_low t
  refine ⟨B, h.noRace, fun i a ha hm => .inl ?_, fun i g' hg' hne hc => ?_, h.hears, hB⟩
  · obtain ⟨op, hop, hx⟩ := touchAt_eq ha
    by_cases hi : i < p
    · exact ⟨p, g, hg, hg1, .inr (h.known i a hi ha hm)⟩
    · have hip : i ≠ p := by rintro rfl; obtain ⟨g2, hg2, _, hg4, _⟩ := h.go; rw [hg2] at hop; cases hop; simp [hg4, MemAct.touch?] at hx
      have hip1 : i ≠ p + 1 := by rintro rfl; obtain ⟨s, hs, _, hs2, _⟩ := h.start; rw [hs] at hop; cases hop; simp [hs2, MemAct.touch?] at hx
      rcases h.late i op hop (by omega) with ⟨gi, _⟩ | ⟨gi, _⟩ | hno
      · exact ⟨i, op, hop, gi, .inl rfl⟩
      · exact ⟨pr, r, hr, hr1, .inr (ofJ i op a hop gi hx)⟩
      · rw [hx] at hno; cases hno
  · by_cases hi : i < p
    · exact h.over i g' hi hg' hne hc
    · obtain ⟨x, hx, _, _⟩ := hc
      obtain ⟨op, hop, hxo⟩ := touch_of hx
      have hgo : op.g = g' := by simpa [Trace.g?, hop] using hg'
      have hip : i ≠ p := by rintro rfl; obtain ⟨g2, hg2, _, hg4, _⟩ := h.go; rw [hg2] at hop; cases hop; simp [hg4, MemAct.touch?] at hxo
      have hip1 : i ≠ p + 1 := by rintro rfl; obtain ⟨s, hs, _, hs2, _⟩ := h.start; rw [hs] at hop; cases hop; simp [hs2, MemAct.touch?] at hxo
      rcases h.late i op hop (by omega) with ⟨gi, _⟩ | ⟨gi, _⟩ | hno
      · exact absurd (hgo.symm.trans gi) hne
      · exact ⟨pr, by simp [Trace.g?, hr, hr1], ofJ i op x hop gi hxo⟩
      · rw [hxo] at hno; cases hno
/-- the go statement -/
theorem Mid.ofGo {B : Nat} (h : Past (fun _ => False) B t) (hj : j ≠ 0) (hd : Deaf t j = 0) {x y : MemOp} (hx : x.g = 0 ∧ x.act = .go j) (hy : y.g = j ∧ y.act = .start) : Mid Mine j t.size (t ++ #[x, y]) := by
  have hgx : (t ++ #[x, y])[t.size]? = some x := by rw [Array.getElem?_append_right (Nat.le_refl _)]; simp
  have hgy : (t ++ #[x, y])[t.size + 1]? = some y := by rw [Array.getElem?_append_right (by omega)]; simp
  have hdeaf : ∀ g, Deaf (t ++ #[x, y]) g = Deaf t g := fun g => by
    rw [show (#[x, y] : Trace) = [x, y].toArray from rfl, Deaf_append]
    simp [deafStep, hx.2, hy.2]
  have hdx : (t ++ #[x, y]).deaf 0 t.size = 0 := by rw [deaf_old (Nat.le_refl _)]; exact h.hears
  have hdy : (t ++ #[x, y]).deaf j (t.size + 1) = 0 := by
    rw [deaf_succ hgx, deaf_old (Nat.le_refl _)]
    have : deafStep j (Deaf t j) x = Deaf t j := by simp [deafStep, hx.2]
    exact this.trans hd
  refine ⟨hj, fun said i k a b hik hk ha hb hc => ?_, fun i a hi ha hm => ?_, fun i g' hi hg' hne hc => ?_, ⟨x, hgx, hx.1, hx.2, 0, by simp [Trace.g?, hx.1], hdx⟩, ⟨y, hgy, hy.1, hy.2, j, by simp [Trace.g?, hy.1], hdy⟩, fun i op hi hlt => ?_, (hdeaf 0).trans h.hears, (hdeaf j).trans hd⟩
  · rw [touchAt_old (by omega)] at ha hb
    by_cases h1 : HappensBefore t i k
    · exact .inl (hb_app _ h1)
    by_cases h2 : HappensBefore t k i
    · exact .inr (hb_app _ h2)
    exact absurd ⟨i, k, hik, ⟨a, b, ha, hb, hc⟩, h1, h2⟩ (h.clean said)
  · rw [touchAt_old hi] at ha
    rcases h.known i a ha hm with hkn | hf
    · exact hkn.hb_new (Nat.le_refl _) hgx hx.1
    · exact hf.1.elim
  · rw [g?_old hi] at hg'
    obtain ⟨q, hq, hb⟩ := h.over i g' hg' hne ((counts_old hi).1 hc)
    have hql : q < t.size := by
      unfold Trace.g? at hq
      obtain ⟨z, hz, _⟩ := Option.map_eq_some_iff.1 hq
      exact lt_size_of_getElem? hz
    exact ⟨q, by rw [g?_old hql]; exact hq, hb_app _ hb⟩
  · have := lt_size_of_getElem? hi
    simp at this
    omega
end
end Go.Proofs.Ytchfnbcpjiiphaa
