/-
  A piece of tame code in the crowd, by its lone walk.
-/
import Derived.Test.YtchfnbcpjiiphabGBotB
namespace Go.Proofs.Ytchfnbcpjiiphab
open Go Go.Conc
section
variable {P : Program} {T : FuncId → Bool}
theorem at_more (b : Frame) (a : Act) (l k : List Item) : more (b.at a l) k = b.at a (l ++ k) := rfl
/-- items that come to an end alone do so in the crowd -/
theorem to_of_arrives (hP : TameP P T) {b : Frame} (hb : b.kind = .normal) {a : Act} (ha : a.defers = []) {items : List Item} (hit : ∀ x ∈ items, tameItem T x = true) {w : World} (hs : Settled P w) {Q : Exit → Act → World → Prop}
    (hQ : ∀ e a' w' w₁, Like w' w₁ → Q e a' w' → Q e a' w₁)
    (h : ∀ w₁, Like w w₁ → ∀ k cs, ∃ e a' w', ((e = .normal ∨ e = .ret) ∧ a'.defers = [] ∧ Q e a' w') ∧ Arrives P (lone (b.at a (items ++ k)) cs w₁) b k cs e a' w') (k : List Item) (cs : List Frame) :
    To P (G (b.at a (items ++ k)) cs) w fun g' w' => ∃ a', a'.defers = [] ∧ ((g' = G (b.at a' k) cs ∧ Q .normal a' w') ∨ ∃ todo, g' = G { b.at a' todo with mode := .returning } cs ∧ Q .ret a' w') := by
  let StopF : Frame → World → Prop := fun f w' => StopAt f ∧ ((f.mode = .returning ∧ Q .ret ⟨f.tmps, f.defers⟩ w') ∨ (f.mode = .run ∧ Q .normal ⟨f.tmps, f.defers⟩ w'))
  have hw : WellX P (StopB T StopF (b.at a items)) none (b.at a items) w := by
    refine wellX_of_lone hP (fun f w' h => h.1) (fun f w' w₁ hl h => ⟨h.1, h.2.imp (fun h => ⟨h.1, hQ _ _ _ _ hl h.2⟩) (fun h => ⟨h.1, hQ _ _ _ _ hl h.2⟩)⟩) (fun τ => ?_) ⟨⟨hit, ha, hb, rfl⟩, .inl rfl, fun _ _ h => by cases h⟩ hs
    obtain ⟨e, a', w', ⟨he, hd, hq⟩, harr⟩ := h (ona w τ 0) (Like.ona w τ 0) wall [door P]
    rcases he with rfl | rfl
    · obtain ⟨n, hn⟩ := harr
      exact ⟨n, _, w', hn, ⟨hd, hb, rfl, .inr ⟨rfl, rfl⟩⟩, .inr ⟨rfl, hq⟩⟩
    · obtain ⟨todo, n, hn⟩ := harr
      exact ⟨n, _, w', hn, ⟨hd, hb, rfl, .inl rfl⟩, .inl ⟨rfl, hq⟩⟩
  refine to_mono (wellX_to hw k cs) fun g' w' ⟨b', e, ⟨⟨hst, hq⟩, hend, hfn, hB⟩⟩ => ?_
  subst e
  obtain ⟨fn, tmps, todo, defers, mode, kind, round⟩ := b'
  obtain ⟨_, rfl, rfl, rfl⟩ := hB
  dsimp only at hfn
  refine ⟨⟨tmps, []⟩, rfl, ?_⟩
  have hfn' : fn = b.fn := hfn
  subst hfn'
  rcases hq with ⟨hm, hq⟩ | ⟨hm, hq⟩
  · have hm' : mode = .returning := hm
    subst hm'
    refine .inr ⟨todo ++ k, ?_, hq⟩
    unfold more Frame.at
    rw [hb]
  · have hm' : mode = .run := hm
    subst hm'
    rcases hend with h | ⟨_, h⟩
    · cases h
    · have h' : todo = [] := h
      subst h'
      refine .inl ⟨?_, hq⟩
      unfold more Frame.at
      rw [hb]
      rfl
theorem to_piece {b : Frame} {k : List Item} {cs : List Frame} {w : World} {g : Goroutine} {Q : Exit → Act → World → Prop} {R : Goroutine → World → Prop} (h : To P g w fun g' w' => ∃ a', a'.defers = [] ∧ ((g' = G (b.at a' k) cs ∧ Q .normal a' w') ∨ ∃ todo, g' = G { b.at a' todo with mode := .returning } cs ∧ Q .ret a' w'))
    (hc : ∀ e a' w', a'.defers = [] → Q e a' w' → AfterX P R b k cs e a' w') : To P g w R :=
  to_trans h fun g' w' ⟨a', hd, h⟩ => by
    rcases h with ⟨rfl, hq⟩ | ⟨todo, rfl, hq⟩
    · exact hc _ _ _ hd hq
    · exact hc _ _ _ hd hq todo
/-- code -/
theorem wpX_of_wp (hP : TameP P T) {c : Code} (hc : tameCode T c = true) {a : Act} (ha : a.defers = []) {w : World} (hs : Settled P w) {Q : Exit → Act → World → Prop} (hQ : ∀ e a' w' w₁, Like w' w₁ → Q e a' w' → Q e a' w₁)
    (h : ∀ w₁, Like w w₁ → c.wp P (fun e a' w' => (e = .normal ∨ e = .ret) ∧ a'.defers = [] ∧ Q e a' w') a w₁) : WpX P c Q a w := fun b k cs _ hb hq =>
  to_piece (to_of_arrives hP hb ha (items := [.code c]) (by simpa [tameItem] using hc) hs hQ (fun w₁ hl k cs => h w₁ hl b k cs) k cs) fun e a' w' _ q => hq e a' w' q
/-- what is left of a region's operations -/
theorem opsX_of_wpOps (hP : TameP P T) {ops : Array Oper} {l : List Nat} (hc : tameRest T ops l = true) {a : Act} (ha : a.defers = []) {w : World} (hs : Settled P w) {Q : Exit → Act → World → Prop} (hQ : ∀ e a' w' w₁, Like w' w₁ → Q e a' w' → Q e a' w₁)
    (h : ∀ w₁, Like w w₁ → wpOps P ops (fun e a' w' => (e = .normal ∨ e = .ret) ∧ a'.defers = [] ∧ Q e a' w') l a w₁) : OpsX P ops l Q a w := fun b k cs _ hb hq =>
  to_piece (to_of_arrives hP hb ha (items := [.inRegion ops l]) (by simpa [tameItem] using hc) hs hQ (fun w₁ hl k cs => wp_ops l a w₁ (h w₁ hl) b k cs) k cs) fun e a' w' _ q => hq e a' w' q
end
end Go.Proofs.Ytchfnbcpjiiphab
