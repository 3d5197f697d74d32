/-
  PlacesOf among goroutines that only leave: the places of all cars, in a row of its own.
-/
import Derived.Test.YtchfnbcpjiiphaaCRecv
import Derived.Test.YtchfnbcpjiiphaaCTame
import Derived.Test.YtchfnbcpjiiphaaZI
import Derived.Test.YtchfnbcpjiiphaaCWishP
namespace Go.Proofs.Ytchfnbcpjiiphaa
open Go Go.Conc Go.RowKit

section
variable {c : Nat} {S : World → Prop} {v : Value} {n : Nat} {cs : List Frame} {w0 : World} {l : List Int}
theorem atRecv_commP (out u1 u6 u7 u8 u9 u10 u11 u12 u13 u14 u15 u17 u18 u19 u20 u21 u22 u23 u24 u25 u26 : Value) (w : World) : stepG Try.prog true (atRecvP c v n cs out u1 u6 u7 u8 u9 u10 u11 u12 u13 u14 u15 u17 u18 u19 u20 u21 u22 u23 u24 u25 u26 [0, 1]) w =
    .comm (core (atRecvP c v n cs out u1 u6 u7 u8 u9 u10 u11 u12 u13 u14 u15 u17 u18 u19 u20 u21 u22 u23 u24 u25 u26 [0, 1])) #[rcase c (.int .i64 0)] true (.recv true) w #[] := by
  simp only [atRecvP, ops8P, loopP, tail5, tail4, bodyP, Try.f11, Option.getD_some, core_G]
  rw [stepG_comm (cases := #[rcase c (.int .i64 0)]) (blocking := true) (shape := .recv true) (w' := w) rfl rfl (by decide) (by simp [go_sem, rcase])]
  simp [listed, go_sem, seen]
theorem served_atRecvP (out u1 u6 u7 u8 u9 u10 u11 u12 u13 u14 u15 u17 u18 u19 u20 u21 u22 u23 u24 u25 u26 x : Value) : Conc.served (core (atRecvP c v n cs out u1 u6 u7 u8 u9 u10 u11 u12 u13 u14 u15 u17 u18 u19 u20 u21 u22 u23 u24 u25 u26 [0, 1])) x = atRecvP c v n cs out u1 u6 u7 u8 u9 u10 u11 u12 u13 u14 u15 x u18 u19 u20 u21 u22 u23 u24 u25 u26 [1] := by
  simp only [atRecvP, ops8P, loopP, tail5, tail4, bodyP, Try.f11, Option.getD_some, core_G, served_G]
  rfl
variable (c v cs w0 l) in
/-- the channel has been found closed -/
def FinP (g : Goroutine) (w : World) : Prop := ∃ out u1 u6 u7 u8 u9 u10 u11 u12 u13 u14 u15 u18 u19 u20 u21 u22 u23 u24 u25 u26 : Value, g = atRecvP c v l.length cs out u1 u6 u7 u8 u9 u10 u11 u12 u13 u14 u15 (.tuple #[.int .i64 0, .bool false]) u18 u19 u20 u21 u22 u23 u24 u25 u26 [1] ∧ RF c w0 (takenB l l.length) out (placesB l) w
set_option maxRecDepth 100000 in
set_option maxHeartbeats 1600000 in
theorem recvs_at (hS : LowS c S) (hl : l.length ≤ 1048576) (hw : ∀ (k : Nat) (h : k < l.length), 0 ≤ l[k] ∧ l[k] ≤ (l.length : Int)) : ∀ (m k : Nat), k + m = l.length → ∀ (out u1 u6 u7 u8 u9 u10 u11 u12 u13 u14 u15 u17 u18 u19 u20 u21 u22 u23 u24 u25 u26 : Value) (w : World), RF c w0 (takenB l k) out (placesUp l k) w →
    StopA Try.prog c S (MineP c) (.int .i64 0) (FinP c v cs w0 l) (iv (l.drop k)) (atRecvP c v l.length cs out u1 u6 u7 u8 u9 u10 u11 u12 u13 u14 u15 u17 u18 u19 u20 u21 u22 u23 u24 u25 u26 [0, 1]) w := by
  obtain ⟨nf, hpark⟩ := park_c (S := S) c l.length hS hl
  intro m
  induction m with
  | zero =>
    intro k hk out u1 u6 u7 u8 u9 u10 u11 u12 u13 u14 u15 u17 u18 u19 u20 u21 u22 u23 u24 u25 u26 w hF
    obtain rfl : k = l.length := by omega
    rw [List.drop_length]
    refine ⟨rfl, #[], atRecv_commP out u1 u6 u7 u8 u9 u10 u11 u12 u13 u14 u15 u17 u18 u19 u20 u21 u22 u23 u24 u25 u26 w, by simp, fun w₂ h₂ => ?_⟩
    simp only [served_atRecvP]
    rw [placesUp_full] at hF
    exact ⟨_, _, _, _, _, _, _, _, _, _, _, _, _, _, _, _, _, _, _, _, _, rfl, hF.aside h₂⟩
  | succ m ih =>
    intro k hk out u1 u6 u7 u8 u9 u10 u11 u12 u13 u14 u15 u17 u18 u19 u20 u21 u22 u23 u24 u25 u26 w hF
    have hkl : k < l.length := by omega
    obtain ⟨x, hx⟩ : ∃ x : Nat, l[k] = (x : Int) := ⟨l[k].toNat, by have := (hw k hkl).1; omega⟩
    have hxn : x ≤ l.length := by have := (hw k hkl).2; omega
    rw [iv_dropS hkl, hx]
    refine ⟨rfl, #[], atRecv_commP out u1 u6 u7 u8 u9 u10 u11 u12 u13 u14 u15 u17 u18 u19 u20 u21 u22 u23 u24 u25 u26 w, by simp, fun w₂ h₂ => ?_⟩
    simp only [served_atRecvP]
    refine (recvs_iff ..).2 ⟨((0 + 20) + nf + 3) + 20, seg_r2 _ ((0 + 20) + nf + 3) hS _ out _ (x : Int) u1 u6 u7 u8 u9 u10 u11 u12 u13 u14 u15 u18 u19 u20 u21 u22 u23 u24 u25 u26 w₂ (hF.aside h₂) fun u1 u7 u8 u9 u10 u11 u12 u13 u14 u15 u17 u18 u19 u23 u24 u25 u26 w' hG => ?_⟩
    have hc := hpark w0 _ out _ x w' (takenB_length l k) hxn hG
    refine Goes.call (termsA c S) (i := 3) (rest := [4, 5, 6]) (Post := fun v' w'' => v' = .int .i64 (stepT l.length (takenB l k) x) ∧ RF c w0 (stepS l.length (takenB l k) x) out (placesUp l k) w'') (by simp only [ops10P, loopB, loopP, tail5, tail4, bodyP, Try.f11, Option.getD_some]; rfl) (by simp only [ops10P, loopB, loopP, tail5, tail4, bodyP, Try.f11, Option.getD_some]; rfl) (by decide) rfl (by simpa [Act.eval] using hc) fun v' w'' ⟨hv', hG'⟩ => ?_
    subst hv'
    have hy := placesUp_step hkl
    have hz := takenB_step hkl
    rw [hx, Int.toNat_natCast] at hy hz
    have hlen : (placesUp l k).length = k := placesUp_length l k (by omega)
    refine seg_r3 _ 0 hS _ out _ (x : Int) (stepT l.length (takenB l k) x) (by rw [hlen]; omega) _ _ _ _ _ _ _ _ _ _ _ _ _ _ _ _ w'' hG' fun out' u1 u6 u7 u8 u9 u10 u11 u12 u13 u14 u15 u17 u18 u19 u20 u21 u22 u23 u24 u25 u26 w₃ hG₃ => Goes.stop fun w₄ h₄ => ?_
    rw [← hz, ← hy] at hG₃
    exact ih (k + 1) (by omega) out' u1 u6 u7 u8 u9 u10 u11 u12 u13 u14 u15 u17 u18 u19 u20 u21 u22 u23 u24 u25 u26 w₄ (hG₃.aside h₄)
/-- what PlacesOf answers -/
def PlacesOut (l : List Int) (w : World) (v' : Value) (w' : World) : Prop :=
  BelowX w.heap.size w w' ∧ (wishB l = true → Own w' w.heap.size w'.heap.size 3 v' (iv (placesB l))) ∧ (wishB l = false → v' = .slice none 0 0)
theorem placesOut_like {l : List Int} {w : World} (v' : Value) (w' w₁ : World) (hl : Like w' w₁) (h : PlacesOut l w v' w') : PlacesOut l w v' w₁ :=
  ⟨h.1.like hl, fun hw => by rw [hl.size]; exact (h.2.1 hw).like hl, h.2.2⟩
theorem results_f10 (tmps : Array Value) : results Try.f11 tmps = Sem.pure (tmps.getD 2 undef) := results_one rfl tmps
set_option maxRecDepth 100000 in
set_option maxHeartbeats 3200000 in
theorem placesOf_x (l : List Int) (v : Value) (w : World) {B H : Nat} (hv : Own w B H 3 v (iv l)) (hH : H ≤ w.heap.size) (hl : l.length ≤ 1048576) (hs : SetX Try.prog w) :
    CallsX Try.prog 11 #[v] w (PlacesOut l w) := by
  have hnz : 0 < l.length → ∃ g cap, v = .slice (some ⟨g, 0, none⟩) l.length cap := fun h0 => by
    obtain ⟨g, cap, e, _⟩ := hv.cell 0 (by rw [iv_length]; exact h0)
    exact ⟨g, cap, by rw [e, iv_length]⟩
  obtain ⟨a0, cap, rfl, _⟩ := hv.slice
  rw [iv_length] at hv hnz ⊢
  intro cs
  obtain ⟨R, hR⟩ : ∃ R : Goroutine → World → Prop, R = fun g' w' => ∃ fr v', g' = G fr cs ∧ LeavesV Try.prog 11 fr v' ∧ PlacesOut l w v' w' := ⟨_, rfl⟩
  rw [← hR]
  rw [enter_at _ Try.func11 rfl]
  simp only [Try.ntmps11, List.size_toArray, List.length_cons, List.length_nil, Nat.reduceAdd, Nat.reduceSub, Array.replicate_succ, Array.replicate_zero, List.push_toArray, List.append_toArray, List.nil_append, List.cons_append]
  refine to_move rfl (fun _ => stepG_seq) ?_
  refine wpX_of_wp (Q := fun e a' w' => e = .normal ∧ a' = ⟨#[.slice a0 l.length cap, undef, .slice none 0 0, undef, undef, undef, undef, undef, undef, undef, undef, undef, undef, undef, undef, undef, undef, undef, undef, undef, undef, undef, undef, undef, undef, undef, undef], []⟩ ∧ Like w w') tameT (by kernel_rfl) rfl hs.set (fun e a' w' w₁ h q => ⟨q.1, q.2.1, q.2.2.trans h⟩) (fun w₁ hl₁ => ?_) _ _ cs _ rfl (fun e a' w' q => ?_)
  · go_wp2
  obtain ⟨rfl, rfl, hl₁⟩ := q
  refine to_like ?_ hl₁
  clear hl₁ w'
  refine to_move rfl (fun _ => stepG_seq) ?_
  cases hwb : wishB l with
  | false =>
    refine wpX_of_wp (Q := fun e a' w' => e = .ret ∧ a' = ⟨#[.slice a0 l.length cap, undef, .slice none 0 0, undef, undef, undef, undef, .slice a0 l.length cap, .bool false, .bool true, undef, undef, undef, undef, undef, undef, undef, undef, undef, undef, undef, undef, undef, undef, undef, undef, undef], []⟩ ∧ Like w w') tameT (by kernel_rfl) rfl hs.set (fun e a' w' w₁ h q => ⟨q.1, q.2.1, q.2.2.trans h⟩) (fun w₁ hl₁ => ?_) _ _ cs _ rfl (fun e a' w' q => ?_)
    · have C := Lib.hid (validWishes_p l (.slice a0 l.length cap) w₁ (Lib.hid (hv.like hl₁)) hl)
      rw [hwb] at C
      go_wp2_with fail
      refine C.out.mono ?_
      rintro e w' ⟨rfl, rfl⟩
      go_wp2
    · obtain ⟨rfl, rfl, hl₁⟩ := q
      intro todo
      rw [hR]
      refine to_refl fun w₂ hl₂ => ⟨_, _, rfl, ⟨rfl, rfl, rfl, rfl, _, Try.func11, results_f10 _⟩, ?_⟩
      exact ⟨like_x (hl₁.trans hl₂), (fun h => by rw [hwb] at h; cases h), fun _ => rfl⟩
  | true =>
    refine wpX_of_wp (Q := fun e a' w' => e = .normal ∧ a' = ⟨#[.slice a0 l.length cap, undef, .slice none 0 0, undef, undef, undef, undef, .slice a0 l.length cap, .bool true, .bool false, undef, undef, undef, undef, undef, undef, undef, undef, undef, undef, undef, undef, undef, undef, undef, undef, undef], []⟩ ∧ Like w w') tameT (by kernel_rfl) rfl hs.set (fun e a' w' w₁ h q => ⟨q.1, q.2.1, q.2.2.trans h⟩) (fun w₁ hl₁ => ?_) _ _ cs _ rfl (fun e a' w' q => ?_)
    · have C := Lib.hid (validWishes_p l (.slice a0 l.length cap) w₁ (Lib.hid (hv.like hl₁)) hl)
      rw [hwb] at C
      go_wp2_with fail
      refine C.out.mono ?_
      rintro e w' ⟨rfl, rfl⟩
      go_wp2
    obtain ⟨rfl, rfl, hl₁⟩ := q
    refine to_like ?_ hl₁
    clear hl₁ w'
    -- the channel
    refine to_move rfl (fun _ => stepG_seq) ?_
    refine to_move rfl (fun _ => stepG_region) ?_
    simp only [List.size_toArray, List.length_cons, List.length_nil, Nat.reduceAdd, Nat.zero_add, List.range, List.range.loop]
    refine to_op rfl rfl rfl rfl fun w₁ hl₁ => ?_
    simp [go_sem, Instr.makeChan]
    obtain ⟨c, hc⟩ : ∃ c, c = w₁.heap.size := ⟨_, rfl⟩
    have hcw : c = w.heap.size := by rw [hc, hl₁.size]
    have hWs : (w₁.alloc (.chan 0 #[] false 0 0 false)).heap.size = c + 1 := by simp [hc]
    have hWc : (w₁.alloc (.chan 0 #[] false 0 0 false)).heap[c]? = some (.chan 0 #[] false 0 0 false) := by rw [hc]; exact heap_alloc_new w₁ _
    have hWb : BelowX c w (w₁.alloc (.chan 0 #[] false 0 0 false)) := (like_x hl₁).trans (below_x ((Below.refl c w₁).alloc (by omega) _))
    rw [← hc]
    generalize w₁.alloc (.chan 0 #[] false 0 0 false) = W at hWs hWc hWb ⊢
    clear hl₁ hc w₁
    refine to_op rfl rfl rfl rfl fun w₁ hl₁ => ?_
    simp [go_sem]
    refine to_like ?_ hl₁
    clear hl₁ w₁
    refine to_move rfl (fun _ => stepG_region_end) ?_
    refine to_move rfl (fun _ => stepG_seq) ?_
    refine to_move rfl (fun _ => stepG_region) ?_
    simp only [List.size_toArray, List.length_cons, List.length_nil, Nat.reduceAdd, Nat.zero_add, List.range, List.range.loop]
    refine to_op rfl rfl rfl rfl fun w₁ hl₁ => ?_
    simp [go_sem]
    refine to_like ?_ hl₁
    clear hl₁ w₁
    refine to_op rfl rfl rfl rfl fun w₁ hl₁ => ?_
    simp [go_sem]
    refine to_like ?_ hl₁
    clear hl₁ w₁
    -- the go statement, and the phase
    have hvc : Own w B c 3 (.slice a0 l.length cap) (iv l) := hv.more (by omega)
    refine to_trans (Q := FinP c (.slice a0 l.length cap) cs w l) (to_spawn rfl fun w₁ hl₁ => ?_) ?_
    · have hS : LowS c (ShareS B c (.slice a0 l.length cap) l) := lowS (Nat.le_refl c) _ _
      have hwish : ∀ (k : Nat) (h : k < l.length), 0 ≤ l[k] ∧ l[k] ≤ (l.length : Int) := fun k h => wishB_at hwb h
      refine ⟨G (bP.at ⟨#[.slice a0 l.length cap, undef, .slice none 0 0, .chan (some c), undef, undef, undef, .slice a0 l.length cap, .bool true, .bool false, .chan (some c), .slice a0 l.length cap, .chan (some c), undef, undef, undef, undef, undef, undef, undef, undef, undef, undef, undef, undef, undef, undef], []⟩ (.inRegion ops4P [] :: .code tail5 :: [])) cs, born Try.prog (callS (.slice a0 l.length cap) c), c, ShareS B c (.slice a0 l.length cap) l, MineP c, .int .i64 0, FinP c (.slice a0 l.length cap) cs w l, iv l, ?_, shareS_aside (Nat.le_refl c), hvc.x (hWb.like hl₁), ⟨0, 0, by rw [hl₁.heap]; exact hWc⟩, ?_, sends_allS (Nat.le_refl c) hl a0 cap rfl hnz, fun _ _ h => h⟩
      · simp only [ops4P, tail5, tail4, bodyP, Try.f11, Option.getD_some]
        rw [stepG_spawn (d := callS (.slice a0 l.length cap) c) (w' := w₁) (f := .func 39) (c := #[]) rfl rfl (by decide) (by simp [go_sem, callS]) rfl]
        exact congrArg (fun es => GStep.spawn _ _ w₁ es) (listed_nil (by first | rfl | kernel_rfl | simp [go_sem, Sem.events_bind, Sem.events_pure]))
      · have hR : RG c w w₁ := ⟨by rw [hl₁.size, hWs], hWb.like hl₁⟩
        have hrec := recvs_at (S := ShareS B c (.slice a0 l.length cap) l) (v := .slice a0 l.length cap) (cs := cs) (w0 := w) hS hl hwish l.length 0 (by omega)
        refine (recvs_iff ..).2 ⟨0 + 23, seg_r1 _ 0 hS hl a0 cap rfl _ _ _ _ _ _ _ _ _ _ _ _ _ _ _ _ _ _ _ _ _ _ _ _ w₁ hR fun u1 u6 u7 u8 u9 u10 u11 u12 u13 u14 u15 u17 u18 u19 u20 u21 u22 u23 u24 u25 u26 w' hF => Goes.stop fun w₂ h₂ => ?_⟩
        exact hrec (.slice none 0 0) u1 u6 u7 u8 u9 u10 u11 u12 u13 u14 u15 u17 u18 u19 u20 u21 u22 u23 u24 u25 u26 w₂ (hF.aside h₂)
    · rintro g' w' ⟨out, u1, u6, u7, u8, u9, u10, u11, u12, u13, u14, u15, u18, u19, u20, u21, u22, u23, u24, u25, u26, rfl, hF⟩
      simp only [atRecvP, ops8P, loopB, loopP, tailR, tail5, tail4, bodyP, Try.f11, Option.getD_some]
      refine to_op rfl rfl rfl rfl fun w₁ hl₁ => ?_
      simp [go_sem]
      refine to_like ?_ hl₁
      clear hl₁ w₁
      refine to_move rfl (fun _ => stepG_region_end) ?_
      refine to_move rfl (fun _ => stepG_seq) ?_
      refine to_move rfl (fun _ => stepG_cond (t := false) rfl) ?_
      simp only [Bool.false_eq_true, if_false]
      refine to_move rfl (fun _ => stepG_exit (k' := _) (by rfl)) ?_
      have hb' : BelowX w.heap.size w w' := hF.below.mono (by omega)
      have hpo : PlacesOut l w out w' := by
        refine ⟨hb', fun _ => ⟨⟨by simp, ?_⟩, fun g hg => (hF.own.lt g hg).2⟩, fun h => by rw [hwb] at h; cases h⟩
        have h2 := hF.own.2
        rw [iv_length]
        exact h2.imp id fun ⟨g, cp, cur, e, hg, r⟩ => ⟨g, cp, cur, e, by omega, r⟩
      rw [hR]
      refine to_end Try.func11 placesOut_like ?_
      refine wpX_last tameT (by kernel_rfl) rfl (hs.x hb').set placesOut_like (fun w₁ hl₁ => ?_) fun tmps => ⟨_, results_f10 tmps⟩
      have hpo₁ := Lib.hid (placesOut_like _ _ _ hl₁ hpo)
      go_wp2
      go_ret
      exact ⟨_, rfl, hpo₁.out⟩
end
end Go.Proofs.Ytchfnbcpjiiphaa
