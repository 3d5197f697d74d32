/-
  The sender of cars: it sends each wish, closes the channel, and leaves.
-/
import Derived.Test.YtchfnbcpjiiphaaCParkC
import Derived.Conc.PipeWords
import Derived.Conc.Own2
namespace Go.Proofs.Ytchfnbcpjiiphaa
open Go Go.Conc Go.RowKit

def bsS : Frame := { (default : Frame) with fn := 39, kind := .deferred }
noncomputable def bodyS : Code := Try.f39.body.getD .skip
noncomputable def LS : Code := match bodyS with | .seq (.seq _ (.block _ (.loop c))) _ => c | _ => .skip
noncomputable def R5S : Code := match bodyS with | .seq _ r => r | _ => .skip
noncomputable def R4S : Code := match LS with | .seq _ (.seq _ (.seq _ r)) => r | _ => .skip
noncomputable def ops3S : Array Oper := match LS with | .seq _ (.seq _ (.seq (.block _ (.seq _ (.region _ ops _))) _)) => ops | _ => #[]
noncomputable def ops5S : Array Oper := match R5S with | .region _ ops _ => ops | _ => #[]
/-- the child's bottom frame, once its one call has been taken off it -/
noncomputable def botS : Frame := { (default : Frame) with fn := Try.prog.funcs.size, defers := [], mode := .panicking [goexitEntry] }
/-- what the sender reads -/
def ShareS (B H : Nat) (v : Value) (l : List Int) (w : World) : Prop := Own w B H 3 v (iv l)
theorem lowS {c B H : Nat} (h : H ≤ c) (v : Value) (l : List Int) : LowS c (ShareS B H v l) := fun _ _ hb ho => ⟨own_of_blocks ho.1 fun g hg => hb g (by have := ho.2 g hg; omega), ho.2⟩
theorem shareS_aside {c B H : Nat} (h : H ≤ c) {v : Value} {l : List Int} (w w₁ : World) (ha : Aside c w w₁) (ho : ShareS B H v l w) : ShareS B H v l w₁ := lowS h v l w w₁ (fun k hk => ha.block k (by omega)) ho
/-- the values from place k on -/
theorem iv_dropS {l : List Int} {k : Nat} (h : k < l.length) : iv (l.drop k) = .int .i64 l[k] :: iv (l.drop (k + 1)) := by
  rw [List.drop_eq_getElem_cons h]; rfl
theorem evB_cellS {c : Nat} (a : Addr) (s : Bool) (h : a.block < c + 1) : EvB (MineP c) ⟨.cell a, false, s⟩ := ⟨fun m => by simp, rfl, fun ⟨a', e, h'⟩ => by cases e; omega⟩
section
variable (c B H : Nat) (v : Value) (l : List Int)
local notation "GB" => Goes Try.prog false (fun _ w₁ => ShareS B H v l w₁) (DB (MineP c))
/-- the loop's head, k wishes sent -/
noncomputable def headS (k : Nat) (u2 u3 u4 u5 u9 u10 u11 u12 u13 u14 u15 : Value) : Goroutine :=
  G (bsS.at ⟨#[v, .chan (some c), u2, u3, u4, u5, v, .int .i64 l.length, .int .i64 k, u9, u10, u11, u12, u13, u14, u15], []⟩ [.code LS, .inLoop LS, .inBlock 0, .code R5S]) [botS]
noncomputable def atSendS (k : Nat) (x : Int) (u2 u3 u4 u5 u9 u10 u11 u14 u15 : Value) (rest : List Nat) : Goroutine :=
  G (bsS.at ⟨#[v, .chan (some c), u2, u3, u4, u5, v, .int .i64 l.length, .int .i64 k, u9, u10, u11, .chan (some c), .int .i64 x, u14, u15], []⟩ [.inRegion ops3S rest, .inBlock 1, .code R4S, .inLoop LS, .inBlock 0, .code R5S]) [botS]
noncomputable def atCloseS (u2 u3 u4 u5 u6 u7 u8 u9 u10 u11 u12 u13 u14 : Value) (rest : List Nat) : Goroutine :=
  G (bsS.at ⟨#[v, .chan (some c), u2, u3, u4, u5, u6, u7, u8, u9, u10, u11, u12, u13, u14, .chan (some c)], []⟩ [.inRegion ops5S rest]) [botS]
end
section
variable {c B H : Nat} {v : Value} {l : List Int}
local notation "GB" => Goes Try.prog false (fun _ w₁ => ShareS B H v l w₁) (DB (MineP c))

set_option maxRecDepth 100000 in
set_option maxHeartbeats 1600000 in
/-- from the head to the send -/
theorem seg_sendS (Stop : Goroutine → World → Prop) (n₀ k : Nat) (hk : k < l.length) (hH : H ≤ c) (u2 u3 u4 u5 u9 u10 u11 u12 u13 u14 u15 : Value) (w : World) (hv : ∃ g cap, v = .slice (some ⟨g, 0, none⟩) l.length cap)
    (next : ∀ (u2 u3 u4 u5 u9 u10 u11 u14 u15 : Value) w', GB Stop n₀ (atSendS c v l k l[k] u2 u3 u4 u5 u9 u10 u11 u14 u15 [2]) w') : GB Stop (n₀ + 40) (headS c v l k u2 u3 u4 u5 u9 u10 u11 u12 u13 u14 u15) w := by
  obtain ⟨g, cap, rfl⟩ := hv
  have hlt : (k : Int) < (l.length : Int) := by omega
  obtain ⟨x, hx⟩ : ∃ x, x = l[k] := ⟨_, rfl⟩
  have hcell : ∀ w, ShareS B H (.slice (some ⟨g, 0, none⟩) l.length cap) l w → w.cell? ⟨g, k, none⟩ = some (.int .i64 x) ∧ g < c := fun w h => by
    obtain ⟨g', cap', e, _, hg, hc, _⟩ := Own.cell h k (by rw [iv_length]; exact hk)
    simp only [Value.slice.injEq, Option.some.injEq, Addr.mk.injEq, and_true] at e
    obtain ⟨rfl, _, rfl⟩ := e
    exact ⟨by rw [hc, iv_at l k hk, hx], by omega⟩
  rw [← hx] at next
  clear hx
  simp only [headS, atSendS, ops3S, R4S, LS, R5S, bodyS, Try.f39, Option.getD_some] at next ⊢
  repeat (first | b_ctl | b_op [] (evB_cellS _ _ (by omega)))
  b_cond true
  repeat (first | b_ctl | b_op [(hcell _ h₁).1] (evB_cellS _ _ (by have := (hcell _ h₁).2; show g < c + 1; omega)))
  exact Goes.mono (n := n₀) (next _ _ _ _ _ _ _ _ _ _) (by omega)

set_option maxRecDepth 100000 in
/-- from behind the send to the head -/
theorem seg_nextS (Stop : Goroutine → World → Prop) (n₀ k : Nat) (x : Int) (hk : k < l.length) (hl : l.length ≤ 1048576) (u2 u3 u4 u5 u9 u10 u11 u14 u15 : Value) (w : World)
    (next : ∀ (u2 u3 u4 u5 u9 u10 u11 u12 u13 u14 u15 : Value) w', GB Stop n₀ (headS c v l (k + 1) u2 u3 u4 u5 u9 u10 u11 u12 u13 u14 u15) w') : GB Stop (n₀ + 7) (atSendS c v l k x u2 u3 u4 u5 u9 u10 u11 u14 u15 []) w := by
  have hwr : IntKind.i64.wrap ((k : Int) + 1) = ((k + 1 : Nat) : Int) := by rw [IntKind.wrap_i64]; omega
  simp only [headS, atSendS, ops3S, R4S, LS, R5S, bodyS, Try.f39, Option.getD_some] at next ⊢
  repeat (first | b_ctl | b_op [] (evB_cellS _ _ (by omega)))
  exact next _ _ _ _ _ _ _ _ _ _ _ _

set_option maxRecDepth 100000 in
/-- from the head, all sent, to the close -/
theorem seg_closeS (Stop : Goroutine → World → Prop) (n₀ : Nat) (u2 u3 u4 u5 u9 u10 u11 u12 u13 u14 u15 : Value) (w : World)
    (next : ∀ (u2 u3 u4 u5 u6 u7 u8 u9 u10 u11 u12 u13 u14 : Value) w', GB Stop n₀ (atCloseS c v u2 u3 u4 u5 u6 u7 u8 u9 u10 u11 u12 u13 u14 [1]) w') : GB Stop (n₀ + 20) (headS c v l l.length u2 u3 u4 u5 u9 u10 u11 u12 u13 u14 u15) w := by
  simp only [headS, atCloseS, ops5S, LS, R5S, bodyS, Try.f39, Option.getD_some] at next ⊢
  repeat (first | b_ctl | b_op [] (evB_cellS _ _ (by omega)))
  b_cond false
  b_exit
  repeat (first | b_ctl | b_op [] (evB_cellS _ _ (by omega)))
  exact Goes.mono (n := n₀) (next _ _ _ _ _ _ _ _ _ _ _ _ _ _) (by omega)

/-- at the send -/
theorem atSend_stopS (k : Nat) (x : Int) (vs : List Value) (u2 u3 u4 u5 u9 u10 u11 u14 u15 : Value) (next : Sends Try.prog c (ShareS B H v l) (MineP c) vs (atSendS c v l k x u2 u3 u4 u5 u9 u10 u11 u14 u15 [])) :
    AtSend Try.prog c (ShareS B H v l) (MineP c) (.int .i64 x) (Sends Try.prog c (ShareS B H v l) (MineP c) vs) (atSendS c v l k x u2 u3 u4 u5 u9 u10 u11 u14 u15 [2]) := by
  simp only [atSendS, ops3S, LS, bodyS, Try.f39, Option.getD_some] at next ⊢
  exact atSend_of (x := .tmp 12) (y := .tmp 13) rfl rfl (by decide) rfl rfl rfl next

/-- behind the close it only leaves -/
theorem quitsS (u2 u3 u4 u5 u6 u7 u8 u9 u10 u11 u12 u13 u14 : Value) : QuitsIn Try.prog 4 (atCloseS c v u2 u3 u4 u5 u6 u7 u8 u9 u10 u11 u12 u13 u14 []) := by
  simp only [atCloseS]
  refine .inr ⟨rfl, _, fun w => stepG_region_end, ?_⟩
  refine .inr ⟨rfl, _, fun w => stepG_end, ?_⟩
  refine .inr ⟨rfl, G botS [], fun w => ?_, ?_⟩
  · simp [G, stepG, unwind, doReturn, results, Frame.at, bsS, botS, Try.func39, Try.f39, seen, GStep.after, goexitEntry]
  refine .inr ⟨rfl, { G botS [] with status := .finished }, fun w => ?_, rfl⟩
  simp [G, stepG, unwind, botS, goexitEntry, Frame.catches]
  rfl

/-- at the close -/
theorem atClose_stopS (u2 u3 u4 u5 u6 u7 u8 u9 u10 u11 u12 u13 u14 : Value) : AtClose Try.prog c (ShareS B H v l) (MineP c) (atCloseS c v u2 u3 u4 u5 u6 u7 u8 u9 u10 u11 u12 u13 u14 [1]) := by
  have hq : QuitsIn Try.prog 4 (atCloseS c v u2 u3 u4 u5 u6 u7 u8 u9 u10 u11 u12 u13 u14 []) := quitsS ..
  simp only [atCloseS, ops5S, R5S, bodyS, Try.f39, Option.getD_some] at hq ⊢
  refine atClose_of (n := 4) rfl rfl (by decide) (fun w s r tm hc => ?_) (fun w s r tm hc => ?_) (by simp [bsS, Try.func39, Try.f39]) (fun ⟨a, h, _⟩ => by cases h) (by simp [mayWake, G, Frame.at]) hq
  · have hr := run_close_open (P := Try.prog) #[46] 0 hc
    simp [go_sem, hr, World.shut]
  · have he := events_close_open (P := Try.prog) (es := #[]) #[46] 0 hc
    simp [go_sem, he]

/-- the sender's script from the loop's head: k sent, m to send -/
theorem sends_fromS (hH : H ≤ c) (hl : l.length ≤ 1048576) (hv : 0 < l.length → ∃ g cap, v = .slice (some ⟨g, 0, none⟩) l.length cap) : ∀ (m k : Nat), k + m = l.length →
    ∃ n', ∀ (u2 u3 u4 u5 u9 u10 u11 u12 u13 u14 u15 : Value) (w : World), GB (StopB Try.prog c (ShareS B H v l) (MineP c) (iv (l.drop k))) n' (headS c v l k u2 u3 u4 u5 u9 u10 u11 u12 u13 u14 u15) w := by
  intro m
  induction m with
  | zero =>
    intro k hk
    obtain rfl : k = l.length := by omega
    refine ⟨0 + 20, fun u2 u3 u4 u5 u9 u10 u11 u12 u13 u14 u15 w => ?_⟩
    rw [List.drop_length]
    exact seg_closeS _ 0 u2 u3 u4 u5 u9 u10 u11 u12 u13 u14 u15 w fun u2 u3 u4 u5 u6 u7 u8 u9 u10 u11 u12 u13 u14 _ => Goes.stop fun _ _ => atClose_stopS u2 u3 u4 u5 u6 u7 u8 u9 u10 u11 u12 u13 u14
  | succ m ih =>
    intro k hk
    have hkl : k < l.length := by omega
    obtain ⟨n₁, h₁⟩ := ih (k + 1) (by omega)
    refine ⟨0 + 40, fun u2 u3 u4 u5 u9 u10 u11 u12 u13 u14 u15 w => ?_⟩
    rw [iv_dropS hkl]
    refine seg_sendS _ 0 k hkl hH u2 u3 u4 u5 u9 u10 u11 u12 u13 u14 u15 w (hv (by omega)) fun u2 u3 u4 u5 u9 u10 u11 u14 u15 _ => Goes.stop fun _ _ => atSend_stopS k l[k] _ u2 u3 u4 u5 u9 u10 u11 u14 u15 ?_
    exact (sends_iff ..).2 ⟨n₁ + 7, seg_nextS _ n₁ k l[k] hkl hl u2 u3 u4 u5 u9 u10 u11 u14 u15 default h₁⟩

set_option maxRecDepth 100000 in
/-- from the function's entry to the loop's head -/
theorem seg_entryS (Stop : Goroutine → World → Prop) (n₀ : Nat) (w : World) (a0 : Option Addr) (cap : Nat)
    (next : ∀ (u2 u3 u4 u5 u9 u10 u11 u12 u13 u14 u15 : Value) w', GB Stop n₀ (headS c v l 0 u2 u3 u4 u5 u9 u10 u11 u12 u13 u14 u15) w') (hv : v = .slice a0 l.length cap) :
    GB Stop (n₀ + 9) (G (bsS.at ⟨#[v, .chan (some c), undef, undef, undef, undef, undef, undef, undef, undef, undef, undef, undef, undef, undef, undef], []⟩ [.code bodyS]) [botS]) w := by
  subst hv
  simp only [headS, LS, R5S, bodyS, Try.f39, Option.getD_some] at next ⊢
  repeat (first | b_ctl | b_op [] (evB_cellS _ _ (by omega)))
  exact next _ _ _ _ _ _ _ _ _ _ _ _

/-- the call that the go statement holds -/
def callS (v : Value) (c : Nat) : Deferred := { target := .fn (.func 39) #[], args := #[v, .chan (some c)] }
theorem born_stepS (w : World) : stepG Try.prog false (born Try.prog (callS v c)) w =
    .go (G (bsS.at ⟨#[v, .chan (some c), undef, undef, undef, undef, undef, undef, undef, undef, undef, undef, undef, undef, undef, undef], []⟩ [.code bodyS]) [botS]) w #[] := by
  simp [born, callS, stepG, unwind, callDeferred, invoke, callFunc, Try.func39, Try.f39, seen, GStep.after, G, Frame.enter, Frame.at, bsS, botS, bodyS]

/-- THE SENDER's SCRIPT, WHOLE -/
theorem sends_allS (hH : H ≤ c) (hl : l.length ≤ 1048576) (a0 : Option Addr) (cap : Nat) (hv : v = .slice a0 l.length cap) (hv' : 0 < l.length → ∃ g cap, v = .slice (some ⟨g, 0, none⟩) l.length cap) :
    Sends Try.prog c (ShareS B H v l) (MineP c) (iv l) (born Try.prog (callS v c)) := by
  obtain ⟨n₁, h₁⟩ := sends_fromS (B := B) hH hl hv' l.length 0 (by omega)
  refine (sends_iff ..).2 ⟨n₁ + 9 + 1, Goes.step rfl fun w₁ _ => ?_⟩
  rw [born_stepS]
  exact ⟨⟨rfl, by simp⟩, seg_entryS _ n₁ w₁ a0 cap h₁ hv⟩
end
end Go.Proofs.Ytchfnbcpjiiphaa
