/-
  What is drawn for parking, and the functions that only look, among goroutines that only leave.
-/
import Derived.Test.YtchfnbcpjiiphaaCDrawP
import Derived.Test.YtchfnbcpjiiphaaCAllX
import Derived.Test.YtchfnbcpjiiphaaCWishS
namespace Go.Proofs.Ytchfnbcpjiiphaa
open Go Go.Conc Go.RowKit

/-- some list of at most nine numbers in memory of its own -/
def DrawnX (w : World) (v' : Value) (w' : World) : Prop := ∃ l, Own w' w.heap.size w'.heap.size 3 v' (iv l) ∧ l.length ≤ 9 ∧ BelowX w.heap.size w w'
theorem drawnX_like {w : World} (v' : Value) (w' w₁ : World) (hl : Like w' w₁) (h : DrawnX w v' w') : DrawnX w v' w₁ := by
  obtain ⟨l, h1, h2, h3⟩ := h
  exact ⟨l, by rw [hl.size]; exact h1.like hl, h2, h3.like hl⟩
/-- some small number -/
def DrawnIX (w : World) (v' : Value) (w' : World) : Prop := ∃ n : Int, v' = .int .i64 n ∧ (-1 ≤ n ∧ n ≤ 9) ∧ BelowX w.heap.size w w'
theorem drawnIX_like {w : World} (v' : Value) (w' w₁ : World) (hl : Like w' w₁) (h : DrawnIX w v' w') : DrawnIX w v' w₁ := by
  obtain ⟨l, h1, h2, h3⟩ := h
  exact ⟨l, h1, h2, h3.like hl⟩
theorem wf_smallX (x : Int) (h : -1000 ≤ x ∧ x ≤ 100000) : (Lit.int .i64 x).wf = true := by
  have h1 : IntKind.i64.min = -9223372036854775808 := rfl
  have h2 : IntKind.i64.max = 9223372036854775807 := rfl
  simp [Lit.wf]; omega
theorem wpX_letter {P : Program} {x : Code} {Q : Exit → Act → World → Prop} {a : Act} {w : World} (hl : LikeQ Q) (h : ∀ Q1 : Exit → Act → World → Prop, LikeQ Q1 → Hid (Q1 = Q) → WpX P x Q1 a w) : WpX P x Q a w := h Q hl rfl
theorem likeQ_loop {I : Act → World → Prop} {μ : Act → World → Nat} {N : Nat} {Q : Exit → Act → World → Prop} (hI : ∀ a w w₁, Like w w₁ → I a w → I a w₁) (hμ : ∀ a w w₁, μ a w = μ a w₁) (h : LikeQ Q) : LikeQ (Exit.then (fun a w => I a w ∧ μ a w < N) Q) := fun e a w w₁ hl q => by
  cases e <;> first | exact ⟨hI _ _ _ hl q.1, by rw [← hμ a w w₁]; exact q.2⟩ | exact h _ _ _ _ hl q
/-- one that only looks -/
theorem look_x {f : FuncId} (hT : inL tameL f = true) {args : Array Value} {v : Value} {w : World} (hs : SetX Try.prog w)
    (h : ∀ w₁, Like w w₁ → Calls Try.prog f args w₁ fun e w' => e = .returned v ∧ Below w₁.heap.size w₁ w') : CallsX Try.prog f args w (AnsX v w) :=
  callsX_lone tameT hT hs.set ansX_like fun w₁ hl₁ => (h w₁ hl₁).mono fun _ _ ⟨he, hb⟩ => ⟨v, he, rfl, (like_x hl₁).trans (below_x (hb.mono (Nat.le_of_eq hl₁.size.symm)))⟩
theorem drawPlacesOf_x (a : Option Addr) (len cap : Nat) (zs : List Int) (w : World) (hr : IsRow .u8 w a len cap zs) (hl : len ≤ 1048576) (hs : SetX Try.prog w) :
    CallsX Try.prog 10 #[.slice a len cap] w (DrawnX w) :=
  callsX_lone tameT rfl hs.set drawnX_like fun w₁ hl₁ => (drawPlacesOf a len cap zs w₁ (Lib.hid (hr.like hl₁)) hl).mono fun e w' ⟨v, l, he, ho, h9, hb⟩ =>
    ⟨v, he, l, by rw [← hl₁.size]; exact ho, h9, (like_x hl₁).trans (below_x (hb.mono (Nat.le_of_eq hl₁.size.symm)))⟩
theorem drawAllPark_x (a : Option Addr) (len cap : Nat) (zs : List Int) (w : World) (hr : IsRow .u8 w a len cap zs) (hl : len ≤ 1048576) (hs : SetX Try.prog w) :
    CallsX Try.prog 15 #[.slice a len cap] w (DrawnX w) :=
  callsX_lone tameT rfl hs.set drawnX_like fun w₁ hl₁ => (drawAllPark a len cap zs w₁ (Lib.hid (hr.like hl₁)) hl).mono fun e w' ⟨v, l, he, ho, h9, hb⟩ =>
    ⟨v, he, l, by rw [← hl₁.size]; exact ho, h9, (like_x hl₁).trans (below_x (hb.mono (Nat.le_of_eq hl₁.size.symm)))⟩
theorem drawDriftOf_x (a : Option Addr) (len cap : Nat) (zs : List Int) (w : World) (hr : IsRow .u8 w a len cap zs) (hl : len ≤ 1048576) (hs : SetX Try.prog w) :
    CallsX Try.prog 29 #[.slice a len cap] w (DrawnX w) :=
  callsX_lone tameT rfl hs.set drawnX_like fun w₁ hl₁ => (drawDriftOf a len cap zs w₁ (Lib.hid (hr.like hl₁)) hl).mono fun e w' ⟨v, l, he, ho, h9, hb⟩ =>
    ⟨v, he, l, by rw [← hl₁.size]; exact ho, h9, (like_x hl₁).trans (below_x (hb.mono (Nat.le_of_eq hl₁.size.symm)))⟩
theorem drawShiftFor_x (a : Option Addr) (len cap : Nat) (zs : List Int) (w : World) (hr : IsRow .u8 w a len cap zs) (hl : len ≤ 1048576) (hs : SetX Try.prog w) :
    CallsX Try.prog 33 #[.slice a len cap] w (DrawnX w) :=
  callsX_lone tameT rfl hs.set drawnX_like fun w₁ hl₁ => (drawShiftFor a len cap zs w₁ (Lib.hid (hr.like hl₁)) hl).mono fun e w' ⟨v, l, he, ho, h9, hb⟩ =>
    ⟨v, he, l, by rw [← hl₁.size]; exact ho, h9, (like_x hl₁).trans (below_x (hb.mono (Nat.le_of_eq hl₁.size.symm)))⟩
set_option maxHeartbeats 800000 in
theorem drawCountPark (a : Option Addr) (len cap : Nat) (zs : List Int) (w : World) (hr : Hid (IsRow .u8 w a len cap zs)) (hl : len ≤ 1048576) :
    Calls Try.prog 22 #[.slice a len cap] w fun e w' => ∃ n : Int, (-1 ≤ n ∧ n ≤ 9) ∧ e = .returned (.int .i64 n) ∧ Below w.heap.size w w' := by
  go_enter Try.func22, Try.ntmps22
  go_wp2_with fail
  refine (newReader_any a len cap zs w hr.out hl).mono ?_
  rintro e w1 ⟨n, R, rfl, h, hb⟩
  have hlow := h.low
  have l9 := lit_own w1 #[.int .i64 3, .int .i64 4, .int .i64 2, .int .i64 8, .int .i64 1, .int .i64 0, .int .i64 9, .int .i64 (-1)] 3 (by decide)
  have L9 : Hid (Own (w1.alloc (.cells #[.int .i64 3, .int .i64 4, .int .i64 2, .int .i64 8, .int .i64 1, .int .i64 0, .int .i64 9, .int .i64 (-1)] 3)) w1.heap.size (w1.heap.size + 1) 3 (.slice (some ⟨w1.heap.size, 0, none⟩) 8 8) (iv [3, 4, 2, 8, 1, 0, 9, -1])) := l9
  have hbW : Below w1.heap.size w1 (w1.alloc (.cells #[.int .i64 3, .int .i64 4, .int .i64 2, .int .i64 8, .int .i64 1, .int .i64 0, .int .i64 9, .int .i64 (-1)] 3)) := (Below.refl _ _).alloc (Nat.le_refl _) _
  have R1 := Lib.hid (h.grow hbW)
  have B1 := Lib.hid (hb.trans (hbW.mono hb.size))
  have hRl := h.lt
  have NE : Hid ((Value.slice (some ⟨w1.heap.size, 0, none⟩) 8 8).ownBlock ≠ some R) := by show _ ≠ _; simp [Value.ownBlock]; omega
  have OA := Lib.hid (one_any [3, 4, 2, 8, 1, 0, 9, -1] _ w.heap.size R a n cap 0 _ R1 (by omega) L9 NE.out (by decide) (by decide))
  clear l9 hbW h hb hr
  go_wp2_with fail
  refine OA.out.mono ?_
  rintro e w2 ⟨y, hy, rfl, hrd, honly⟩
  have hN : -1 ≤ y ∧ y ≤ 9 := by
    simp only [List.mem_cons, List.not_mem_nil, or_false] at hy
    omega
  have B2 := Lib.hid (B1.out.trans (honly.below hlow))
  clear hy hrd honly
  go_wp2
  go_ret
  exact ⟨y, hN, rfl, B2.out⟩
theorem drawCountPark_x (a : Option Addr) (len cap : Nat) (zs : List Int) (w : World) (hr : IsRow .u8 w a len cap zs) (hl : len ≤ 1048576) (hs : SetX Try.prog w) :
    CallsX Try.prog 22 #[.slice a len cap] w (DrawnIX w) :=
  callsX_lone tameT rfl hs.set drawnIX_like fun w₁ hl₁ => (drawCountPark a len cap zs w₁ (Lib.hid (hr.like hl₁)) hl).mono fun e w' ⟨n, hn, he, hb⟩ =>
    ⟨_, he, n, rfl, by omega, (like_x hl₁).trans (below_x (hb.mono (Nat.le_of_eq hl₁.size.symm)))⟩
set_option maxHeartbeats 800000 in
theorem drawParkTried (a : Option Addr) (len cap : Nat) (zs : List Int) (w : World) (hr : Hid (IsRow .u8 w a len cap zs)) (hl : len ≤ 1048576) :
    Calls Try.prog 27 #[.slice a len cap] w fun e w' => ∃ n : Int, (-1 ≤ n ∧ n ≤ 5) ∧ e = .returned (.int .i64 n) ∧ Below w.heap.size w w' := by
  go_enter Try.func27, Try.ntmps27
  go_wp2_with fail
  refine (newReader_any a len cap zs w hr.out hl).mono ?_
  rintro e w1 ⟨n, R, rfl, h, hb⟩
  have hlow := h.low
  have l9 := lit_own w1 #[.int .i64 3, .int .i64 4, .int .i64 2, .int .i64 1, .int .i64 0, .int .i64 5, .int .i64 (-1)] 3 (by decide)
  have L9 : Hid (Own (w1.alloc (.cells #[.int .i64 3, .int .i64 4, .int .i64 2, .int .i64 1, .int .i64 0, .int .i64 5, .int .i64 (-1)] 3)) w1.heap.size (w1.heap.size + 1) 3 (.slice (some ⟨w1.heap.size, 0, none⟩) 7 7) (iv [3, 4, 2, 1, 0, 5, -1])) := l9
  have hbW : Below w1.heap.size w1 (w1.alloc (.cells #[.int .i64 3, .int .i64 4, .int .i64 2, .int .i64 1, .int .i64 0, .int .i64 5, .int .i64 (-1)] 3)) := (Below.refl _ _).alloc (Nat.le_refl _) _
  have R1 := Lib.hid (h.grow hbW)
  have B1 := Lib.hid (hb.trans (hbW.mono hb.size))
  have hRl := h.lt
  have NE : Hid ((Value.slice (some ⟨w1.heap.size, 0, none⟩) 7 7).ownBlock ≠ some R) := by show _ ≠ _; simp [Value.ownBlock]; omega
  have OA := Lib.hid (one_any [3, 4, 2, 1, 0, 5, -1] _ w.heap.size R a n cap 0 _ R1 (by omega) L9 NE.out (by decide) (by decide))
  clear l9 hbW h hb hr
  go_wp2_with fail
  refine OA.out.mono ?_
  rintro e w2 ⟨y, hy, rfl, hrd, honly⟩
  have hN : -1 ≤ y ∧ y ≤ 5 := by
    simp only [List.mem_cons, List.not_mem_nil, or_false] at hy
    omega
  have B2 := Lib.hid (B1.out.trans (honly.below hlow))
  clear hy hrd honly
  go_wp2
  go_ret
  exact ⟨y, hN, rfl, B2.out⟩
theorem drawParkTried_x (a : Option Addr) (len cap : Nat) (zs : List Int) (w : World) (hr : IsRow .u8 w a len cap zs) (hl : len ≤ 1048576) (hs : SetX Try.prog w) :
    CallsX Try.prog 27 #[.slice a len cap] w (DrawnIX w) :=
  callsX_lone tameT rfl hs.set drawnIX_like fun w₁ hl₁ => (drawParkTried a len cap zs w₁ (Lib.hid (hr.like hl₁)) hl).mono fun e w' ⟨n, hn, he, hb⟩ =>
    ⟨_, he, n, rfl, by omega, (like_x hl₁).trans (below_x (hb.mono (Nat.le_of_eq hl₁.size.symm)))⟩
set_option maxHeartbeats 800000 in
theorem lawPower_any (x n : Nat) (w : World) (hx : x ≤ 9) (hn : n ≤ 8) :
    Calls Try.prog 36 #[.int .i64 (x : Int), .int .i64 (n : Int)] w fun e w' => e = .returned (.int .i64 ((x ^ n : Nat) : Int)) ∧ w = w' := by
  obtain ⟨r, hr⟩ : ∃ r : Nat, r = x ^ n := ⟨_, rfl⟩
  rw [← hr]
  have HR := Lib.hid hr
  clear hr
  go_enter Try.func36, Try.ntmps36
  go_wp2
  go_loop [1, 5] (fun i out => ∃ k p : Nat, k ≤ n ∧ i = .int .i64 ((n - k : Nat) : Int) ∧ out = .int .i64 (p : Int) ∧ Hid (p = x ^ k)) (fun i _ => (intOf i).toNat)
  case atStart => exact ⟨0, 1, Nat.zero_le _, rfl, rfl, rfl⟩
  case round =>
    obtain ⟨k, p, hk, rfl, rfl, HP⟩ := hrel
    by_cases hlt : k < n
    · have b1 : (0 : Int) < ((n - k : Nat) : Int) := by omega
      have hp := pow9_le x hx k (by omega)
      rw [← HP.out] at hp
      have hm : p * x ≤ 43046721 * 9 := Nat.mul_le_mul hp hx
      have hmc : (p : Int) * (x : Int) = ((p * x : Nat) : Int) := by push_cast; rfl
      have e1 : IntKind.i64.wrap ((p : Int) * (x : Int)) = ((p * x : Nat) : Int) := by rw [hmc, IntKind.wrap_i64]; omega
      have e2 : IntKind.i64.wrap (((n - k : Nat) : Int) - 1) = ((n - (k + 1) : Nat) : Int) := by rw [IntKind.wrap_i64]; omega
      have HP2 : Hid (p * x = x ^ (k + 1)) := by show _ = _; rw [Nat.pow_succ, ← HP.out]
      clear hp hm hmc HP
      go_wp2
      go_round
      case rel => exact ⟨k + 1, p * x, by omega, by first | rfl | rw [e2], by first | rfl | rw [e1], HP2⟩
      case measure => first | (rw [e2]; simp [intOf]; omega) | (simp [intOf]; omega)
    · obtain rfl : k = n := by omega
      have b1 : ¬ (0 : Int) < ((k - k : Nat) : Int) := by omega
      go_wp2
      go_ret
      exact ⟨by rw [HR.out, HP.out]; rfl, rfl⟩
end Go.Proofs.Ytchfnbcpjiiphaa
