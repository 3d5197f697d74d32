/-
  Functions of loads by their answers: the two forms, and the model's functions.
-/
import Derived.Test.YtakpbnkncjddeaaCJcS
import Derived.Test.YtakpbnkncjddeaaCBcS
import Derived.Test.YtakpbnkncjddeaaCFcS
import Derived.Test.YtakpbnkncjddeaaCJtS
import Derived.Test.YtakpbnkncjddeaaCFbT
namespace Go.Proofs.Ytakpbnkncjddeaa
open Go.RowKit

/-- what the program's function on loads is to answer -/
def LoadFn (f : FuncId) (val : List Int → Int) : Prop :=
  ∀ (l : List Int) (a : Option Addr) (cv : Nat) (w : World) (H : Nat), Hid (RdI w H a l) → H ≤ w.heap.size → l.length ≤ 1048576 → l.length ≤ cv →
    Calls Try.prog f #[.slice a l.length cv] w fun e w' => e = .returned (.int .i64 (val l)) ∧ Below w.heap.size w w'
def LoadBFn (f : FuncId) (val : List Int → Bool) : Prop :=
  ∀ (l : List Int) (a : Option Addr) (cv : Nat) (w : World) (H : Nat), Hid (RdI w H a l) → H ≤ w.heap.size → l.length ≤ 1048576 → l.length ≤ cv →
    Calls Try.prog f #[.slice a l.length cv] w fun e w' => e = .returned (.bool (val l)) ∧ Below w.heap.size w w'
/-- the same in every later world of one and the same start -/
theorem LoadFn.at_ {f : FuncId} {val : List Int → Int} (h : LoadFn f val) {l : List Int} {a : Option Addr} {cv n B : Nat} {w1 : World} (hR : RdI w1 w1.heap.size a l) (hl : l.length = n) (hn : n ≤ 1048576) (hcv : n ≤ cv) (hB : B ≤ w1.heap.size) :
    Hid (∀ (w0 W : World), Below w1.heap.size w1 W → Below B w0 W → Calls Try.prog f #[.slice a n cv] W fun e w' => e = .returned (.int .i64 (val l)) ∧ Below w1.heap.size w1 w' ∧ Below B w0 w') := fun w0 W hW h0 => by
  subst hl
  exact (h l a cv W w1.heap.size (hR.below hW) hW.size hn hcv).mono fun e w' q => ⟨q.1, hW.trans (q.2.mono hW.size), h0.trans (q.2.mono (Nat.le_trans hB hW.size))⟩
theorem LoadBFn.at_ {f : FuncId} {val : List Int → Bool} (h : LoadBFn f val) {l : List Int} {a : Option Addr} {cv n B : Nat} {w1 : World} (hR : RdI w1 w1.heap.size a l) (hl : l.length = n) (hn : n ≤ 1048576) (hcv : n ≤ cv) (hB : B ≤ w1.heap.size) :
    Hid (∀ (w0 W : World), Below w1.heap.size w1 W → Below B w0 W → Calls Try.prog f #[.slice a n cv] W fun e w' => e = .returned (.bool (val l)) ∧ Below w1.heap.size w1 w' ∧ Below B w0 w') := fun w0 W hW h0 => by
  subst hl
  exact (h l a cv W w1.heap.size (hR.below hW) hW.size hn hcv).mono fun e w' q => ⟨q.1, hW.trans (q.2.mono hW.size), h0.trans (q.2.mono (Nat.le_trans hB hW.size))⟩
theorem specValidLoads_fn : LoadBFn 14 loadB := fun l a cv w _ hR _ hl _ =>
  (specValidLoads_any l a cv w hR hl).mono fun e w' q => ⟨q.1, by rw [← q.2]; exact Below.refl _ _⟩
theorem specJoinCost_fn : LoadFn 18 jcI := fun l a cv w _ hR hH hl _ => specJoinCost_any l a cv w hR hH hl
theorem specBesideCost_fn : LoadFn 24 bcI := fun l a cv w _ hR hH hl hcv => specBesideCost_any l a cv w hR hH hl hcv
theorem specJoinTried_fn : LoadFn 22 jtI := fun l a cv w _ hR hH hl _ => specJoinTried_any l a cv w hR hH hl
theorem specFindCost_fn : LoadFn 27 fcI := fun l a cv w _ hR hH hl hcv => specFindCost_any l a cv w hR hH hl hcv
theorem specFindTried_fn : LoadFn 34 ftI := fun l a cv w _ hR hH hl hcv => specFindTried_any l a cv w hR hH hl hcv
/-- a function of loads and a text, by its answer -/
def FindFn (f : FuncId) : Prop :=
  ∀ (l : List Int) (a : Option Addr) (cv : Nat) (s : ByteArray) (w : World) (H : Nat), Hid (RdI w H a l) → H ≤ w.heap.size → l.length ≤ 1048576 → l.length ≤ cv → s.size ≤ maxLen →
    Calls Try.prog f #[.slice a l.length cv, .string s] w fun e w' => e = .returned (.int .i64 (fbI l s.data.toList)) ∧ Below w.heap.size w w'
theorem specFindBy_fn : FindFn 32 := fun l a cv s w _ hR _ hl hcv hs =>
  (specFindBy_any l a cv s w hR hl hcv hs).mono fun e w' q => ⟨q.1, by obtain ⟨m, hm⟩ := q.2; rw [hm]; exact ⟨rfl, rfl, rfl, Nat.le_refl _, fun _ _ => rfl⟩⟩
theorem FindFn.at_ {f : FuncId} (h : FindFn f) {l : List Int} {a : Option Addr} {cv n B : Nat} {s : ByteArray} {w1 : World} (hR : RdI w1 w1.heap.size a l) (hl : l.length = n) (hn : n ≤ 1048576) (hcv : n ≤ cv) (hs : s.size ≤ maxLen) (hB : B ≤ w1.heap.size) :
    Hid (∀ (w0 W : World), Below w1.heap.size w1 W → Below B w0 W → Calls Try.prog f #[.slice a n cv, .string s] W fun e w' => e = .returned (.int .i64 (fbI l s.data.toList)) ∧ Below w1.heap.size w1 w' ∧ Below B w0 w') := fun w0 W hW h0 => by
  subst hl
  exact (h l a cv s W w1.heap.size (hR.below hW) hW.size hn hcv hs).mono fun e w' q => ⟨q.1, hW.trans (q.2.mono hW.size), h0.trans (q.2.mono (Nat.le_trans hB hW.size))⟩
theorem loadFn_own {f : FuncId} {val : List Int → Int} (h : LoadFn f val) (l : List Int) (v : Value) (w : World) {B H : Nat} (hv : Hid (Own w B H 3 v (iv l))) (hH : H ≤ w.heap.size) (hl : l.length ≤ 1048576) :
    Calls Try.prog f #[v] w fun e w' => e = .returned (.int .i64 (val l)) ∧ Below w.heap.size w w' := by
  obtain ⟨av, cv, rfl, _, hcv, _, _⟩ := hv.out.slice
  rw [iv_length] at hv hcv ⊢
  exact h l av cv w H (Lib.hid (own_rdG hv.out).2) hH hl hcv
theorem loadBFn_own {f : FuncId} {val : List Int → Bool} (h : LoadBFn f val) (l : List Int) (v : Value) (w : World) {B H : Nat} (hv : Hid (Own w B H 3 v (iv l))) (hH : H ≤ w.heap.size) (hl : l.length ≤ 1048576) :
    Calls Try.prog f #[v] w fun e w' => e = .returned (.bool (val l)) ∧ Below w.heap.size w w' := by
  obtain ⟨av, cv, rfl, _, hcv, _, _⟩ := hv.out.slice
  rw [iv_length] at hv hcv ⊢
  exact h l av cv w H (Lib.hid (own_rdG hv.out).2) hH hl hcv
theorem findFn_own {f : FuncId} (h : FindFn f) (l : List Int) (s : ByteArray) (v : Value) (w : World) {B H : Nat} (hv : Hid (Own w B H 3 v (iv l))) (hH : H ≤ w.heap.size) (hl : l.length ≤ 1048576) (hs : s.size ≤ maxLen) :
    Calls Try.prog f #[v, .string s] w fun e w' => e = .returned (.int .i64 (fbI l s.data.toList)) ∧ Below w.heap.size w w' := by
  obtain ⟨av, cv, rfl, _, hcv, _, _⟩ := hv.out.slice
  rw [iv_length] at hv hcv ⊢
  exact h l av cv s w H (Lib.hid (own_rdG hv.out).2) hH hl hcv hs
end Go.Proofs.Ytakpbnkncjddeaa
