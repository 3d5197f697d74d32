/-
  The program's SpanByCuts, of any rows.
-/
import Derived.Test.YtohbkpccfhciaaaCCutP
import Derived.Test.YtohbkpccfhciaaaCWebS
namespace Go.Proofs.Ytohbkpccfhciaaa
open Go.RowKit

set_option maxHeartbeats 1600000 in
theorem spanByCuts_r (n : Int) (rows : List (List Int)) (a : Option Addr) (cv : Nat) (w : World) {H0 : Nat} (hR : Hid (RdR w H0 a rows)) (hH : H0 ≤ w.heap.size) :
    Calls Try.prog 16 #[.int .i64 n, .slice a rows.length cv] w fun e w' => e = .returned (.int .i64 (spanC n rows)) ∧ Below w.heap.size w w' := by
  have C := Lib.hid (webEdges_p n rows a cv w hR hH)
  obtain ⟨m, hm⟩ : ∃ m, m = rows.length := ⟨_, rfl⟩
  cases ht : webB n rows with
  | false =>
    rw [spanC, if_neg (by rw [ht]; decide)]
    rw [ht] at C
    rw [← hm] at C ⊢
    clear hR hm ht
    go_enter Try.func16, Try.ntmps16
    go_wp2_with fail
    refine C.out.mono ?_
    rintro e w1 ⟨x, rfl, _, hb⟩
    have HB := Lib.hid hb
    clear hb C
    go_wp2
    go_ret
    exact ⟨rfl, HB.out⟩
  | true =>
    rw [spanC, if_pos ht]
    rw [ht] at C
    obtain ⟨N, rfl, h1, h5, _, hE, h8, hlr⟩ := web_rows ht
    rw [Int.toNat_natCast]
    have HS := Lib.hid (cutP_spans h1 hE)
    have hwl : (webN rows).length ≤ 8 := by rw [webN_length]; omega
    have hwE : Hid (∀ e ∈ webN rows, e.1 < N ∧ e.2 < N) := norm_lt hE
    have HLab : Hid (∃ lab, Lab N (fun v => v) lab ∧ ∀ v, v < N → lab v < N) := ⟨_, lab_id N, fun _ h => h⟩
    obtain ⟨z, hz⟩ : ∃ z, z = (spansN N (edgesR rows)).length := ⟨_, rfl⟩
    rw [← hz] at HS ⊢
    have CT := Lib.hid (fun (x : Value) (W : World) (B H : Nat) (hx : ERow W B H x (webN rows)) (hH : H ≤ W.heap.size) => by
      obtain ⟨ax, cx, e, h2, h3, h4⟩ := RdF.of hx
      exact (show ∃ ax cx, x = .slice ax (webN rows).length cx ∧ Calls Try.prog 39 #[.int .i64 (N : Int), partsV (fun v => v), .slice ax (webN rows).length cx] W fun e w' => e = .returned (.int .i64 (z : Int)) ∧ Below W.heap.size W w' from ⟨ax, cx, e, by
        have := cutSpans_p h5 (webN rows) (webN rows).length N cx (fun v => v) ax W H rfl hwl h2 h3 h5 HLab hwE hH (Lib.hid h4)
        rwa [show cutP N (fun v => v) (webN rows) = z from HS.out] at this⟩))
    obtain ⟨q, hq⟩ : ∃ q, q = (webN rows).length := ⟨_, rfl⟩
    simp only [← hq] at CT
    rw [← hm] at C ⊢
    clear hR hm ht hE hz hlr h8 hwl hq
    go_enter Try.func16, Try.ntmps16
    go_wp2_with fail
    refine C.out.mono ?_
    rintro e w1 ⟨x, rfl, hx, hb⟩
    have HB := Lib.hid hb
    have HX := Lib.hid (hx trivial)
    clear hb C hx
    go_wp2_with fail
    refine (oneEach_p w1).mono ?_
    rintro e w2 ⟨rfl, b2⟩
    have HX2 := Lib.hid (HX.out.below b2)
    have HB2 := Lib.hid (HB.out.trans (b2.mono HB.out.size))
    have s2 := b2.size
    obtain ⟨ax, cx, rfl, CC⟩ := CT.out x w2 _ _ HX2.out s2
    have CC := Lib.hid CC
    clear b2 HX HB CT
    go_wp2_with fail
    refine CC.out.mono ?_
    rintro e w3 ⟨rfl, b3⟩
    have HB3 := Lib.hid (HB2.out.trans (b3.mono HB2.out.size))
    clear b3 CC
    go_wp2
    go_ret
    exact ⟨rfl, HB3.out⟩
/-- the program's count edge by edge, of any rows -/
theorem spanByCuts_p (n : Int) (rows : List (List Int)) (v : Value) (RV : List Value) (w : World) (B0 H0 : Nat) (hG : Hid (Grid w B0 H0 v RV rows)) (hH : H0 ≤ w.heap.size) (_hrl : rows.length ≤ 1048576) (_hrs : ∀ r ∈ rows, r.length ≤ 1048576) (_hwf : (Lit.int .i64 n).wf = true) :
    Calls Try.prog 16 #[.int .i64 n, v] w fun e w' => e = .returned (.int .i64 (spanC n rows)) ∧ Below w.heap.size w w' := by
  obtain ⟨a, cv, rfl, hR⟩ := grid_rd hG.out
  exact spanByCuts_r n rows a cv w (Lib.hid hR) hH
end Go.Proofs.Ytohbkpccfhciaaa
