/-
  The contract of the program's function that answers the words one turn away from any of some words, which it ranges over in an order that nobody knows.
-/
import Derived.Test.YtcfenbienebbjaaCTurnP
import Derived.Maps.RangeWalk
import Derived.Maps.Ext
import Derived.Sort.KeysCollected
namespace Go.Proofs.Ytcfenbienebbjaa
open Go.RowKit

theorem lawS : Maps.Keyed Try.prog 9 := Maps.string_keyed Try.underlying9
/-- a bool, apart, so that no case is taken on it -/
structure Bl where
  val : Bool
theorem bool_inv {P : Program} {e : TypeId} (he : P.underlying e = some .bool) {v : Value} {z : DataW Unit × List MemPlace} (h : plainElem P e v = some z) : ∃ c : Bl, v = .bool c.val := by
  unfold plainElem at h
  rw [he] at h
  cases v <;> simp at h
  exact ⟨⟨_⟩, rfl⟩
theorem strKey (y : List UInt8) : WideAt.IsKeyLit (.string y) := trivial
/-- a map's keys are just these texts -/
def KeysAre (D : DataW Unit) (S : List UInt8 → Prop) : Prop := ∀ kl, Maps.has D kl = true ↔ ∃ x, S x ∧ kl = .string x
theorem keys_put {D : DataW Unit} {S : List UInt8 → Prop} (hm : Maps.IsMap D) (h : KeysAre D S) (y : List UInt8) (d : DataW Unit) : KeysAre (D.put (.string y) d) (fun x => S x ∨ x = y) := by
  intro kl
  by_cases e : kl = .string y
  · subst e
    rw [Maps.has_put_same hm (strKey y)]
    exact ⟨fun _ => ⟨y, .inr rfl, rfl⟩, fun _ => rfl⟩
  · rw [Maps.has_put_other e, h kl]
    constructor
    · rintro ⟨x, hx, rfl⟩; exact ⟨x, .inl hx, rfl⟩
    · rintro ⟨x, hx | hx, rfl⟩
      · exact ⟨x, hx, rfl⟩
      · exact absurd (by rw [hx]) e
theorem keys_del {D : DataW Unit} {S : List UInt8 → Prop} (h : KeysAre D S) (y : List UInt8) : KeysAre (D.del (.string y)) (fun x => S x ∧ x ≠ y) := by
  intro kl
  by_cases e : kl = .string y
  · subst e
    rw [Maps.has_del_same]
    constructor
    · intro h'; cases h'
    · rintro ⟨x, ⟨_, hne⟩, e⟩
      exact absurd (by cases e; rfl) hne
  · rw [Maps.has_del_other e, h kl]
    constructor
    · rintro ⟨x, hx, rfl⟩; exact ⟨x, ⟨hx, fun e' => e (by rw [e'])⟩, rfl⟩
    · rintro ⟨x, ⟨hx, _⟩, rfl⟩; exact ⟨x, hx, rfl⟩
theorem KeysAre.iff {D : DataW Unit} {S T : List UInt8 → Prop} (h : KeysAre D S) (hst : ∀ x, S x ↔ T x) : KeysAre D T := fun kl => by
  rw [h kl]
  exact ⟨fun ⟨x, hx, e⟩ => ⟨x, (hst x).1 hx, e⟩, fun ⟨x, hx, e⟩ => ⟨x, (hst x).2 hx, e⟩⟩
theorem keys_none : KeysAre (.map [] : DataW Unit) (fun _ => False) := fun kl => ⟨fun h => (by cases h), fun ⟨_, h, _⟩ => h.elim⟩
theorem same_str (x y : List UInt8) : (Lit.string x).sameKey (.string y) = decide (x = y) := by
  by_cases h : x = y
  · subst h; rw [WideAt.sameKey_self (strKey x)]; simp
  · rw [Maps.sameKey_ne (fun e => h (by cases e; rfl))]; simp [h]
theorem turnsTx_small {l y : List UInt8} (h : y ∈ turnsTx l) : y.length ≤ 18 := by
  cases hv : valid l with
  | false => rw [turnsTx, if_neg (by rw [hv]; decide)] at h; simp at h
  | true =>
    obtain ⟨t, rfl, h9⟩ := valid_tree hv
    rw [turnsTx_in h9, mem_turnsOut] at h
    obtain ⟨u, hu, rfl⟩ := h
    rw [Tw.lst_length, Tw.turns_size _ _ hu]
    omega
theorem below_grown {w w' : World} (h : Below w.heap.size w w') : w.grownBy w' none := ⟨h.os, h.tape, h.output, h.size, fun i hi _ => h.block i hi⟩

/-- a map in new memory whose keys are just these texts -/
def NearOut (S : List UInt8 → Prop) (n : Nat) (w : World) (e : Ending) (w' : World) : Prop :=
  ∃ g D, e = .returned (.map (some g)) ∧ w.heap.size ≤ g ∧ w'.ownsMap Try.prog 9 (plainElem (H := Unit) Try.prog 4) g n D ∧ KeysAre D S ∧ Below w.heap.size w w'

/-- what stands in a round: the loop over the words, and the words met so far -/
structure Nr (w0 wr : World) (b g r n : Nat) (D : DataW Unit) (left : Lit → Bool) (cnt nn : Nat) (Dn : DataW Unit) (S : List UInt8 → Prop) : Prop where
  rg : wr.ranges Try.prog 9 (plainElem (H := Unit) Try.prog 4) b r n D left cnt
  own : wr.ownsMap Try.prog 9 (plainElem (H := Unit) Try.prog 4) g nn Dn
  keys : KeysAre Dn S
  below : Below w0.heap.size w0 wr
  far : b ≠ g ∧ r ≠ g ∧ w0.heap.size ≤ g ∧ w0.heap.size ≤ r

set_option maxHeartbeats 1600000 in
set_option maxRecDepth 100000 in
theorem wordsNear_any (b n : Nat) (D : DataW Unit) (S : List UInt8 → Prop) (w : World) (hown : w.ownsMap Try.prog 9 (plainElem (H := Unit) Try.prog 4) b n D) (hS : KeysAre D S) (hn : n ≤ 1099511627776) :
    Calls Try.prog 40 #[.map (some b)] w (NearOut (fun y => ∃ x, S x ∧ y ∈ turnsTx x) (8 * n) w) := by
  have hmm := @run_makeMap Try.prog
  have hbl := hown.lt
  have e1 : (w.alloc (.map #[] 0)).heap.size = w.heap.size + 1 := by simp
  have HS := Lib.hid hS
  have hsz := hown.size_le
  go_enter Try.func40, Try.ntmps40
  go_wp2_with (first
    | (at_range; refine wpList_range_own _ rfl _ 56 rfl 9 4 lawS Try.underlying56 _ b n _ rfl (hown.alloc _) ?_; intro w0 hrg0 hg0 hs0)
    | go_in)
  go_frame
  rw [e1] at hrg0 hs0 ⊢
  go_loopw [4] (fun _ wr => ∃ (left : Lit → Bool) (cnt nn : Nat) (Dn : DataW Unit), nn + 8 * cnt ≤ 8 * n ∧ Hid (Nr w wr b w.heap.size (w.heap.size + 1) n D left cnt nn Dn (fun y => ∃ x, S x ∧ left (.string x) = false ∧ y ∈ turnsTx x)))
    (fun _ wr => wr.rangeLeft b (w.heap.size + 1))
  case atStart =>
    refine ⟨_, _, 0, .map [], by omega, hrg0, (World.ownsMap_made _ _ _ _).kept hg0 (by simp), ?_, ((Below.refl _ _).alloc (Nat.le_refl _) _).grown hg0 (by simp) (fun j hj => by cases hj), by omega, by omega, Nat.le_refl _, by omega⟩
    refine keys_none.iff fun y => ⟨False.elim, fun ⟨x, hx, hl, _⟩ => ?_⟩
    rw [(hS (.string x)).2 ⟨x, hx, rfl⟩] at hl
    cases hl
  case round =>
    clear hrg0 hg0 hs0
    obtain ⟨left, cnt, nn, Dn, hcs, P⟩ := hrel
    have hrg := P.out.rg
    go_wp2_with (first
      | (at_next; refine wpList_next_ranges _ rfl _ rfl 9 lawS (plainElem (H := Unit) Try.prog 4) Go.Proofs.encStr (fun z : Bl => Value.bool z.val) (fun key kl hk => by obtain ⟨x, hx, _⟩ := Maps.keyOf_str Try.underlying9 hk; exact ⟨x, hx⟩) (fun v y hv => bool_inv Try.underlying4 hv) b (w.heap.size + 1) n _ _ _ rfl hrg ?_ ?_)
      | go_in)
    · -- nothing is left
      intro hc0 hl0
      go_wp2
      go_ret
      refine ⟨_, Dn, rfl, Nat.le_refl _, P.out.own.mono (by omega), P.out.keys.iff fun y => ?_, P.out.below⟩
      exact ⟨fun ⟨x, h1, _, h2⟩ => ⟨x, h1, h2⟩, fun ⟨x, h1, h2⟩ => ⟨x, h1, hl0 _, h2⟩⟩
    · -- a word has come
      intro x c kl yd yp w1 cnt1 hkey hlk hv hat hrg1 hlt hg1 hs1 hen
      obtain ⟨x', ex, rfl, hxl⟩ := Maps.keyOf_str Try.underlying9 hkey
      obtain rfl : x = x' := by simpa [Go.Proofs.encStr] using ex
      have hSx : S x := by
        obtain ⟨z, hz, e⟩ := (HS.out (.string x)).1 (Maps.has_true_of_atKey hat)
        cases e; exact hz
      obtain ⟨f1, f2, f3, f4⟩ := P.out.far
      have P1 : Hid (Nr w w1 b w.heap.size (w.heap.size + 1) n D (fun z => left z && !z.sameKey (.string x)) cnt1 nn Dn (fun y => ∃ x, S x ∧ left (.string x) = false ∧ y ∈ turnsTx x)) :=
        ⟨hrg1, P.out.own.kept hg1 (by simp), P.out.keys, P.out.below.grown hg1 P.out.below.size (fun j hj => by cases hj; omega), f1, f2, f3, f4⟩
      have hgl := P.out.own.lt
      have hgl1 := Lib.hid (show w.heap.size < w1.heap.size by omega)
      have hle0 := hrg.left_eq
      have HLE := Lib.hid hle0
      have hkd : (⟨x.toArray⟩ : ByteArray).data.toList = x := by simp
      have hks : (⟨x.toArray⟩ : ByteArray).size ≤ maxLen := by rw [← size_list, hkd]; exact hxl
      have CT := implTurnsOf_any ⟨x.toArray⟩ w1 hks
      rw [hkd] at CT
      have CT := Lib.hid CT
      have hL8 := turnsTx_length x
      have hsm : ∀ y ∈ turnsTx x, y.length ≤ 18 := fun y hy => turnsTx_small hy
      obtain ⟨L, hL⟩ : ∃ L, L = turnsTx x := ⟨_, rfl⟩
      rw [← hL] at CT hL8 hsm
      have HL := Lib.hid hL
      have HSM := Lib.hid hsm
      have HSx := Lib.hid hSx
      obtain ⟨G, hG⟩ : ∃ G, G = w.heap.size := ⟨_, rfl⟩
      obtain ⟨left1, hl1⟩ : ∃ left1, left1 = fun z : Lit => left z && !z.sameKey (.string x) := ⟨_, rfl⟩
      rw [← hl1] at P1
      have HL1 := Lib.hid hl1
      clear hs1 hrg1 hg1 hkey ex hlk hv hat P hrg f1 f2 f3 f4 hgl hle0 hkd hks hL hsm hSx hl1 hxl
      go_wp2_with (go_at_call 8; refine CT.out.mono ?_; rintro e w2 ⟨v, rfl, ho, hb⟩; obtain ⟨av, cv, rfl, _, hcv, _, _⟩ := ho.slice; rw [sv_length] at ho hcv ⊢)
      have P2 : Hid (Nr w w2 b w.heap.size (w.heap.size + 1) n D left1 cnt1 nn Dn (fun y => ∃ x, S x ∧ left (.string x) = false ∧ y ∈ turnsTx x)) :=
        ⟨P1.out.rg.kept (below_grown hb) (by simp) (by simp), P1.out.own.kept (below_grown hb) (by simp), P1.out.keys, P1.out.below.trans (hb.mono P1.out.below.size), P1.out.far⟩
      have HO := Lib.hid ho
      clear ho hb P1 CT hen
      go_loopw [17] (fun i wi => ∃ (q nq : Nat) (Dq : DataW Unit), q ≤ L.length ∧ nq ≤ nn + q ∧ i = .int .i64 q ∧ Hid (Nr w wi b w.heap.size (w.heap.size + 1) n D left1 cnt1 nq Dq (fun y => (∃ x, S x ∧ left (.string x) = false ∧ y ∈ turnsTx x) ∨ y ∈ L.take q)) ∧ Hid (Own wi w1.heap.size w2.heap.size 9 (.slice av L.length cv) (sv L))) (fun i _ => L.length - (intOf i).toNat)
      case atStart =>
        refine ⟨0, nn, Dn, Nat.zero_le _, Nat.le_refl _, rfl, ?_, HO⟩
        exact ⟨P2.out.rg, P2.out.own, P2.out.keys.iff fun y => by simp, P2.out.below, P2.out.far⟩
      case round =>
        clear P2 HO
        obtain ⟨q, nq, Dq, hq, hnq, rfl, P3, HO⟩ := hrel
        by_cases hlq : q < L.length
        · obtain ⟨gv, rfl, hgv, _, hc, _⟩ := HO.out.at_ q (by rw [sv_length]; exact hlq)
          rw [sv_get L q hlq] at hc
          have b1 : (q : Int) < (L.length : Int) := by omega
          have hm := HSM.out _ (List.getElem_mem hlq)
          have TK : Hid (∀ y, y ∈ L.take (q + 1) ↔ y ∈ L.take q ∨ y = L[q]) := fun y => by
            rw [List.take_succ_eq_append_getElem hlq, List.mem_append, List.mem_singleton]
          obtain ⟨y, hy⟩ : ∃ y, y = L[q] := ⟨_, rfl⟩
          rw [← hy] at hc hm TK
          have hyd : (⟨y.toArray⟩ : ByteArray).data.toList = y := by simp
          have hys : (⟨y.toArray⟩ : ByteArray).size ≤ maxLen := by
            have := size_list ⟨y.toArray⟩
            rw [hyd] at this
            unfold maxLen; omega
          have hown3 := P3.out.own
          have hky := Go.WideMaps.keyOf_string_mk (P := Try.prog) Try.underlying9 hys
          rw [hyd] at hky
          have KY := Lib.hid hky
          have hnm : nq < maxLen := by unfold maxLen; omega
          have HGV := Lib.hid (show gv ≠ w.heap.size by have := hgl1.out; omega)
          clear hy hm hyd hys hky
          go_wp2_with (first
            | (at_mapUpdate; refine wpList_mapUpdate_own _ rfl _ _ _ 56 rfl 9 4 lawS Try.underlying56 _ w.heap.size nq Dq rfl hown3 hnm _ _ _ rfl rfl KY.out _ [] (plainElem_bool Try.underlying4 true) ?_; intro w5 hown5 hg5; go_frame)
            | go_in)
          have P5 : Hid (Nr w w5 b w.heap.size (w.heap.size + 1) n D left1 cnt1 (nq + 1) (Dq.put (.string y) (.lit (.bool true))) (fun y => (∃ x, S x ∧ left (.string x) = false ∧ y ∈ turnsTx x) ∨ y ∈ L.take (q + 1))) := by
            obtain ⟨f1, f2, f3, f4⟩ := P3.out.far
            refine ⟨P3.out.rg.kept hg5 (fun e => f1 (Option.some.inj e)) (fun e => f2 (Option.some.inj e)), hown5, (keys_put hown3.isMap P3.out.keys y _).iff fun z => ?_, P3.out.below.grown hg5 P3.out.below.size (fun j hj => by cases hj; exact f3), f1, f2, f3, f4⟩
            rw [TK.out, or_assoc]
          have HO5 := Lib.hid (HO.out.grown hg5 (.inr (by simp only [Value.ownBlock, ne_eq, Option.some.injEq]; exact HGV.out)))
          clear hown5 hg5 hown3 P3 HO
          go_roundw
          case rel => exact ⟨q + 1, nq + 1, _, by omega, by omega, by go_num, P5, HO5⟩
          case measure => simp [intOf]; omega
        · obtain rfl : q = L.length := by omega
          go_wp2
          go_roundw
          case rel =>
            refine ⟨left1, cnt1, nq, Dq, by omega, P3.out.rg, P3.out.own, P3.out.keys.iff fun y => ?_, P3.out.below, P3.out.far⟩
            rw [List.take_length, HL.out]
            constructor
            · rintro (⟨z, h1, h2, h3⟩ | h)
              · exact ⟨z, h1, by rw [HL1.out]; simp [h2], h3⟩
              · exact ⟨x, HSx.out, by rw [HL1.out]; simp [WideAt.sameKey_self (strKey x)], h⟩
            · rintro ⟨z, h1, h2, h3⟩
              rw [HL1.out] at h2
              simp only [same_str, Bool.and_eq_false_iff, Bool.not_eq_false', decide_eq_true_eq] at h2
              rcases h2 with h2 | rfl
              · exact .inl ⟨z, h1, h2, h3⟩
              · exact .inr h3
          case measure => rw [P3.out.rg.left_eq, HLE.out]; exact hlt
end Go.Proofs.Ytcfenbienebbjaa
