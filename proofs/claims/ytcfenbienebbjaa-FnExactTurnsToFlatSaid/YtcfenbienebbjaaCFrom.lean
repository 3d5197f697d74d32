/-
  The contract of the program's function that tells, by each word of as many pairs as one, the fewest turns that lead to it: a map filled layer by layer, the layers ranged over in an order that nobody knows.
-/
import Derived.Test.YtcfenbienebbjaaCNear
namespace Go.Proofs.Ytcfenbienebbjaa
open Go.RowKit

theorem far_step {t u : Tw} {k : Nat} : Tw.Far t u (k + 1) ↔ (∃ c, Tw.Far t c k ∧ u ∈ c.turns) ∧ ¬ ∃ d, d < k + 1 ∧ Tw.Far t u d := by
  constructor
  · intro h
    obtain ⟨c, h1, h2⟩ := h.1
    refine ⟨⟨c, ⟨h1, fun j hj hw => h.2 (j + 1) (by omega) ⟨c, hw, h2⟩⟩, h2⟩, fun ⟨d, hd, hf⟩ => ?_⟩
    have := hf.uniq h
    omega
  · rintro ⟨⟨c, h1, h2⟩, h3⟩
    have hw : Tw.Way (k + 1) t u := ⟨c, h1.1, h2⟩
    obtain ⟨j, hj, hf⟩ := Tw.Far.of_way hw
    by_cases e : j = k + 1
    · rw [e] at hf; exact hf
    · exact absurd ⟨j, by omega, hf⟩ h3
theorem far_down {t u : Tw} {k : Nat} : ∀ (e : Nat), Tw.Far t u (k + e) → ∃ c, Tw.Far t c k := by
  intro e
  induction e generalizing u with
  | zero => intro h; exact ⟨u, h⟩
  | succ e ih =>
    intro h
    obtain ⟨c, hc, _⟩ := (far_step.1 (show Tw.Far t u (k + e + 1) from h)).1
    exact ih hc
theorem far_self (t : Tw) : Tw.Far t t 0 := ⟨rfl, fun j hj => by omega⟩
theorem size_none {P : Program} {k : TypeId} {R : Value → Option (DataW Unit × List MemPlace)} {w : World} {b n : Nat} {D : DataW Unit} (h : w.ownsMap P k R b n D) (hz : Maps.size D = 0) (kl : Lit) : Maps.has D kl = false := by
  obtain ⟨es, rfl⟩ := h.isMap
  have : es = [] := List.eq_nil_of_length_eq_zero hz
  subst this; rfl
theorem size_some {P : Program} {k : TypeId} {R : Value → Option (DataW Unit × List MemPlace)} {w : World} {b n : Nat} {D : DataW Unit} (h : w.ownsMap P k R b n D) (K : Maps.Keyed P k) (hz : Maps.size D ≠ 0) : ∃ kl, Maps.has D kl = true := by
  obtain ⟨es, rfl, _, hk⟩ := h.entries K
  cases es with
  | nil => exact absurd rfl hz
  | cons p r => exact ⟨p.1, List.any_eq_true.2 ⟨p, by simp, WideAt.sameKey_self (hk p (by simp))⟩⟩

/-- the words met, each with its turns -/
def MetAre (D : DataW Unit) (t : Tw) (K : Nat) : Prop :=
  (∀ kl, Maps.has D kl = true ↔ ∃ (u : Tw) (d : Nat), kl = .string u.lst ∧ d < K ∧ Tw.Far t u d) ∧
  ∀ (u : Tw) (d : Nat), d < K → Tw.Far t u d → ∀ z, D.atKey (.string u.lst) z = .lit (.int .i64 (d : Int))
/-- all words of as many pairs, each with its turns -/
def DistAre (D : DataW Unit) (t : Tw) : Prop :=
  (∀ kl, Maps.has D kl = true ↔ ∃ u : Tw, u.size = t.size ∧ kl = .string u.lst) ∧
  ∀ (u : Tw), u.size = t.size → ∀ z, D.atKey (.string u.lst) z = .lit (.int .i64 ((dist t u : Nat) : Int))
theorem met_all {D : DataW Unit} {t : Tw} {k : Nat} (h6 : t.size ≤ 6) (h : MetAre D t k) (hn : ∀ u, ¬ Tw.Far t u k) : DistAre D t := by
  have hlt : ∀ (u : Tw) (d : Nat), Tw.Far t u d → d < k := fun u d hf => by
    apply Classical.byContradiction
    intro hge
    obtain ⟨c, hc⟩ := far_down (t := t) (u := u) (k := k) (d - k) (by rw [show k + (d - k) = d by omega]; exact hf)
    exact hn c hc
  refine ⟨fun kl => ?_, fun u hu z => ?_⟩
  · rw [h.1 kl]
    constructor
    · rintro ⟨u, d, rfl, _, hf⟩; exact ⟨u, hf.1.size, rfl⟩
    · rintro ⟨u, hu, rfl⟩
      obtain ⟨hf, _⟩ := far_dist hu.symm h6
      exact ⟨u, _, rfl, hlt u _ hf, hf⟩
  · obtain ⟨hf, _⟩ := far_dist hu.symm h6
    exact h.2 u _ (hlt u _ hf) hf z

/-- on the way: those of the layer that are no longer to come stand in the map -/
def Mid (Dm Dn D : DataW Unit) (left : Lit → Bool) (c : DataW Unit) : Prop :=
  ∀ kl, Maps.has D kl = (Maps.has Dm kl || (Maps.has Dn kl && !left kl)) ∧ ∀ z, D.atKey kl z = if (Maps.has Dn kl && !left kl) = true then c else Dm.atKey kl z
theorem mid_start (Dm Dn : DataW Unit) (c : DataW Unit) : Mid Dm Dn Dm (Maps.has Dn) c := fun kl => by
  cases Maps.has Dn kl <;> simp
theorem mid_step {Dm Dn D : DataW Unit} {left : Lit → Bool} {c : DataW Unit} (h : Mid Dm Dn D left c) (hm : Maps.IsMap D) (x : List UInt8) (hx : Maps.has Dn (.string x) = true) :
    Mid Dm Dn (D.put (.string x) c) (fun z => left z && !z.sameKey (.string x)) c := fun kl => by
  by_cases e : kl = .string x
  · subst e
    refine ⟨?_, fun z => ?_⟩
    · rw [Maps.has_put_same hm (strKey x), hx]
      simp [WideAt.sameKey_self (strKey x)]
    · rw [Maps.atKey_put_same hm (strKey x), hx]
      simp [WideAt.sameKey_self (strKey x)]
  · refine ⟨?_, fun z => ?_⟩
    · rw [Maps.has_put_other e, (h kl).1]
      simp [Maps.sameKey_ne e]
    · rw [Maps.atKey_put_other e, (h kl).2 z]
      simp [Maps.sameKey_ne e]
theorem mid_end {Dm Dn D : DataW Unit} {left : Lit → Bool} {t : Tw} {k : Nat} (h : Mid Dm Dn D left (.lit (.int .i64 (k : Int)))) (hl : ∀ kl, left kl = false) (hM : MetAre Dm t k) (hN : KeysAre Dn (fun x => ∃ u : Tw, x = u.lst ∧ Tw.Far t u k)) : MetAre D t (k + 1) := by
  refine ⟨fun kl => ?_, fun u d hd hf z => ?_⟩
  · rw [(h kl).1, hl, Bool.or_eq_true, Bool.not_false, Bool.and_true, hM.1 kl, hN kl]
    constructor
    · rintro (⟨u, d, rfl, hd, hf⟩ | ⟨x, ⟨u, rfl, hf⟩, rfl⟩)
      · exact ⟨u, d, rfl, by omega, hf⟩
      · exact ⟨u, k, rfl, by omega, hf⟩
    · rintro ⟨u, d, rfl, hd, hf⟩
      by_cases e : d = k
      · subst e; exact .inr ⟨_, ⟨u, rfl, hf⟩, rfl⟩
      · exact .inl ⟨u, d, rfl, by omega, hf⟩
  · rw [(h _).2 z, hl, Bool.not_false, Bool.and_true]
    by_cases e : d = k
    · subst e
      rw [if_pos ((hN _).2 ⟨_, ⟨u, rfl, hf⟩, rfl⟩)]
    · rw [if_neg (fun hh => by
        obtain ⟨x, ⟨u', hx, hf'⟩, e'⟩ := (hN _).1 hh
        cases e'
        have := Tw.lst_inj _ _ hx
        subst this
        exact e (hf.uniq hf')), hM.2 u d (by omega) hf z]
/-- on the way: of those near, what was met and is no longer to come is deleted -/
def Del (Dn Dm D : DataW Unit) (left : Lit → Bool) : Prop := ∀ kl, Maps.has D kl = (Maps.has Dn kl && !(Maps.has Dm kl && !left kl))
theorem del_start (Dn Dm : DataW Unit) : Del Dn Dm Dn (Maps.has Dm) := fun kl => by cases Maps.has Dm kl <;> simp
theorem del_step {Dn Dm D : DataW Unit} {left : Lit → Bool} (h : Del Dn Dm D left) (x : List UInt8) (hx : Maps.has Dm (.string x) = true) : Del Dn Dm (D.del (.string x)) (fun z => left z && !z.sameKey (.string x)) := fun kl => by
  by_cases e : kl = .string x
  · subst e
    rw [Maps.has_del_same, hx]
    dsimp only
    rw [WideAt.sameKey_self (strKey x)]
    simp
  · rw [Maps.has_del_other e]
    dsimp only
    rw [Maps.sameKey_ne e, h kl]
    simp
theorem del_end {Dn Dm D : DataW Unit} {left : Lit → Bool} {t : Tw} {k : Nat} (h9 : t.size ≤ 9) (h : Del Dn Dm D left) (hl : ∀ kl, left kl = false) (hM : MetAre Dm t (k + 1)) (hN : KeysAre Dn (fun y => ∃ x, (∃ u : Tw, x = u.lst ∧ Tw.Far t u k) ∧ y ∈ turnsTx x)) :
    KeysAre D (fun x => ∃ u : Tw, x = u.lst ∧ Tw.Far t u (k + 1)) := fun kl => by
  rw [h kl, hl, Bool.not_false, Bool.and_true, Bool.and_eq_true, Bool.not_eq_true', hN kl]
  constructor
  · rintro ⟨⟨y, ⟨x, ⟨u, rfl, hf⟩, hy⟩, rfl⟩, hno⟩
    have hu : u.size ≤ 9 := by rw [hf.1.size]; exact h9
    rw [turnsTx_in hu, mem_turnsOut] at hy
    obtain ⟨v, hv, rfl⟩ := hy
    refine ⟨_, ⟨v, rfl, far_step.2 ⟨⟨u, hf, hv⟩, fun ⟨d, hd, hfd⟩ => ?_⟩⟩, rfl⟩
    rw [(hM.1 _).2 ⟨v, d, rfl, hd, hfd⟩] at hno
    cases hno
  · rintro ⟨x, ⟨v, rfl, hf⟩, rfl⟩
    obtain ⟨⟨u, hu, hv⟩, hno⟩ := far_step.1 hf
    have hu9 : u.size ≤ 9 := by rw [hu.1.size]; exact h9
    refine ⟨⟨_, ⟨u.lst, ⟨u, rfl, hu⟩, ?_⟩, rfl⟩, ?_⟩
    · rw [turnsTx_in hu9, mem_turnsOut]; exact ⟨v, hv, rfl⟩
    · cases hh : Maps.has Dm (.string v.lst) with
      | false => rfl
      | true =>
        obtain ⟨v', d, e, hd, hfd⟩ := (hM.1 _).1 hh
        cases Tw.lst_inj _ _ (Lit.string.inj e)
        exact absurd ⟨d, hd, hfd⟩ hno

/-- what comes back -/
def FromOut (t : Tw) (w : World) (e : Ending) (w' : World) : Prop :=
  ∃ g n D, e = .returned (.map (some g)) ∧ w.heap.size ≤ g ∧ w'.ownsMap Try.prog 9 (plainElem (H := Unit) Try.prog 3) g n D ∧ DistAre D t ∧ Below w.heap.size w w'
/-- what stands before each layer -/
structure Fr (w0 wr : World) (gn G nn nm k : Nat) (t : Tw) (Dn Dm : DataW Unit) : Prop where
  near : wr.ownsMap Try.prog 9 (plainElem (H := Unit) Try.prog 4) gn nn Dn
  met : wr.ownsMap Try.prog 9 (plainElem (H := Unit) Try.prog 3) G nm Dm
  kn : KeysAre Dn (fun x => ∃ u : Tw, x = u.lst ∧ Tw.Far t u k)
  km : MetAre Dm t k
  below : Below w0.heap.size w0 wr
  far : gn ≠ G ∧ w0.heap.size ≤ gn ∧ w0.heap.size ≤ G
  sz : nn ≤ 8 ^ k ∧ nm ≤ k * 1073741824 ∧ k ≤ 11
/-- what stands in a round over the layer -/
structure Ar (w0 wi : World) (gn G r nn nq : Nat) (Dn Dm Dq : DataW Unit) (left : Lit → Bool) (cnt : Nat) (c : DataW Unit) : Prop where
  rg : wi.ranges Try.prog 9 (plainElem (H := Unit) Try.prog 4) gn r nn Dn left cnt
  met : wi.ownsMap Try.prog 9 (plainElem (H := Unit) Try.prog 3) G nq Dq
  mid : Mid Dm Dn Dq left c
  below : Below w0.heap.size w0 wi
  far : gn ≠ G ∧ r ≠ G ∧ w0.heap.size ≤ G ∧ w0.heap.size ≤ r
/-- what stands in a round over what was met -/
structure Cr (w0 wi : World) (g2 G r nn nq : Nat) (Dn Dq Dd : DataW Unit) (left : Lit → Bool) (cnt : Nat) : Prop where
  rg : wi.ranges Try.prog 9 (plainElem (H := Unit) Try.prog 3) G r nq Dq left cnt
  near : wi.ownsMap Try.prog 9 (plainElem (H := Unit) Try.prog 4) g2 nn Dd
  del : Del Dn Dq Dd left
  below : Below w0.heap.size w0 wi
  far : g2 ≠ G ∧ r ≠ g2 ∧ w0.heap.size ≤ g2 ∧ w0.heap.size ≤ r
theorem int_inv {P : Program} {e : TypeId} (he : P.underlying e = some (.int .i64)) {v : Value} {z : DataW Unit × List MemPlace} (h : plainElem P e v = some z) : ∃ c : Int, v = .int .i64 c := by
  obtain ⟨a, h1, _⟩ := plainElem_int_inv he h
  exact ⟨a, h1⟩

set_option maxHeartbeats 3200000 in
set_option maxRecDepth 100000 in
theorem turnsFrom_any (t : Tw) (s : ByteArray) (w : World) (hs : s.data.toList = t.lst) (h6 : t.size ≤ 6) :
    Calls Try.prog 28 #[.string s] w (FromOut t w) := by
  have hmm := @run_makeMap Try.prog
  have e1 : (w.alloc (.map #[] 0)).heap.size = w.heap.size + 1 := by simp
  have hsz : s.size ≤ maxLen := by
    have := Tw.lst_length t
    rw [← hs, size_list] at this
    unfold maxLen; omega
  have hky := Go.WideMaps.keyOf_string_mk (P := Try.prog) Try.underlying9 hsz
  rw [hs] at hky
  obtain ⟨w2, hrun, hnear, hg2⟩ := (World.ownsMap_made (H := Unit) (w.alloc (.map #[] 0)) Try.prog 9 (plainElem Try.prog 4)).update lawS Try.underlying56 (by unfold maxLen; omega) hky (plainElem_bool Try.underlying4 true)
  rw [e1] at hrun hnear hg2
  have F0 : Hid (Fr w w2 (w.heap.size + 1) w.heap.size (0 + 1) 0 0 t (DataW.put (.map []) (.string t.lst) (.lit (.bool true))) (.map [])) := by
    refine ⟨hnear, (((World.ownsMap_made w _ _ _).alloc _).kept hg2 (fun e => by have := Option.some.inj e; omega)), ?_, ?_, ?_, ⟨by omega, by omega, Nat.le_refl _⟩, ⟨by simp, by simp, by omega⟩⟩
    · refine (keys_put Maps.isMap_empty keys_none t.lst _).iff fun x => ⟨?_, ?_⟩
      · rintro (h | rfl)
        · exact h.elim
        · exact ⟨t, rfl, far_self t⟩
      · rintro ⟨u, rfl, hf⟩
        have := hf.zero.1 rfl
        subst this
        exact .inr rfl
    · exact ⟨fun kl => ⟨fun h => (by cases h), fun ⟨_, _, _, h, _⟩ => absurd h (by omega)⟩, fun _ _ h => absurd h (by omega)⟩
    · exact (((Below.refl _ _).alloc (Nat.le_refl _) _).alloc (by omega) _).grown hg2 (by simp; omega) (fun j hj => by cases hj; omega)
  have H6 := Lib.hid h6
  clear hnear hg2 hky hsz hs h6
  go_enter Try.func28, Try.ntmps28
  go_wp2
  clear hrun hmm e1
  go_loopw [4, 5] (fun near turns wr => ∃ (gn nn nm k : Nat) (Dn Dm : DataW Unit), near = .map (some gn) ∧ turns = .int .i64 k ∧ k ≤ 11 ∧ Hid (Fr w wr gn w.heap.size nn nm k t Dn Dm)) (fun _ turns _ => 11 - (intOf turns).toNat)
  case atStart => exact ⟨_, _, _, 0, _, _, rfl, rfl, by omega, F0⟩
  case round =>
    clear F0
    obtain ⟨gn, nn, nm, k, Dn, Dm, rfl, rfl, hk11, F⟩ := hrel
    have hnear := F.out.near
    by_cases hz : Maps.size Dn = 0
    · have hz1 : ((Maps.size Dn : Nat) : Int) ≤ 0 := by omega
      go_wp2_with (first
        | (at_len; refine wpList_len_own _ rfl _ 56 rfl 9 4 Try.underlying56 _ gn nn Dn rfl hnear ?_)
        | go_in)
      go_ret
      refine ⟨_, nm, Dm, rfl, Nat.le_refl _, F.out.met, met_all H6.out F.out.km fun u hf => ?_, F.out.below⟩
      have := size_none hnear hz (.string u.lst)
      rw [(F.out.kn _).2 ⟨_, ⟨u, rfl, hf⟩, rfl⟩] at this
      cases this
    · have hz1 : (0 : Int) < ((Maps.size Dn : Nat) : Int) := by omega
      have hz2 : 0 < Maps.size Dn := by omega
      have hk10 : k ≤ 10 := by
        obtain ⟨kl, hkl⟩ := size_some hnear lawS hz
        obtain ⟨x, ⟨u, rfl, hf⟩, rfl⟩ := (F.out.kn kl).1 hkl
        obtain ⟨d, hd, hf'⟩ := far_ten (a := t) (b := u) hf.1.size.symm H6.out
        have := hf.uniq hf'
        omega
      obtain ⟨f1, f2, f3⟩ := F.out.far
      obtain ⟨s1, s2, _⟩ := F.out.sz
      have hp8 : 8 ^ k ≤ 8 ^ 10 := Nat.pow_le_pow_right (by decide) hk10
      have hsl := hnear.size_le
      have hGlt := F.out.met.lt
      go_wp2_with (first
        | (at_len; refine wpList_len_own _ rfl _ 56 rfl 9 4 Try.underlying56 _ gn nn Dn rfl hnear ?_)
        | (at_range; refine wpList_range_own _ rfl _ 56 rfl 9 4 lawS Try.underlying56 _ gn nn _ rfl hnear ?_; intro w0 hrg0 hg0 hs0)
        | go_in)
      go_frame
      obtain ⟨r, hr⟩ : ∃ r, r = wr.heap.size := ⟨_, rfl⟩
      rw [← hr] at hrg0 ⊢
      have A0 : Hid (Ar w w0 gn w.heap.size r nn nm Dn Dm Dm (Maps.has Dn) (Maps.size Dn) (.lit (.int .i64 (k : Int)))) :=
        ⟨hrg0, F.out.met.kept hg0 (by simp), mid_start _ _ _, F.out.below.grown hg0 F.out.below.size (fun j hj => by cases hj), f1, by omega, f3, by rw [hr]; exact F.out.below.size⟩
      have KM := Lib.hid F.out.km
      have KN := Lib.hid F.out.kn
      have SZ := Lib.hid F.out.sz
      have hsz30 : Hid (nm + Maps.size Dn ≤ (k + 1) * 1073741824) := by show _ ≤ _; omega
      have hnn : nn ≤ 1099511627776 := by omega
      have hwf : (Lit.int .i64 (k : Int)).wf = true := by rw [WalkArith.wf_i64 (by omega)]
      clear hrg0 hg0 hs0 F hnear hr hz hz1 hz2 f1 f2 f3 s1 s2 hp8 hsl hGlt
      go_loopw [6] (fun _ wi => ∃ (left : Lit → Bool) (cnt nq : Nat) (Dq : DataW Unit), Hid (nq + cnt ≤ nm + Maps.size Dn) ∧ Hid (Ar w wi gn w.heap.size r nn nq Dn Dm Dq left cnt (.lit (.int .i64 (k : Int)))))
        (fun _ wi => wi.rangeLeft gn r)
      case atStart => exact ⟨_, _, nm, Dm, Nat.le_refl _, A0⟩
      case round =>
        clear A0
        obtain ⟨left, cnt, nq, Dq, hq, A⟩ := hrel
        have hrg := A.out.rg
        go_wp2_with (first
          | (at_next; refine wpList_next_ranges _ rfl _ rfl 9 lawS (plainElem (H := Unit) Try.prog 4) Go.Proofs.encStr (fun z : Bl => Value.bool z.val) (fun key kl hk => by obtain ⟨x, hx, _⟩ := Maps.keyOf_str Try.underlying9 hk; exact ⟨x, hx⟩) (fun v y hv => bool_inv Try.underlying4 hv) gn r nn _ _ _ rfl hrg ?_ ?_)
          | go_in)
        · -- the layer is through
          intro hc0 hl0
          have MK := Lib.hid (mid_end A.out.mid hl0 KM.out KN.out)
          have hown := hrg.owns
          have hmet := A.out.met
          have hgG := A.out.met.lt
          have HB := Lib.hid A.out.below
          obtain ⟨f1, _, f3, _⟩ := A.out.far
          have hnq : Hid (nq ≤ (k + 1) * 1073741824) := by
            have := hq.out
            have := hsz30.out
            show _ ≤ _; omega
          have CW := Lib.hid (wordsNear_any gn nn Dn _ wr hown KN.out hnn)
          clear hc0 hl0 A hrg hq hsz30 KM KN hwf
          go_wp2_with (first
            | (go_at_call 40; refine CW.out.mono ?_; rintro e w3 ⟨g2, D2, rfl, hge2, hown2, hk2, hb2⟩; have hmet2 := hmet.kept (below_grown hb2) (by simp))
            | (at_range; refine wpList_range_own _ rfl _ 42 rfl 9 3 lawS Try.underlying42 _ w.heap.size nq _ rfl hmet2 ?_; intro w4 hrg4 hg4 hs4)
            | go_in)
          go_frame
          obtain ⟨r2, hr2⟩ : ∃ r2, r2 = w3.heap.size := ⟨_, rfl⟩
          rw [← hr2] at hrg4 ⊢
          have hs3 := hb2.size
          have hl2 := hown2.lt
          have hbs := HB.out.size
          have C0 : Hid (Cr w w4 g2 w.heap.size r2 (8 * nn) nq D2 Dq D2 (Maps.has Dq) (Maps.size Dq)) :=
            ⟨hrg4, hown2.kept hg4 (by simp), del_start _ _, (HB.out.trans (hb2.mono hbs)).grown hg4 (by have := HB.out.size; omega) (fun j hj => by cases hj), by omega, by omega, by omega, by omega⟩
          have K2 := Lib.hid hk2
          clear hrg4 hg4 hs4 hs3 hl2 hbs hmet2 hown2 hb2 hge2 hk2 hmet hown hgG CW HB hr2
          go_loopw [7] (fun _ wi => ∃ (left : Lit → Bool) (cnt : Nat) (Dd : DataW Unit), Hid (Cr w wi g2 w.heap.size r2 (8 * nn) nq D2 Dq Dd left cnt))
            (fun _ wi => wi.rangeLeft w.heap.size r2)
          case atStart => exact ⟨_, _, _, C0⟩
          case round =>
            clear C0
            obtain ⟨left2, cnt2, Dd, C⟩ := hrel
            have hrg := C.out.rg
            go_wp2_with (first
              | (at_next; refine wpList_next_ranges _ rfl _ rfl 9 lawS (plainElem (H := Unit) Try.prog 3) Go.Proofs.encStr (Value.int .i64) (fun key kl hk => by obtain ⟨x, hx, _⟩ := Maps.keyOf_str Try.underlying9 hk; exact ⟨x, hx⟩) (fun v y hv => int_inv Try.underlying3 hv) w.heap.size r2 nq _ _ _ rfl hrg ?_ ?_)
              | go_in)
            · -- all that was met is through
              intro hc2 hl2
              have FN : Hid (Fr w wr g2 w.heap.size (8 * nn) nq (k + 1) t Dd Dq) := by
                refine ⟨C.out.near, C.out.rg.owns, del_end (by have := H6.out; omega) C.out.del hl2 MK.out K2.out, MK.out, C.out.below, ⟨C.out.far.1, C.out.far.2.2.1, Nat.le_refl _⟩, ?_, hnq.out, by omega⟩
                have := SZ.out.1
                rw [Nat.pow_succ]; omega
              clear C hrg hc2 hl2 MK K2 SZ
              go_wp2
              go_roundw
              case rel => exact ⟨g2, 8 * nn, nq, k + 1, Dd, Dq, rfl, by go_num, by omega, FN⟩
              case measure => simp [intOf]; omega
            · -- one of them is deleted
              intro x c kl yd yp w1 cnt1 hkey hlk hv hat hrg1 hlt hg1 hs1 hen
              obtain ⟨x', ex, rfl, hxl⟩ := Maps.keyOf_str Try.underlying9 hkey
              obtain rfl : x = x' := by simpa [Go.Proofs.encStr] using ex
              have hhx := Maps.has_true_of_atKey hat
              obtain ⟨f1, f2, f3, f4⟩ := C.out.far
              have hnear1 := C.out.near.kept hg1 (fun e => f2 (Option.some.inj e).symm)
              have HBL1 := Lib.hid (C.out.below.grown hg1 C.out.below.size (fun j hj => by cases hj; exact f4))
              have HLE := Lib.hid hrg.left_eq
              have HRG := Lib.hid hrg1
              have DEL := Lib.hid (del_step C.out.del x hhx)
              have KEY := Lib.hid hkey
              clear hs1 hg1 hlk hv hat ex hxl hhx C hrg hrg1 hkey
              go_wp2_with (first
                | (at_delete; refine wpList_delete_own _ rfl _ _ 56 9 rfl 4 lawS Try.underlying56 _ g2 (8 * nn) Dd rfl hnear1 _ _ rfl KEY.out ?_; intro w5 hown5 hturn5; go_frame)
                | go_in)
              have C5 : Hid (Cr w w5 g2 w.heap.size r2 (8 * nn) nq D2 Dq _ _ cnt1) :=
                ⟨HRG.out.kept hturn5.grown (fun e => f1 (Option.some.inj e).symm) (fun e => f2 (Option.some.inj e)), hown5, DEL.out, HBL1.out.grown hturn5.grown HBL1.out.size (fun j hj => by cases hj; exact f3), f1, f2, f3, f4⟩
              clear hown5 hturn5 hnear1 HRG HBL1 DEL f1 f2 f3 f4
              go_roundw
              case rel => exact ⟨_, cnt1, _, C5⟩
              case measure => rw [C5.out.rg.left_eq, HLE.out]; exact hlt
        · -- a word of the layer
          intro x c kl yd yp w1 cnt1 hkey hlk hv hat hrg1 hlt hg1 hs1 hen
          obtain ⟨x', ex, rfl, hxl⟩ := Maps.keyOf_str Try.underlying9 hkey
          obtain rfl : x = x' := by simpa [Go.Proofs.encStr] using ex
          have hhx := Maps.has_true_of_atKey hat
          obtain ⟨f1, f2, f3, f4⟩ := A.out.far
          have hmet1 := A.out.met.kept hg1 (fun e => f2 (Option.some.inj e).symm)
          have hbl1 := A.out.below.grown hg1 A.out.below.size (fun j hj => by cases hj; exact f4)
          have HBL1 := Lib.hid hbl1
          have HLE := Lib.hid hrg.left_eq
          have HRG := Lib.hid hrg1
          have hnq : nq < maxLen := by
            have := hq.out
            have := hsz30.out
            unfold maxLen; omega
          have MID := Lib.hid (mid_step A.out.mid hmet1.isMap x hhx)
          have KEY := Lib.hid hkey
          clear hs1 hg1 hlk hv hat ex hxl hhx hbl1 A hrg hrg1 hkey
          go_wp2_with (first
            | (at_mapUpdate; refine wpList_mapUpdate_own _ rfl _ _ _ 42 rfl 9 3 lawS Try.underlying42 _ w.heap.size nq Dq rfl hmet1 hnq _ _ _ rfl rfl KEY.out _ [] (plainElem_int Try.underlying3 hwf) ?_; intro w5 hown5 hg5; go_frame)
            | go_in)
          have A5 : Hid (Ar w w5 gn w.heap.size r nn (nq + 1) Dn Dm _ _ cnt1 (.lit (.int .i64 (k : Int)))) :=
            ⟨HRG.out.kept hg5 (fun e => f1 (Option.some.inj e)) (fun e => f2 (Option.some.inj e)), hown5, MID.out, HBL1.out.grown hg5 HBL1.out.size (fun j hj => by cases hj; exact f3), f1, f2, f3, f4⟩
          clear hown5 hg5 hmet1 HRG HBL1 MID f1 f2 f3 f4
          go_roundw
          case rel => exact ⟨_, cnt1, nq + 1, _, (by have := hq.out; show _ ≤ _; omega), A5⟩
          case measure => rw [A5.out.rg.left_eq, HLE.out]; exact hlt
end Go.Proofs.Ytcfenbienebbjaa
