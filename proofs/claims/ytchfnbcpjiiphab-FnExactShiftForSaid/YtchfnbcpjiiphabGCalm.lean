/-
  The operations of which the functions of parking are made are calm: no system call, and of the library's words only the one that speaks of room.
-/
import Derived.Test.YtchfnbcpjiiphabGTape
namespace Go.Proofs.Ytchfnbcpjiiphab
open Go
variable {P : Program}

theorem calm_pure {α : Type} (a : α) : Calm P (pure a : Sem α) := trivial
theorem calm_mbind {α β : Type} (s : Sem α) (f : α → Sem β) (h : Calm P s) (hf : ∀ a, Calm P (f a)) : Calm P (s >>= f) := calm_bind s f h hf
theorem calm_map {α β : Type} (s : Sem α) (f : α → β) (h : Calm P s) : Calm P (f <$> s) := by
  show Calm P (s.bind (fun a => .pure (f a)))
  exact calm_bind s _ h fun _ => trivial
theorem calm_ite {α : Type} (c : Prop) [Decidable c] (a b : Sem α) (h1 : c → Calm P a) (h2 : ¬ c → Calm P b) : Calm P (if c then a else b) := by
  split
  · exact h1 ‹_›
  · exact h2 ‹_›
theorem calm_stuck {α : Type} (x : String) : Calm P (stuck x : Sem α) := trivial
theorem calm_unsupported {α : Type} (x : Unsupported) (h : ∀ g, x ≠ .initOrder g) : Calm P (unsupported x : Sem α) := h
theorem calm_goPanic {α : Type} (v : Value) : Calm P (goPanic v : Sem α) := trivial
theorem calm_load (a : Addr) (m : Mode) : Calm P (load a m) := fun _ => trivial
theorem calm_store (a : Addr) (v : Value) (m : Mode) : Calm P (store a v m) := trivial
theorem calm_newObj (o : Obj) (h : ∀ c t, o ≠ .pending c t) : Calm P (newObj o) := ⟨h, fun _ => trivial⟩
theorem calm_shape (r : Nat) : Calm P (shape r) := fun _ => trivial
theorem calm_frozen (a : Addr) : Calm P (frozen a) := fun _ => trivial
theorem calm_getObj_bind {β : Type} (r : Nat) (f : Obj → Sem β) (h : ∀ o, Calm P (f o)) : Calm P (getObj r >>= f) := ⟨h, trivial⟩
theorem calm_choose (q : Question) : Calm P (choose q) := fun _ => trivial
theorem calm_program : Calm P program := trivial
theorem calm_room : Calm P (mark .noRoom) := ⟨rfl, trivial⟩
theorem calm_askRoom (n : Nat) : Calm P (askRoom n) := by
  unfold askRoom
  split
  · exact calm_room
  · exact calm_pure _
theorem calm_typeInfo (t : TypeId) : Calm P (typeInfo t) := by
  unfold typeInfo
  refine calm_mbind _ _ calm_program fun p => ?_
  split
  · exact calm_pure _
  · exact calm_stuck _
theorem calm_underlying (t : TypeId) : Calm P (underlying t) := by
  unfold underlying
  refine calm_mbind _ _ calm_program fun p => ?_
  split
  · exact calm_pure _
  · exact calm_stuck _
theorem calm_zeroValue (t : TypeId) : Calm P (zeroValue t) := by
  unfold zeroValue
  refine calm_mbind _ _ (calm_typeInfo t) fun i => ?_
  split
  · exact calm_pure _
  · exact calm_unsupported _ (fun _ h => by cases h)
theorem calm_sizeOf (t : TypeId) : Calm P (sizeOf t) := calm_mbind _ _ (calm_typeInfo t) fun _ => calm_pure _
theorem calm_isAgg (t : TypeId) : Calm P (isAgg t) := by
  unfold isAgg
  refine calm_mbind _ _ (calm_underlying t) fun i => ?_
  split <;> exact calm_pure _
theorem calm_loadCellsFrom (a : Addr) : ∀ (n i : Nat) (acc : Array Value), Calm P (loadCellsFrom a i n acc)
  | 0, _, _ => trivial
  | n + 1, i, _ => calm_mbind _ _ (calm_load _ _) fun _ => calm_loadCellsFrom a n (i + 1) _
theorem calm_loadCells (a : Addr) (n : Nat) : Calm P (loadCells a n) := calm_loadCellsFrom a n 0 _
theorem calm_storeCells (a : Addr) : ∀ (vs : List Value) (i : Nat), Calm P (storeCells a vs i)
  | [], _ => trivial
  | _ :: vs, i => calm_mbind _ _ (calm_store _ _ _) fun _ => calm_storeCells a vs (i + 1)
theorem calm_loadVar (t : TypeId) (a : Addr) : Calm P (loadVar t a) := by
  unfold loadVar
  refine calm_mbind _ _ (calm_isAgg t) fun b => ?_
  split
  · exact calm_mbind _ _ (calm_sizeOf t) fun _ => calm_mbind _ _ (calm_loadCells _ _) fun _ => calm_pure _
  · exact calm_load _ _
theorem calm_storeVar (t : TypeId) (a : Addr) (v : Value) : Calm P (storeVar t a v) := by
  unfold storeVar
  refine calm_mbind _ _ (calm_sizeOf t) fun n => ?_
  split
  · exact calm_mbind _ _ (calm_stuck _) fun _ => calm_storeCells _ _ _
  · exact calm_storeCells _ _ _
theorem calm_newRow (e : TypeId) (c : Array Value) : Calm P (newRow e c) := calm_mbind _ _ (calm_newObj _ (by simp)) fun _ => calm_pure _
theorem calm_newVar (t : TypeId) (v : Value) : Calm P (newVar t v) := calm_newRow _ _
theorem calm_elemOf (t : TypeId) : Calm P (elemOf t) := by
  unfold elemOf
  refine calm_mbind _ _ (calm_underlying t) fun i => ?_
  split
  · exact calm_pure _
  · exact calm_stuck _
theorem calm_runtimePanic {α : Type} (e : RuntimeError) : Calm P (runtimePanic e : Sem α) := by
  unfold runtimePanic
  refine calm_mbind _ _ calm_program fun p => ?_
  cases e <;> dsimp only
  · exact calm_goPanic _
  · exact calm_goPanic _
  · exact calm_goPanic _
  · exact calm_goPanic _
  · exact calm_mbind _ _ (calm_elemOf _) fun _ => calm_mbind _ _ (calm_newVar _ _) fun _ => calm_goPanic _
  · exact calm_mbind _ _ (calm_elemOf _) fun _ => calm_mbind _ _ (calm_newVar _ _) fun _ => calm_goPanic _
  · exact calm_goPanic _
theorem calm_boundsPanic {α : Type} (k : IntKind) (x y : Int) (c : BoundsCode) : Calm P (boundsPanic k x y c : Sem α) := by
  unfold boundsPanic
  split
  · exact calm_mbind _ _ (calm_map _ _ (calm_choose _)) fun _ => calm_runtimePanic _
  · exact calm_mbind _ _ (calm_pure _) fun _ => calm_runtimePanic _
theorem calm_asIntOf (v : Value) : Calm P (asIntOf v) := by unfold asIntOf; split <;> first | trivial | exact calm_unsupported _ (fun _ h => by cases h)
theorem calm_asInt (v : Value) : Calm P (asInt v) := calm_mbind _ _ (calm_asIntOf v) fun _ => calm_pure _
theorem calm_asBool (v : Value) : Calm P (asBool v) := by unfold asBool; split <;> trivial
theorem calm_asAddr (v : Value) : Calm P (asAddr v) := by
  unfold asAddr
  split
  · trivial
  · exact calm_runtimePanic _
  · trivial
theorem calm_sureAddr (v : Value) : Calm P (Instr.sureAddr v) := by unfold Instr.sureAddr; split <;> first | trivial | exact calm_unsupported _ (fun _ h => by cases h)
theorem calm_loadAt (t : TypeId) (v : Value) : Calm P (Instr.loadAt t v) := calm_mbind _ _ (calm_sureAddr v) fun _ => calm_loadVar _ _
theorem calm_storeAt (t : TypeId) (v u : Value) : Calm P (Instr.storeAt t v u) := calm_mbind _ _ (calm_sureAddr v) fun _ => calm_storeVar _ _ _
theorem calm_lenOf (x : Value) : Calm P (Builtin.lenOf x) := by unfold Builtin.lenOf; split <;> trivial
theorem calm_firstCells (s n : Nat) (x : Value) : Calm P (Builtin.firstCells s n x) := by
  unfold Builtin.firstCells
  split
  · exact calm_loadCells _ _
  · exact calm_pure _
  · exact calm_pure _
  · exact calm_stuck _
theorem calm_holdsCells (a : Addr) (n : Nat) : Calm P (Builtin.holdsCells a n) := by
  unfold Builtin.holdsCells
  refine calm_mbind _ _ (calm_shape _) fun r => ?_
  split <;> exact calm_pure _
theorem calm_mayShare (a b c : Nat) (o : Option Addr) (x : Value) : Calm P (Builtin.mayShare a b c o x) := by
  unfold Builtin.mayShare
  repeat' (first
    | with_reducible exact calm_pure _
    | with_reducible exact calm_stuck _
    | ((with_reducible refine calm_unsupported _ ?_); intro _ h; cases h)
    | with_reducible exact calm_boundsPanic _ _ _ _
    | with_reducible exact calm_runtimePanic _
    | with_reducible exact calm_sizeOf _
    | with_reducible exact calm_zeroValue _
    | with_reducible exact calm_typeInfo _
    | with_reducible exact calm_underlying _
    | with_reducible exact calm_sureAddr _
    | with_reducible exact calm_asIntOf _
    | with_reducible exact calm_asInt _
    | with_reducible exact calm_askRoom _
    | with_reducible exact calm_choose _
    | with_reducible exact calm_newRow _ _
    | with_reducible exact calm_lenOf _
    | with_reducible exact calm_firstCells _ _ _
    | with_reducible exact calm_storeCells _ _ _
    | with_reducible exact calm_room
    | with_reducible exact calm_holdsCells _ _
    | with_reducible exact calm_frozen _
    | with_reducible exact calm_loadCells _ _
    | with_reducible refine calm_mbind _ _ ?_ (fun _ => ?_)
    | with_reducible refine calm_ite _ _ _ (fun _ => ?_) (fun _ => ?_)
    | split
    | dsimp only)
theorem calm_len (ts : Array TypeId) (t : TypeId) (args : Array Value) : Calm P (Builtin.len_ ts t args) := by
  unfold Builtin.len_
  split
  · refine calm_mbind _ _ (calm_underlying _) fun d => ?_
    split
    · exact calm_pure _
    · exact calm_pure _
    · refine calm_mbind _ _ (calm_underlying _) fun d => ?_
      split
      · exact calm_pure _
      · exact calm_stuck _
    · exact calm_pure _
    · exact calm_pure _
    · exact calm_pure _
    · refine calm_getObj_bind _ _ (fun d => ?_)
      split
      · exact calm_pure _
      · exact calm_stuck _
    · refine calm_getObj_bind _ _ (fun d => ?_)
      split
      · exact calm_pure _
      · exact calm_stuck _
    · exact calm_stuck _
  · exact calm_stuck _
theorem calm_indexAt (t : TypeId) (x i : Value) : Calm P (Instr.indexAt t x i) := by
  unfold Instr.indexAt
  repeat' (first
    | with_reducible exact calm_pure _
    | with_reducible exact calm_stuck _
    | ((with_reducible refine calm_unsupported _ ?_); intro _ h; cases h)
    | with_reducible exact calm_boundsPanic _ _ _ _
    | with_reducible exact calm_runtimePanic _
    | with_reducible exact calm_sizeOf _
    | with_reducible exact calm_zeroValue _
    | with_reducible exact calm_typeInfo _
    | with_reducible exact calm_underlying _
    | with_reducible exact calm_sureAddr _
    | with_reducible exact calm_asIntOf _
    | with_reducible exact calm_asInt _
    | with_reducible exact calm_askRoom _
    | with_reducible exact calm_choose _
    | with_reducible exact calm_newRow _ _
    | with_reducible exact calm_lenOf _
    | with_reducible exact calm_firstCells _ _ _
    | with_reducible exact calm_mayShare _ _ _ _ _
    | with_reducible exact calm_storeCells _ _ _
    | with_reducible exact calm_room
    | with_reducible exact calm_holdsCells _ _
    | with_reducible exact calm_frozen _
    | with_reducible exact calm_loadCells _ _
    | with_reducible refine calm_mbind _ _ ?_ (fun _ => ?_)
    | with_reducible refine calm_ite _ _ _ (fun _ => ?_) (fun _ => ?_)
    | split
    | dsimp only)
theorem calm_buildSlice (t : TypeId) (n : Nat) (parts : Array (Nat × Value)) : Calm P (Instr.buildSlice t n parts) := by
  unfold Instr.buildSlice
  repeat' (first
    | with_reducible exact calm_pure _
    | with_reducible exact calm_stuck _
    | ((with_reducible refine calm_unsupported _ ?_); intro _ h; cases h)
    | with_reducible exact calm_boundsPanic _ _ _ _
    | with_reducible exact calm_runtimePanic _
    | with_reducible exact calm_sizeOf _
    | with_reducible exact calm_zeroValue _
    | with_reducible exact calm_typeInfo _
    | with_reducible exact calm_underlying _
    | with_reducible exact calm_sureAddr _
    | with_reducible exact calm_asIntOf _
    | with_reducible exact calm_asInt _
    | with_reducible exact calm_askRoom _
    | with_reducible exact calm_choose _
    | with_reducible exact calm_newRow _ _
    | with_reducible exact calm_lenOf _
    | with_reducible exact calm_firstCells _ _ _
    | with_reducible exact calm_mayShare _ _ _ _ _
    | with_reducible exact calm_storeCells _ _ _
    | with_reducible exact calm_room
    | with_reducible exact calm_holdsCells _ _
    | with_reducible exact calm_frozen _
    | with_reducible exact calm_loadCells _ _
    | with_reducible refine calm_mbind _ _ ?_ (fun _ => ?_)
    | with_reducible refine calm_ite _ _ _ (fun _ => ?_) (fun _ => ?_)
    | split
    | dsimp only)
theorem calm_makeSlice (t : TypeId) (x i : Value) : Calm P (Instr.makeSlice t x i) := by
  unfold Instr.makeSlice
  repeat' (first
    | with_reducible exact calm_pure _
    | with_reducible exact calm_stuck _
    | ((with_reducible refine calm_unsupported _ ?_); intro _ h; cases h)
    | with_reducible exact calm_boundsPanic _ _ _ _
    | with_reducible exact calm_runtimePanic _
    | with_reducible exact calm_sizeOf _
    | with_reducible exact calm_zeroValue _
    | with_reducible exact calm_typeInfo _
    | with_reducible exact calm_underlying _
    | with_reducible exact calm_sureAddr _
    | with_reducible exact calm_asIntOf _
    | with_reducible exact calm_asInt _
    | with_reducible exact calm_askRoom _
    | with_reducible exact calm_choose _
    | with_reducible exact calm_newRow _ _
    | with_reducible exact calm_lenOf _
    | with_reducible exact calm_firstCells _ _ _
    | with_reducible exact calm_mayShare _ _ _ _ _
    | with_reducible exact calm_storeCells _ _ _
    | with_reducible exact calm_room
    | with_reducible exact calm_holdsCells _ _
    | with_reducible exact calm_frozen _
    | with_reducible exact calm_loadCells _ _
    | with_reducible refine calm_mbind _ _ ?_ (fun _ => ?_)
    | with_reducible refine calm_ite _ _ _ (fun _ => ?_) (fun _ => ?_)
    | split
    | dsimp only)
theorem calm_append (ts : Array TypeId) (t : TypeId) (args : Array Value) : Calm P (Builtin.append_ ts t args) := by
  unfold Builtin.append_
  repeat' (first
    | with_reducible exact calm_pure _
    | with_reducible exact calm_stuck _
    | ((with_reducible refine calm_unsupported _ ?_); intro _ h; cases h)
    | with_reducible exact calm_boundsPanic _ _ _ _
    | with_reducible exact calm_runtimePanic _
    | with_reducible exact calm_sizeOf _
    | with_reducible exact calm_zeroValue _
    | with_reducible exact calm_typeInfo _
    | with_reducible exact calm_underlying _
    | with_reducible exact calm_sureAddr _
    | with_reducible exact calm_asIntOf _
    | with_reducible exact calm_asInt _
    | with_reducible exact calm_askRoom _
    | with_reducible exact calm_choose _
    | with_reducible exact calm_newRow _ _
    | with_reducible exact calm_lenOf _
    | with_reducible exact calm_firstCells _ _ _
    | with_reducible exact calm_mayShare _ _ _ _ _
    | with_reducible exact calm_storeCells _ _ _
    | with_reducible exact calm_room
    | with_reducible exact calm_holdsCells _ _
    | with_reducible exact calm_frozen _
    | with_reducible exact calm_loadCells _ _
    | with_reducible refine calm_mbind _ _ ?_ (fun _ => ?_)
    | with_reducible refine calm_ite _ _ _ (fun _ => ?_) (fun _ => ?_)
    | split
    | dsimp only)
theorem calm_not (x : Value) : Calm P (Op.unary .not x) := by unfold Op.unary; split <;> first | trivial | contradiction
end Go.Proofs.Ytchfnbcpjiiphab
