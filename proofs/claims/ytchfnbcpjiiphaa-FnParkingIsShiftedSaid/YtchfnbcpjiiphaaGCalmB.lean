/-
  The operations on numbers and truth values, calls of functions with a body: calm, too.
-/
import Derived.Test.YtchfnbcpjiiphaaZG
namespace Go.Proofs.Ytchfnbcpjiiphaa
open Go
variable {P : Program}

theorem calm_forIn_list {α β : Type} (f : α → β → Sem (ForInStep β)) (hf : ∀ a b, Calm P (f a b)) : ∀ (l : List α) (b : β), Calm P (forIn l b f)
  | [], b => by rw [List.forIn_nil]; exact calm_pure _
  | a :: l, b => by
    rw [List.forIn_cons]
    refine calm_mbind _ _ (hf a b) fun r => ?_
    cases r with
    | done b => exact calm_pure _
    | yield b => exact calm_forIn_list f hf l b
theorem calm_forIn_arr {α β : Type} (as : Array α) (f : α → β → Sem (ForInStep β)) (hf : ∀ a b, Calm P (f a b)) (b : β) : Calm P (forIn as b f) := by
  rw [← Array.forIn_toList]
  exact calm_forIn_list f hf _ b
theorem calm_forIn_range {β : Type} (r : Std.Legacy.Range) (f : Nat → β → Sem (ForInStep β)) (hf : ∀ a b, Calm P (f a b)) (b : β) : Calm P (forIn r b f) := by
  rw [Std.Legacy.Range.forIn_eq_forIn_range']
  exact calm_forIn_list f hf _ b
theorem calm_typeStr (t : TypeId) : Calm P (typeStr t) := by
  unfold typeStr
  repeat' (first
    | with_reducible exact calm_pure _
    | with_reducible exact calm_stuck _
    | with_reducible exact calm_goPanic _
    | with_reducible exact calm_load _ _
    | with_reducible exact calm_store _ _ _
    | with_reducible exact calm_shape _
    | with_reducible exact calm_frozen _
    | with_reducible exact calm_choose _
    | with_reducible exact calm_program
    | with_reducible exact calm_room
    | with_reducible exact calm_askRoom _
    | with_reducible exact calm_typeInfo _
    | with_reducible exact calm_underlying _
    | with_reducible exact calm_zeroValue _
    | with_reducible exact calm_sizeOf _
    | with_reducible exact calm_isAgg _
    | with_reducible exact calm_loadCellsFrom _ _ _
    | with_reducible exact calm_loadCells _ _
    | with_reducible exact calm_storeCells _ _ _
    | with_reducible exact calm_loadVar _ _
    | with_reducible exact calm_storeVar _ _ _
    | with_reducible exact calm_newRow _ _
    | with_reducible exact calm_newVar _ _
    | with_reducible exact calm_elemOf _
    | with_reducible exact calm_runtimePanic _
    | with_reducible exact calm_boundsPanic _ _ _ _
    | with_reducible exact calm_asIntOf _
    | with_reducible exact calm_asInt _
    | with_reducible exact calm_asBool _
    | with_reducible exact calm_asAddr _
    | with_reducible exact calm_sureAddr _
    | with_reducible exact calm_loadAt _ _
    | with_reducible exact calm_storeAt _ _ _
    | with_reducible exact calm_lenOf _
    | with_reducible exact calm_firstCells _ _ _
    | with_reducible exact calm_holdsCells _ _
    | with_reducible exact calm_mayShare _ _ _ _ _
    | with_reducible exact calm_len _ _ _
    | with_reducible exact calm_indexAt _ _ _
    | with_reducible exact calm_buildSlice _ _ _
    | with_reducible exact calm_makeSlice _ _ _
    | with_reducible exact calm_append _ _ _
    | ((with_reducible refine calm_unsupported _ ?_); intro _ h; cases h)
    | ((with_reducible refine calm_newObj _ ?_); intro _ _ h; cases h)
    | with_reducible exact calm_map _ _ (calm_choose _)
    | with_reducible refine calm_map _ _ ?_
    | with_reducible refine calm_forIn_arr _ _ (fun _ _ => ?_) _
    | with_reducible refine calm_forIn_range _ _ (fun _ _ => ?_) _
    | with_reducible refine calm_getObj_bind _ _ (fun _ => ?_)
    | with_reducible refine calm_mbind _ _ ?_ (fun _ => ?_)
    | with_reducible refine calm_ite _ _ _ (fun _ => ?_) (fun _ => ?_)
    | split
    | dsimp only)
theorem calm_part (t : TypeId) (cs : Array Value) (off : Nat) : Calm P (part t cs off) := by
  unfold part
  repeat' (first
    | with_reducible exact calm_pure _
    | with_reducible exact calm_stuck _
    | with_reducible exact calm_goPanic _
    | with_reducible exact calm_load _ _
    | with_reducible exact calm_store _ _ _
    | with_reducible exact calm_shape _
    | with_reducible exact calm_frozen _
    | with_reducible exact calm_choose _
    | with_reducible exact calm_program
    | with_reducible exact calm_room
    | with_reducible exact calm_askRoom _
    | with_reducible exact calm_typeInfo _
    | with_reducible exact calm_underlying _
    | with_reducible exact calm_zeroValue _
    | with_reducible exact calm_sizeOf _
    | with_reducible exact calm_isAgg _
    | with_reducible exact calm_loadCellsFrom _ _ _
    | with_reducible exact calm_loadCells _ _
    | with_reducible exact calm_storeCells _ _ _
    | with_reducible exact calm_loadVar _ _
    | with_reducible exact calm_storeVar _ _ _
    | with_reducible exact calm_newRow _ _
    | with_reducible exact calm_newVar _ _
    | with_reducible exact calm_elemOf _
    | with_reducible exact calm_runtimePanic _
    | with_reducible exact calm_boundsPanic _ _ _ _
    | with_reducible exact calm_asIntOf _
    | with_reducible exact calm_asInt _
    | with_reducible exact calm_asBool _
    | with_reducible exact calm_asAddr _
    | with_reducible exact calm_sureAddr _
    | with_reducible exact calm_loadAt _ _
    | with_reducible exact calm_storeAt _ _ _
    | with_reducible exact calm_lenOf _
    | with_reducible exact calm_firstCells _ _ _
    | with_reducible exact calm_holdsCells _ _
    | with_reducible exact calm_mayShare _ _ _ _ _
    | with_reducible exact calm_len _ _ _
    | with_reducible exact calm_indexAt _ _ _
    | with_reducible exact calm_buildSlice _ _ _
    | with_reducible exact calm_makeSlice _ _ _
    | with_reducible exact calm_append _ _ _
    | with_reducible exact calm_typeStr _
    | ((with_reducible refine calm_unsupported _ ?_); intro _ h; cases h)
    | ((with_reducible refine calm_newObj _ ?_); intro _ _ h; cases h)
    | with_reducible exact calm_map _ _ (calm_choose _)
    | with_reducible refine calm_map _ _ ?_
    | with_reducible refine calm_forIn_arr _ _ (fun _ _ => ?_) _
    | with_reducible refine calm_forIn_range _ _ (fun _ _ => ?_) _
    | with_reducible refine calm_getObj_bind _ _ (fun _ => ?_)
    | with_reducible refine calm_mbind _ _ ?_ (fun _ => ?_)
    | with_reducible refine calm_ite _ _ _ (fun _ => ?_) (fun _ => ?_)
    | split
    | dsimp only)
theorem calm_viewAt (r : Nat) : Calm P (viewAt r) := by
  unfold viewAt
  repeat' (first
    | with_reducible exact calm_pure _
    | with_reducible exact calm_stuck _
    | with_reducible exact calm_goPanic _
    | with_reducible exact calm_load _ _
    | with_reducible exact calm_store _ _ _
    | with_reducible exact calm_shape _
    | with_reducible exact calm_frozen _
    | with_reducible exact calm_choose _
    | with_reducible exact calm_program
    | with_reducible exact calm_room
    | with_reducible exact calm_askRoom _
    | with_reducible exact calm_typeInfo _
    | with_reducible exact calm_underlying _
    | with_reducible exact calm_zeroValue _
    | with_reducible exact calm_sizeOf _
    | with_reducible exact calm_isAgg _
    | with_reducible exact calm_loadCellsFrom _ _ _
    | with_reducible exact calm_loadCells _ _
    | with_reducible exact calm_storeCells _ _ _
    | with_reducible exact calm_loadVar _ _
    | with_reducible exact calm_storeVar _ _ _
    | with_reducible exact calm_newRow _ _
    | with_reducible exact calm_newVar _ _
    | with_reducible exact calm_elemOf _
    | with_reducible exact calm_runtimePanic _
    | with_reducible exact calm_boundsPanic _ _ _ _
    | with_reducible exact calm_asIntOf _
    | with_reducible exact calm_asInt _
    | with_reducible exact calm_asBool _
    | with_reducible exact calm_asAddr _
    | with_reducible exact calm_sureAddr _
    | with_reducible exact calm_loadAt _ _
    | with_reducible exact calm_storeAt _ _ _
    | with_reducible exact calm_lenOf _
    | with_reducible exact calm_firstCells _ _ _
    | with_reducible exact calm_holdsCells _ _
    | with_reducible exact calm_mayShare _ _ _ _ _
    | with_reducible exact calm_len _ _ _
    | with_reducible exact calm_indexAt _ _ _
    | with_reducible exact calm_buildSlice _ _ _
    | with_reducible exact calm_makeSlice _ _ _
    | with_reducible exact calm_append _ _ _
    | with_reducible exact calm_typeStr _
    | with_reducible exact calm_part _ _ _
    | ((with_reducible refine calm_unsupported _ ?_); intro _ h; cases h)
    | ((with_reducible refine calm_newObj _ ?_); intro _ _ h; cases h)
    | with_reducible exact calm_map _ _ (calm_choose _)
    | with_reducible refine calm_map _ _ ?_
    | with_reducible refine calm_forIn_arr _ _ (fun _ _ => ?_) _
    | with_reducible refine calm_forIn_range _ _ (fun _ _ => ?_) _
    | with_reducible refine calm_getObj_bind _ _ (fun _ => ?_)
    | with_reducible refine calm_mbind _ _ ?_ (fun _ => ?_)
    | with_reducible refine calm_ite _ _ _ (fun _ => ?_) (fun _ => ?_)
    | split
    | dsimp only)
theorem calm_numberAt (r : Nat) : Calm P (numberAt r) := by
  unfold numberAt
  repeat' (first
    | with_reducible exact calm_pure _
    | with_reducible exact calm_stuck _
    | with_reducible exact calm_goPanic _
    | with_reducible exact calm_load _ _
    | with_reducible exact calm_store _ _ _
    | with_reducible exact calm_shape _
    | with_reducible exact calm_frozen _
    | with_reducible exact calm_choose _
    | with_reducible exact calm_program
    | with_reducible exact calm_room
    | with_reducible exact calm_askRoom _
    | with_reducible exact calm_typeInfo _
    | with_reducible exact calm_underlying _
    | with_reducible exact calm_zeroValue _
    | with_reducible exact calm_sizeOf _
    | with_reducible exact calm_isAgg _
    | with_reducible exact calm_loadCellsFrom _ _ _
    | with_reducible exact calm_loadCells _ _
    | with_reducible exact calm_storeCells _ _ _
    | with_reducible exact calm_loadVar _ _
    | with_reducible exact calm_storeVar _ _ _
    | with_reducible exact calm_newRow _ _
    | with_reducible exact calm_newVar _ _
    | with_reducible exact calm_elemOf _
    | with_reducible exact calm_runtimePanic _
    | with_reducible exact calm_boundsPanic _ _ _ _
    | with_reducible exact calm_asIntOf _
    | with_reducible exact calm_asInt _
    | with_reducible exact calm_asBool _
    | with_reducible exact calm_asAddr _
    | with_reducible exact calm_sureAddr _
    | with_reducible exact calm_loadAt _ _
    | with_reducible exact calm_storeAt _ _ _
    | with_reducible exact calm_lenOf _
    | with_reducible exact calm_firstCells _ _ _
    | with_reducible exact calm_holdsCells _ _
    | with_reducible exact calm_mayShare _ _ _ _ _
    | with_reducible exact calm_len _ _ _
    | with_reducible exact calm_indexAt _ _ _
    | with_reducible exact calm_buildSlice _ _ _
    | with_reducible exact calm_makeSlice _ _ _
    | with_reducible exact calm_append _ _ _
    | with_reducible exact calm_typeStr _
    | with_reducible exact calm_part _ _ _
    | with_reducible exact calm_viewAt _
    | ((with_reducible refine calm_unsupported _ ?_); intro _ h; cases h)
    | ((with_reducible refine calm_newObj _ ?_); intro _ _ h; cases h)
    | with_reducible exact calm_map _ _ (calm_choose _)
    | with_reducible refine calm_map _ _ ?_
    | with_reducible refine calm_forIn_arr _ _ (fun _ _ => ?_) _
    | with_reducible refine calm_forIn_range _ _ (fun _ _ => ?_) _
    | with_reducible refine calm_getObj_bind _ _ (fun _ => ?_)
    | with_reducible refine calm_mbind _ _ ?_ (fun _ => ?_)
    | with_reducible refine calm_ite _ _ _ (fun _ => ?_) (fun _ => ?_)
    | split
    | dsimp only)
theorem calm_asNumber (a : Addr) (b : Bool) : Calm P (asNumber a b) := by
  unfold asNumber
  repeat' (first
    | with_reducible exact calm_pure _
    | with_reducible exact calm_stuck _
    | with_reducible exact calm_goPanic _
    | with_reducible exact calm_load _ _
    | with_reducible exact calm_store _ _ _
    | with_reducible exact calm_shape _
    | with_reducible exact calm_frozen _
    | with_reducible exact calm_choose _
    | with_reducible exact calm_program
    | with_reducible exact calm_room
    | with_reducible exact calm_askRoom _
    | with_reducible exact calm_typeInfo _
    | with_reducible exact calm_underlying _
    | with_reducible exact calm_zeroValue _
    | with_reducible exact calm_sizeOf _
    | with_reducible exact calm_isAgg _
    | with_reducible exact calm_loadCellsFrom _ _ _
    | with_reducible exact calm_loadCells _ _
    | with_reducible exact calm_storeCells _ _ _
    | with_reducible exact calm_loadVar _ _
    | with_reducible exact calm_storeVar _ _ _
    | with_reducible exact calm_newRow _ _
    | with_reducible exact calm_newVar _ _
    | with_reducible exact calm_elemOf _
    | with_reducible exact calm_runtimePanic _
    | with_reducible exact calm_boundsPanic _ _ _ _
    | with_reducible exact calm_asIntOf _
    | with_reducible exact calm_asInt _
    | with_reducible exact calm_asBool _
    | with_reducible exact calm_asAddr _
    | with_reducible exact calm_sureAddr _
    | with_reducible exact calm_loadAt _ _
    | with_reducible exact calm_storeAt _ _ _
    | with_reducible exact calm_lenOf _
    | with_reducible exact calm_firstCells _ _ _
    | with_reducible exact calm_holdsCells _ _
    | with_reducible exact calm_mayShare _ _ _ _ _
    | with_reducible exact calm_len _ _ _
    | with_reducible exact calm_indexAt _ _ _
    | with_reducible exact calm_buildSlice _ _ _
    | with_reducible exact calm_makeSlice _ _ _
    | with_reducible exact calm_append _ _ _
    | with_reducible exact calm_typeStr _
    | with_reducible exact calm_part _ _ _
    | with_reducible exact calm_viewAt _
    | with_reducible exact calm_numberAt _
    | ((with_reducible refine calm_unsupported _ ?_); intro _ h; cases h)
    | ((with_reducible refine calm_newObj _ ?_); intro _ _ h; cases h)
    | with_reducible exact calm_map _ _ (calm_choose _)
    | with_reducible refine calm_map _ _ ?_
    | with_reducible refine calm_forIn_arr _ _ (fun _ _ => ?_) _
    | with_reducible refine calm_forIn_range _ _ (fun _ _ => ?_) _
    | with_reducible refine calm_getObj_bind _ _ (fun _ => ?_)
    | with_reducible refine calm_mbind _ _ ?_ (fun _ => ?_)
    | with_reducible refine calm_ite _ _ _ (fun _ => ?_) (fun _ => ?_)
    | split
    | dsimp only)
theorem calm_behindNumber (a : Addr) : Calm P (behindNumber a) := by
  unfold behindNumber
  repeat' (first
    | with_reducible exact calm_pure _
    | with_reducible exact calm_stuck _
    | with_reducible exact calm_goPanic _
    | with_reducible exact calm_load _ _
    | with_reducible exact calm_store _ _ _
    | with_reducible exact calm_shape _
    | with_reducible exact calm_frozen _
    | with_reducible exact calm_choose _
    | with_reducible exact calm_program
    | with_reducible exact calm_room
    | with_reducible exact calm_askRoom _
    | with_reducible exact calm_typeInfo _
    | with_reducible exact calm_underlying _
    | with_reducible exact calm_zeroValue _
    | with_reducible exact calm_sizeOf _
    | with_reducible exact calm_isAgg _
    | with_reducible exact calm_loadCellsFrom _ _ _
    | with_reducible exact calm_loadCells _ _
    | with_reducible exact calm_storeCells _ _ _
    | with_reducible exact calm_loadVar _ _
    | with_reducible exact calm_storeVar _ _ _
    | with_reducible exact calm_newRow _ _
    | with_reducible exact calm_newVar _ _
    | with_reducible exact calm_elemOf _
    | with_reducible exact calm_runtimePanic _
    | with_reducible exact calm_boundsPanic _ _ _ _
    | with_reducible exact calm_asIntOf _
    | with_reducible exact calm_asInt _
    | with_reducible exact calm_asBool _
    | with_reducible exact calm_asAddr _
    | with_reducible exact calm_sureAddr _
    | with_reducible exact calm_loadAt _ _
    | with_reducible exact calm_storeAt _ _ _
    | with_reducible exact calm_lenOf _
    | with_reducible exact calm_firstCells _ _ _
    | with_reducible exact calm_holdsCells _ _
    | with_reducible exact calm_mayShare _ _ _ _ _
    | with_reducible exact calm_len _ _ _
    | with_reducible exact calm_indexAt _ _ _
    | with_reducible exact calm_buildSlice _ _ _
    | with_reducible exact calm_makeSlice _ _ _
    | with_reducible exact calm_append _ _ _
    | with_reducible exact calm_typeStr _
    | with_reducible exact calm_part _ _ _
    | with_reducible exact calm_viewAt _
    | with_reducible exact calm_numberAt _
    | with_reducible exact calm_asNumber _ _
    | ((with_reducible refine calm_unsupported _ ?_); intro _ h; cases h)
    | ((with_reducible refine calm_newObj _ ?_); intro _ _ h; cases h)
    | with_reducible exact calm_map _ _ (calm_choose _)
    | with_reducible refine calm_map _ _ ?_
    | with_reducible refine calm_forIn_arr _ _ (fun _ _ => ?_) _
    | with_reducible refine calm_forIn_range _ _ (fun _ _ => ?_) _
    | with_reducible refine calm_getObj_bind _ _ (fun _ => ?_)
    | with_reducible refine calm_mbind _ _ ?_ (fun _ => ?_)
    | with_reducible refine calm_ite _ _ _ (fun _ => ?_) (fun _ => ?_)
    | split
    | dsimp only)
theorem calm_noView (a : Addr) : Calm P (noView a) := by
  unfold noView
  repeat' (first
    | with_reducible exact calm_pure _
    | with_reducible exact calm_stuck _
    | with_reducible exact calm_goPanic _
    | with_reducible exact calm_load _ _
    | with_reducible exact calm_store _ _ _
    | with_reducible exact calm_shape _
    | with_reducible exact calm_frozen _
    | with_reducible exact calm_choose _
    | with_reducible exact calm_program
    | with_reducible exact calm_room
    | with_reducible exact calm_askRoom _
    | with_reducible exact calm_typeInfo _
    | with_reducible exact calm_underlying _
    | with_reducible exact calm_zeroValue _
    | with_reducible exact calm_sizeOf _
    | with_reducible exact calm_isAgg _
    | with_reducible exact calm_loadCellsFrom _ _ _
    | with_reducible exact calm_loadCells _ _
    | with_reducible exact calm_storeCells _ _ _
    | with_reducible exact calm_loadVar _ _
    | with_reducible exact calm_storeVar _ _ _
    | with_reducible exact calm_newRow _ _
    | with_reducible exact calm_newVar _ _
    | with_reducible exact calm_elemOf _
    | with_reducible exact calm_runtimePanic _
    | with_reducible exact calm_boundsPanic _ _ _ _
    | with_reducible exact calm_asIntOf _
    | with_reducible exact calm_asInt _
    | with_reducible exact calm_asBool _
    | with_reducible exact calm_asAddr _
    | with_reducible exact calm_sureAddr _
    | with_reducible exact calm_loadAt _ _
    | with_reducible exact calm_storeAt _ _ _
    | with_reducible exact calm_lenOf _
    | with_reducible exact calm_firstCells _ _ _
    | with_reducible exact calm_holdsCells _ _
    | with_reducible exact calm_mayShare _ _ _ _ _
    | with_reducible exact calm_len _ _ _
    | with_reducible exact calm_indexAt _ _ _
    | with_reducible exact calm_buildSlice _ _ _
    | with_reducible exact calm_makeSlice _ _ _
    | with_reducible exact calm_append _ _ _
    | with_reducible exact calm_typeStr _
    | with_reducible exact calm_part _ _ _
    | with_reducible exact calm_viewAt _
    | with_reducible exact calm_numberAt _
    | with_reducible exact calm_asNumber _ _
    | with_reducible exact calm_behindNumber _
    | ((with_reducible refine calm_unsupported _ ?_); intro _ h; cases h)
    | ((with_reducible refine calm_newObj _ ?_); intro _ _ h; cases h)
    | with_reducible exact calm_map _ _ (calm_choose _)
    | with_reducible refine calm_map _ _ ?_
    | with_reducible refine calm_forIn_arr _ _ (fun _ _ => ?_) _
    | with_reducible refine calm_forIn_range _ _ (fun _ _ => ?_) _
    | with_reducible refine calm_getObj_bind _ _ (fun _ => ?_)
    | with_reducible refine calm_mbind _ _ ?_ (fun _ => ?_)
    | with_reducible refine calm_ite _ _ _ (fun _ => ?_) (fun _ => ?_)
    | split
    | dsimp only)
theorem calm_stringish (a : Addr) : Calm P (stringish a) := by
  unfold stringish
  repeat' (first
    | with_reducible exact calm_pure _
    | with_reducible exact calm_stuck _
    | with_reducible exact calm_goPanic _
    | with_reducible exact calm_load _ _
    | with_reducible exact calm_store _ _ _
    | with_reducible exact calm_shape _
    | with_reducible exact calm_frozen _
    | with_reducible exact calm_choose _
    | with_reducible exact calm_program
    | with_reducible exact calm_room
    | with_reducible exact calm_askRoom _
    | with_reducible exact calm_typeInfo _
    | with_reducible exact calm_underlying _
    | with_reducible exact calm_zeroValue _
    | with_reducible exact calm_sizeOf _
    | with_reducible exact calm_isAgg _
    | with_reducible exact calm_loadCellsFrom _ _ _
    | with_reducible exact calm_loadCells _ _
    | with_reducible exact calm_storeCells _ _ _
    | with_reducible exact calm_loadVar _ _
    | with_reducible exact calm_storeVar _ _ _
    | with_reducible exact calm_newRow _ _
    | with_reducible exact calm_newVar _ _
    | with_reducible exact calm_elemOf _
    | with_reducible exact calm_runtimePanic _
    | with_reducible exact calm_boundsPanic _ _ _ _
    | with_reducible exact calm_asIntOf _
    | with_reducible exact calm_asInt _
    | with_reducible exact calm_asBool _
    | with_reducible exact calm_asAddr _
    | with_reducible exact calm_sureAddr _
    | with_reducible exact calm_loadAt _ _
    | with_reducible exact calm_storeAt _ _ _
    | with_reducible exact calm_lenOf _
    | with_reducible exact calm_firstCells _ _ _
    | with_reducible exact calm_holdsCells _ _
    | with_reducible exact calm_mayShare _ _ _ _ _
    | with_reducible exact calm_len _ _ _
    | with_reducible exact calm_indexAt _ _ _
    | with_reducible exact calm_buildSlice _ _ _
    | with_reducible exact calm_makeSlice _ _ _
    | with_reducible exact calm_append _ _ _
    | with_reducible exact calm_typeStr _
    | with_reducible exact calm_part _ _ _
    | with_reducible exact calm_viewAt _
    | with_reducible exact calm_numberAt _
    | with_reducible exact calm_asNumber _ _
    | with_reducible exact calm_behindNumber _
    | with_reducible exact calm_noView _
    | ((with_reducible refine calm_unsupported _ ?_); intro _ h; cases h)
    | ((with_reducible refine calm_newObj _ ?_); intro _ _ h; cases h)
    | with_reducible exact calm_map _ _ (calm_choose _)
    | with_reducible refine calm_map _ _ ?_
    | with_reducible refine calm_forIn_arr _ _ (fun _ _ => ?_) _
    | with_reducible refine calm_forIn_range _ _ (fun _ _ => ?_) _
    | with_reducible refine calm_getObj_bind _ _ (fun _ => ?_)
    | with_reducible refine calm_mbind _ _ ?_ (fun _ => ?_)
    | with_reducible refine calm_ite _ _ _ (fun _ => ?_) (fun _ => ?_)
    | split
    | dsimp only)
theorem calm_mayBeOne (a b : Addr) : Calm P (mayBeOne a b) := by
  unfold mayBeOne
  repeat' (first
    | with_reducible exact calm_pure _
    | with_reducible exact calm_stuck _
    | with_reducible exact calm_goPanic _
    | with_reducible exact calm_load _ _
    | with_reducible exact calm_store _ _ _
    | with_reducible exact calm_shape _
    | with_reducible exact calm_frozen _
    | with_reducible exact calm_choose _
    | with_reducible exact calm_program
    | with_reducible exact calm_room
    | with_reducible exact calm_askRoom _
    | with_reducible exact calm_typeInfo _
    | with_reducible exact calm_underlying _
    | with_reducible exact calm_zeroValue _
    | with_reducible exact calm_sizeOf _
    | with_reducible exact calm_isAgg _
    | with_reducible exact calm_loadCellsFrom _ _ _
    | with_reducible exact calm_loadCells _ _
    | with_reducible exact calm_storeCells _ _ _
    | with_reducible exact calm_loadVar _ _
    | with_reducible exact calm_storeVar _ _ _
    | with_reducible exact calm_newRow _ _
    | with_reducible exact calm_newVar _ _
    | with_reducible exact calm_elemOf _
    | with_reducible exact calm_runtimePanic _
    | with_reducible exact calm_boundsPanic _ _ _ _
    | with_reducible exact calm_asIntOf _
    | with_reducible exact calm_asInt _
    | with_reducible exact calm_asBool _
    | with_reducible exact calm_asAddr _
    | with_reducible exact calm_sureAddr _
    | with_reducible exact calm_loadAt _ _
    | with_reducible exact calm_storeAt _ _ _
    | with_reducible exact calm_lenOf _
    | with_reducible exact calm_firstCells _ _ _
    | with_reducible exact calm_holdsCells _ _
    | with_reducible exact calm_mayShare _ _ _ _ _
    | with_reducible exact calm_len _ _ _
    | with_reducible exact calm_indexAt _ _ _
    | with_reducible exact calm_buildSlice _ _ _
    | with_reducible exact calm_makeSlice _ _ _
    | with_reducible exact calm_append _ _ _
    | with_reducible exact calm_typeStr _
    | with_reducible exact calm_part _ _ _
    | with_reducible exact calm_viewAt _
    | with_reducible exact calm_numberAt _
    | with_reducible exact calm_asNumber _ _
    | with_reducible exact calm_behindNumber _
    | with_reducible exact calm_noView _
    | with_reducible exact calm_stringish _
    | ((with_reducible refine calm_unsupported _ ?_); intro _ h; cases h)
    | ((with_reducible refine calm_newObj _ ?_); intro _ _ h; cases h)
    | with_reducible exact calm_map _ _ (calm_choose _)
    | with_reducible refine calm_map _ _ ?_
    | with_reducible refine calm_forIn_arr _ _ (fun _ _ => ?_) _
    | with_reducible refine calm_forIn_range _ _ (fun _ _ => ?_) _
    | with_reducible refine calm_getObj_bind _ _ (fun _ => ?_)
    | with_reducible refine calm_mbind _ _ ?_ (fun _ => ?_)
    | with_reducible refine calm_ite _ _ _ (fun _ => ?_) (fun _ => ?_)
    | split
    | dsimp only)
theorem calm_sameAddr (a b : Addr) : Calm P (sameAddr a b) := by
  unfold sameAddr
  repeat' (first
    | with_reducible exact calm_pure _
    | with_reducible exact calm_stuck _
    | with_reducible exact calm_goPanic _
    | with_reducible exact calm_load _ _
    | with_reducible exact calm_store _ _ _
    | with_reducible exact calm_shape _
    | with_reducible exact calm_frozen _
    | with_reducible exact calm_choose _
    | with_reducible exact calm_program
    | with_reducible exact calm_room
    | with_reducible exact calm_askRoom _
    | with_reducible exact calm_typeInfo _
    | with_reducible exact calm_underlying _
    | with_reducible exact calm_zeroValue _
    | with_reducible exact calm_sizeOf _
    | with_reducible exact calm_isAgg _
    | with_reducible exact calm_loadCellsFrom _ _ _
    | with_reducible exact calm_loadCells _ _
    | with_reducible exact calm_storeCells _ _ _
    | with_reducible exact calm_loadVar _ _
    | with_reducible exact calm_storeVar _ _ _
    | with_reducible exact calm_newRow _ _
    | with_reducible exact calm_newVar _ _
    | with_reducible exact calm_elemOf _
    | with_reducible exact calm_runtimePanic _
    | with_reducible exact calm_boundsPanic _ _ _ _
    | with_reducible exact calm_asIntOf _
    | with_reducible exact calm_asInt _
    | with_reducible exact calm_asBool _
    | with_reducible exact calm_asAddr _
    | with_reducible exact calm_sureAddr _
    | with_reducible exact calm_loadAt _ _
    | with_reducible exact calm_storeAt _ _ _
    | with_reducible exact calm_lenOf _
    | with_reducible exact calm_firstCells _ _ _
    | with_reducible exact calm_holdsCells _ _
    | with_reducible exact calm_mayShare _ _ _ _ _
    | with_reducible exact calm_len _ _ _
    | with_reducible exact calm_indexAt _ _ _
    | with_reducible exact calm_buildSlice _ _ _
    | with_reducible exact calm_makeSlice _ _ _
    | with_reducible exact calm_append _ _ _
    | with_reducible exact calm_typeStr _
    | with_reducible exact calm_part _ _ _
    | with_reducible exact calm_viewAt _
    | with_reducible exact calm_numberAt _
    | with_reducible exact calm_asNumber _ _
    | with_reducible exact calm_behindNumber _
    | with_reducible exact calm_noView _
    | with_reducible exact calm_stringish _
    | with_reducible exact calm_mayBeOne _ _
    | ((with_reducible refine calm_unsupported _ ?_); intro _ h; cases h)
    | ((with_reducible refine calm_newObj _ ?_); intro _ _ h; cases h)
    | with_reducible exact calm_map _ _ (calm_choose _)
    | with_reducible refine calm_map _ _ ?_
    | with_reducible refine calm_forIn_arr _ _ (fun _ _ => ?_) _
    | with_reducible refine calm_forIn_range _ _ (fun _ _ => ?_) _
    | with_reducible refine calm_getObj_bind _ _ (fun _ => ?_)
    | with_reducible refine calm_mbind _ _ ?_ (fun _ => ?_)
    | with_reducible refine calm_ite _ _ _ (fun _ => ?_) (fun _ => ?_)
    | split
    | dsimp only)
theorem calm_samePointer (a b : Option Addr) : Calm P (samePointer a b) := by
  unfold samePointer
  repeat' (first
    | with_reducible exact calm_pure _
    | with_reducible exact calm_stuck _
    | with_reducible exact calm_goPanic _
    | with_reducible exact calm_load _ _
    | with_reducible exact calm_store _ _ _
    | with_reducible exact calm_shape _
    | with_reducible exact calm_frozen _
    | with_reducible exact calm_choose _
    | with_reducible exact calm_program
    | with_reducible exact calm_room
    | with_reducible exact calm_askRoom _
    | with_reducible exact calm_typeInfo _
    | with_reducible exact calm_underlying _
    | with_reducible exact calm_zeroValue _
    | with_reducible exact calm_sizeOf _
    | with_reducible exact calm_isAgg _
    | with_reducible exact calm_loadCellsFrom _ _ _
    | with_reducible exact calm_loadCells _ _
    | with_reducible exact calm_storeCells _ _ _
    | with_reducible exact calm_loadVar _ _
    | with_reducible exact calm_storeVar _ _ _
    | with_reducible exact calm_newRow _ _
    | with_reducible exact calm_newVar _ _
    | with_reducible exact calm_elemOf _
    | with_reducible exact calm_runtimePanic _
    | with_reducible exact calm_boundsPanic _ _ _ _
    | with_reducible exact calm_asIntOf _
    | with_reducible exact calm_asInt _
    | with_reducible exact calm_asBool _
    | with_reducible exact calm_asAddr _
    | with_reducible exact calm_sureAddr _
    | with_reducible exact calm_loadAt _ _
    | with_reducible exact calm_storeAt _ _ _
    | with_reducible exact calm_lenOf _
    | with_reducible exact calm_firstCells _ _ _
    | with_reducible exact calm_holdsCells _ _
    | with_reducible exact calm_mayShare _ _ _ _ _
    | with_reducible exact calm_len _ _ _
    | with_reducible exact calm_indexAt _ _ _
    | with_reducible exact calm_buildSlice _ _ _
    | with_reducible exact calm_makeSlice _ _ _
    | with_reducible exact calm_append _ _ _
    | with_reducible exact calm_typeStr _
    | with_reducible exact calm_part _ _ _
    | with_reducible exact calm_viewAt _
    | with_reducible exact calm_numberAt _
    | with_reducible exact calm_asNumber _ _
    | with_reducible exact calm_behindNumber _
    | with_reducible exact calm_noView _
    | with_reducible exact calm_stringish _
    | with_reducible exact calm_mayBeOne _ _
    | with_reducible exact calm_sameAddr _ _
    | ((with_reducible refine calm_unsupported _ ?_); intro _ h; cases h)
    | ((with_reducible refine calm_newObj _ ?_); intro _ _ h; cases h)
    | with_reducible exact calm_map _ _ (calm_choose _)
    | with_reducible refine calm_map _ _ ?_
    | with_reducible refine calm_forIn_arr _ _ (fun _ _ => ?_) _
    | with_reducible refine calm_forIn_range _ _ (fun _ _ => ?_) _
    | with_reducible refine calm_getObj_bind _ _ (fun _ => ?_)
    | with_reducible refine calm_mbind _ _ ?_ (fun _ => ?_)
    | with_reducible refine calm_ite _ _ _ (fun _ => ?_) (fun _ => ?_)
    | split
    | dsimp only)
theorem calm_byteOf (a : Addr) : Calm P (byteOf a) := by
  unfold byteOf
  repeat' (first
    | with_reducible exact calm_pure _
    | with_reducible exact calm_stuck _
    | with_reducible exact calm_goPanic _
    | with_reducible exact calm_load _ _
    | with_reducible exact calm_store _ _ _
    | with_reducible exact calm_shape _
    | with_reducible exact calm_frozen _
    | with_reducible exact calm_choose _
    | with_reducible exact calm_program
    | with_reducible exact calm_room
    | with_reducible exact calm_askRoom _
    | with_reducible exact calm_typeInfo _
    | with_reducible exact calm_underlying _
    | with_reducible exact calm_zeroValue _
    | with_reducible exact calm_sizeOf _
    | with_reducible exact calm_isAgg _
    | with_reducible exact calm_loadCellsFrom _ _ _
    | with_reducible exact calm_loadCells _ _
    | with_reducible exact calm_storeCells _ _ _
    | with_reducible exact calm_loadVar _ _
    | with_reducible exact calm_storeVar _ _ _
    | with_reducible exact calm_newRow _ _
    | with_reducible exact calm_newVar _ _
    | with_reducible exact calm_elemOf _
    | with_reducible exact calm_runtimePanic _
    | with_reducible exact calm_boundsPanic _ _ _ _
    | with_reducible exact calm_asIntOf _
    | with_reducible exact calm_asInt _
    | with_reducible exact calm_asBool _
    | with_reducible exact calm_asAddr _
    | with_reducible exact calm_sureAddr _
    | with_reducible exact calm_loadAt _ _
    | with_reducible exact calm_storeAt _ _ _
    | with_reducible exact calm_lenOf _
    | with_reducible exact calm_firstCells _ _ _
    | with_reducible exact calm_holdsCells _ _
    | with_reducible exact calm_mayShare _ _ _ _ _
    | with_reducible exact calm_len _ _ _
    | with_reducible exact calm_indexAt _ _ _
    | with_reducible exact calm_buildSlice _ _ _
    | with_reducible exact calm_makeSlice _ _ _
    | with_reducible exact calm_append _ _ _
    | with_reducible exact calm_typeStr _
    | with_reducible exact calm_part _ _ _
    | with_reducible exact calm_viewAt _
    | with_reducible exact calm_numberAt _
    | with_reducible exact calm_asNumber _ _
    | with_reducible exact calm_behindNumber _
    | with_reducible exact calm_noView _
    | with_reducible exact calm_stringish _
    | with_reducible exact calm_mayBeOne _ _
    | with_reducible exact calm_sameAddr _ _
    | with_reducible exact calm_samePointer _ _
    | ((with_reducible refine calm_unsupported _ ?_); intro _ h; cases h)
    | ((with_reducible refine calm_newObj _ ?_); intro _ _ h; cases h)
    | with_reducible exact calm_map _ _ (calm_choose _)
    | with_reducible refine calm_map _ _ ?_
    | with_reducible refine calm_forIn_arr _ _ (fun _ _ => ?_) _
    | with_reducible refine calm_forIn_range _ _ (fun _ _ => ?_) _
    | with_reducible refine calm_getObj_bind _ _ (fun _ => ?_)
    | with_reducible refine calm_mbind _ _ ?_ (fun _ => ?_)
    | with_reducible refine calm_ite _ _ _ (fun _ => ?_) (fun _ => ?_)
    | split
    | dsimp only)
theorem calm_twoPlaces (a b : Addr) : Calm P (Op.twoPlaces a b) := by
  unfold Op.twoPlaces
  repeat' (first
    | with_reducible exact calm_pure _
    | with_reducible exact calm_stuck _
    | with_reducible exact calm_goPanic _
    | with_reducible exact calm_load _ _
    | with_reducible exact calm_store _ _ _
    | with_reducible exact calm_shape _
    | with_reducible exact calm_frozen _
    | with_reducible exact calm_choose _
    | with_reducible exact calm_program
    | with_reducible exact calm_room
    | with_reducible exact calm_askRoom _
    | with_reducible exact calm_typeInfo _
    | with_reducible exact calm_underlying _
    | with_reducible exact calm_zeroValue _
    | with_reducible exact calm_sizeOf _
    | with_reducible exact calm_isAgg _
    | with_reducible exact calm_loadCellsFrom _ _ _
    | with_reducible exact calm_loadCells _ _
    | with_reducible exact calm_storeCells _ _ _
    | with_reducible exact calm_loadVar _ _
    | with_reducible exact calm_storeVar _ _ _
    | with_reducible exact calm_newRow _ _
    | with_reducible exact calm_newVar _ _
    | with_reducible exact calm_elemOf _
    | with_reducible exact calm_runtimePanic _
    | with_reducible exact calm_boundsPanic _ _ _ _
    | with_reducible exact calm_asIntOf _
    | with_reducible exact calm_asInt _
    | with_reducible exact calm_asBool _
    | with_reducible exact calm_asAddr _
    | with_reducible exact calm_sureAddr _
    | with_reducible exact calm_loadAt _ _
    | with_reducible exact calm_storeAt _ _ _
    | with_reducible exact calm_lenOf _
    | with_reducible exact calm_firstCells _ _ _
    | with_reducible exact calm_holdsCells _ _
    | with_reducible exact calm_mayShare _ _ _ _ _
    | with_reducible exact calm_len _ _ _
    | with_reducible exact calm_indexAt _ _ _
    | with_reducible exact calm_buildSlice _ _ _
    | with_reducible exact calm_makeSlice _ _ _
    | with_reducible exact calm_append _ _ _
    | with_reducible exact calm_typeStr _
    | with_reducible exact calm_part _ _ _
    | with_reducible exact calm_viewAt _
    | with_reducible exact calm_numberAt _
    | with_reducible exact calm_asNumber _ _
    | with_reducible exact calm_behindNumber _
    | with_reducible exact calm_noView _
    | with_reducible exact calm_stringish _
    | with_reducible exact calm_mayBeOne _ _
    | with_reducible exact calm_sameAddr _ _
    | with_reducible exact calm_samePointer _ _
    | with_reducible exact calm_byteOf _
    | ((with_reducible refine calm_unsupported _ ?_); intro _ h; cases h)
    | ((with_reducible refine calm_newObj _ ?_); intro _ _ h; cases h)
    | with_reducible exact calm_map _ _ (calm_choose _)
    | with_reducible refine calm_map _ _ ?_
    | with_reducible refine calm_forIn_arr _ _ (fun _ _ => ?_) _
    | with_reducible refine calm_forIn_range _ _ (fun _ _ => ?_) _
    | with_reducible refine calm_getObj_bind _ _ (fun _ => ?_)
    | with_reducible refine calm_mbind _ _ ?_ (fun _ => ?_)
    | with_reducible refine calm_ite _ _ _ (fun _ => ?_) (fun _ => ?_)
    | split
    | dsimp only)
theorem calm_addrSub (k : IntKind) (a b : Addr) : Calm P (Op.addrSub k a b) := by
  unfold Op.addrSub
  repeat' (first
    | with_reducible exact calm_pure _
    | with_reducible exact calm_stuck _
    | with_reducible exact calm_goPanic _
    | with_reducible exact calm_load _ _
    | with_reducible exact calm_store _ _ _
    | with_reducible exact calm_shape _
    | with_reducible exact calm_frozen _
    | with_reducible exact calm_choose _
    | with_reducible exact calm_program
    | with_reducible exact calm_room
    | with_reducible exact calm_askRoom _
    | with_reducible exact calm_typeInfo _
    | with_reducible exact calm_underlying _
    | with_reducible exact calm_zeroValue _
    | with_reducible exact calm_sizeOf _
    | with_reducible exact calm_isAgg _
    | with_reducible exact calm_loadCellsFrom _ _ _
    | with_reducible exact calm_loadCells _ _
    | with_reducible exact calm_storeCells _ _ _
    | with_reducible exact calm_loadVar _ _
    | with_reducible exact calm_storeVar _ _ _
    | with_reducible exact calm_newRow _ _
    | with_reducible exact calm_newVar _ _
    | with_reducible exact calm_elemOf _
    | with_reducible exact calm_runtimePanic _
    | with_reducible exact calm_boundsPanic _ _ _ _
    | with_reducible exact calm_asIntOf _
    | with_reducible exact calm_asInt _
    | with_reducible exact calm_asBool _
    | with_reducible exact calm_asAddr _
    | with_reducible exact calm_sureAddr _
    | with_reducible exact calm_loadAt _ _
    | with_reducible exact calm_storeAt _ _ _
    | with_reducible exact calm_lenOf _
    | with_reducible exact calm_firstCells _ _ _
    | with_reducible exact calm_holdsCells _ _
    | with_reducible exact calm_mayShare _ _ _ _ _
    | with_reducible exact calm_len _ _ _
    | with_reducible exact calm_indexAt _ _ _
    | with_reducible exact calm_buildSlice _ _ _
    | with_reducible exact calm_makeSlice _ _ _
    | with_reducible exact calm_append _ _ _
    | with_reducible exact calm_typeStr _
    | with_reducible exact calm_part _ _ _
    | with_reducible exact calm_viewAt _
    | with_reducible exact calm_numberAt _
    | with_reducible exact calm_asNumber _ _
    | with_reducible exact calm_behindNumber _
    | with_reducible exact calm_noView _
    | with_reducible exact calm_stringish _
    | with_reducible exact calm_mayBeOne _ _
    | with_reducible exact calm_sameAddr _ _
    | with_reducible exact calm_samePointer _ _
    | with_reducible exact calm_byteOf _
    | with_reducible exact calm_twoPlaces _ _
    | ((with_reducible refine calm_unsupported _ ?_); intro _ h; cases h)
    | ((with_reducible refine calm_newObj _ ?_); intro _ _ h; cases h)
    | with_reducible exact calm_map _ _ (calm_choose _)
    | with_reducible refine calm_map _ _ ?_
    | with_reducible refine calm_forIn_arr _ _ (fun _ _ => ?_) _
    | with_reducible refine calm_forIn_range _ _ (fun _ _ => ?_) _
    | with_reducible refine calm_getObj_bind _ _ (fun _ => ?_)
    | with_reducible refine calm_mbind _ _ ?_ (fun _ => ?_)
    | with_reducible refine calm_ite _ _ _ (fun _ => ?_) (fun _ => ?_)
    | split
    | dsimp only)
theorem calm_addrCmp (o : BinOp) (a b : Addr) : Calm P (Op.addrCmp o a b) := by
  unfold Op.addrCmp
  repeat' (first
    | with_reducible exact calm_pure _
    | with_reducible exact calm_stuck _
    | with_reducible exact calm_goPanic _
    | with_reducible exact calm_load _ _
    | with_reducible exact calm_store _ _ _
    | with_reducible exact calm_shape _
    | with_reducible exact calm_frozen _
    | with_reducible exact calm_choose _
    | with_reducible exact calm_program
    | with_reducible exact calm_room
    | with_reducible exact calm_askRoom _
    | with_reducible exact calm_typeInfo _
    | with_reducible exact calm_underlying _
    | with_reducible exact calm_zeroValue _
    | with_reducible exact calm_sizeOf _
    | with_reducible exact calm_isAgg _
    | with_reducible exact calm_loadCellsFrom _ _ _
    | with_reducible exact calm_loadCells _ _
    | with_reducible exact calm_storeCells _ _ _
    | with_reducible exact calm_loadVar _ _
    | with_reducible exact calm_storeVar _ _ _
    | with_reducible exact calm_newRow _ _
    | with_reducible exact calm_newVar _ _
    | with_reducible exact calm_elemOf _
    | with_reducible exact calm_runtimePanic _
    | with_reducible exact calm_boundsPanic _ _ _ _
    | with_reducible exact calm_asIntOf _
    | with_reducible exact calm_asInt _
    | with_reducible exact calm_asBool _
    | with_reducible exact calm_asAddr _
    | with_reducible exact calm_sureAddr _
    | with_reducible exact calm_loadAt _ _
    | with_reducible exact calm_storeAt _ _ _
    | with_reducible exact calm_lenOf _
    | with_reducible exact calm_firstCells _ _ _
    | with_reducible exact calm_holdsCells _ _
    | with_reducible exact calm_mayShare _ _ _ _ _
    | with_reducible exact calm_len _ _ _
    | with_reducible exact calm_indexAt _ _ _
    | with_reducible exact calm_buildSlice _ _ _
    | with_reducible exact calm_makeSlice _ _ _
    | with_reducible exact calm_append _ _ _
    | with_reducible exact calm_typeStr _
    | with_reducible exact calm_part _ _ _
    | with_reducible exact calm_viewAt _
    | with_reducible exact calm_numberAt _
    | with_reducible exact calm_asNumber _ _
    | with_reducible exact calm_behindNumber _
    | with_reducible exact calm_noView _
    | with_reducible exact calm_stringish _
    | with_reducible exact calm_mayBeOne _ _
    | with_reducible exact calm_sameAddr _ _
    | with_reducible exact calm_samePointer _ _
    | with_reducible exact calm_byteOf _
    | with_reducible exact calm_twoPlaces _ _
    | with_reducible exact calm_addrSub _ _ _
    | ((with_reducible refine calm_unsupported _ ?_); intro _ h; cases h)
    | ((with_reducible refine calm_newObj _ ?_); intro _ _ h; cases h)
    | with_reducible exact calm_map _ _ (calm_choose _)
    | with_reducible refine calm_map _ _ ?_
    | with_reducible refine calm_forIn_arr _ _ (fun _ _ => ?_) _
    | with_reducible refine calm_forIn_range _ _ (fun _ _ => ?_) _
    | with_reducible refine calm_getObj_bind _ _ (fun _ => ?_)
    | with_reducible refine calm_mbind _ _ ?_ (fun _ => ?_)
    | with_reducible refine calm_ite _ _ _ (fun _ => ?_) (fun _ => ?_)
    | split
    | dsimp only)
theorem calm_addrMod (k : IntKind) (a : Addr) (n : Int) : Calm P (Op.addrMod k a n) := by
  unfold Op.addrMod
  repeat' (first
    | with_reducible exact calm_pure _
    | with_reducible exact calm_stuck _
    | with_reducible exact calm_goPanic _
    | with_reducible exact calm_load _ _
    | with_reducible exact calm_store _ _ _
    | with_reducible exact calm_shape _
    | with_reducible exact calm_frozen _
    | with_reducible exact calm_choose _
    | with_reducible exact calm_program
    | with_reducible exact calm_room
    | with_reducible exact calm_askRoom _
    | with_reducible exact calm_typeInfo _
    | with_reducible exact calm_underlying _
    | with_reducible exact calm_zeroValue _
    | with_reducible exact calm_sizeOf _
    | with_reducible exact calm_isAgg _
    | with_reducible exact calm_loadCellsFrom _ _ _
    | with_reducible exact calm_loadCells _ _
    | with_reducible exact calm_storeCells _ _ _
    | with_reducible exact calm_loadVar _ _
    | with_reducible exact calm_storeVar _ _ _
    | with_reducible exact calm_newRow _ _
    | with_reducible exact calm_newVar _ _
    | with_reducible exact calm_elemOf _
    | with_reducible exact calm_runtimePanic _
    | with_reducible exact calm_boundsPanic _ _ _ _
    | with_reducible exact calm_asIntOf _
    | with_reducible exact calm_asInt _
    | with_reducible exact calm_asBool _
    | with_reducible exact calm_asAddr _
    | with_reducible exact calm_sureAddr _
    | with_reducible exact calm_loadAt _ _
    | with_reducible exact calm_storeAt _ _ _
    | with_reducible exact calm_lenOf _
    | with_reducible exact calm_firstCells _ _ _
    | with_reducible exact calm_holdsCells _ _
    | with_reducible exact calm_mayShare _ _ _ _ _
    | with_reducible exact calm_len _ _ _
    | with_reducible exact calm_indexAt _ _ _
    | with_reducible exact calm_buildSlice _ _ _
    | with_reducible exact calm_makeSlice _ _ _
    | with_reducible exact calm_append _ _ _
    | with_reducible exact calm_typeStr _
    | with_reducible exact calm_part _ _ _
    | with_reducible exact calm_viewAt _
    | with_reducible exact calm_numberAt _
    | with_reducible exact calm_asNumber _ _
    | with_reducible exact calm_behindNumber _
    | with_reducible exact calm_noView _
    | with_reducible exact calm_stringish _
    | with_reducible exact calm_mayBeOne _ _
    | with_reducible exact calm_sameAddr _ _
    | with_reducible exact calm_samePointer _ _
    | with_reducible exact calm_byteOf _
    | with_reducible exact calm_twoPlaces _ _
    | with_reducible exact calm_addrSub _ _ _
    | with_reducible exact calm_addrCmp _ _ _
    | ((with_reducible refine calm_unsupported _ ?_); intro _ h; cases h)
    | ((with_reducible refine calm_newObj _ ?_); intro _ _ h; cases h)
    | with_reducible exact calm_map _ _ (calm_choose _)
    | with_reducible refine calm_map _ _ ?_
    | with_reducible refine calm_forIn_arr _ _ (fun _ _ => ?_) _
    | with_reducible refine calm_forIn_range _ _ (fun _ _ => ?_) _
    | with_reducible refine calm_getObj_bind _ _ (fun _ => ?_)
    | with_reducible refine calm_mbind _ _ ?_ (fun _ => ?_)
    | with_reducible refine calm_ite _ _ _ (fun _ => ?_) (fun _ => ?_)
    | split
    | dsimp only)
set_option linter.unusedVariables false in
theorem calm_match_ua {xs : Array Value} {f : Option Addr → Value → Sem Value} {h : ∀ xs : Array Value, Sem Value} (hf : ∀ p y, Calm P (f p y)) (hh : ∀ x, Calm P (h x)) :
    Calm P (Builtin.unsafeAdd_.match_4 (fun _ => Sem Value) xs f h) := by
  rcases xs with ⟨_ | ⟨x, _ | ⟨y, _ | ⟨z, l⟩⟩⟩⟩
  · exact hh _
  · exact hh _
  · cases x <;> first | exact hf _ _ | exact hh _
  · exact hh _
theorem calm_unsafeAdd (ts : Array TypeId) (t : TypeId) (xs : Array Value) : Calm P (Builtin.unsafeAdd_ ts t xs) := by
  unfold Builtin.unsafeAdd_
  refine calm_match_ua (fun _ _ => ?_) (fun _ => ?_)
  repeat' (first
    | with_reducible exact calm_pure _
    | with_reducible exact calm_stuck _
    | with_reducible exact calm_goPanic _
    | with_reducible exact calm_load _ _
    | with_reducible exact calm_store _ _ _
    | with_reducible exact calm_shape _
    | with_reducible exact calm_frozen _
    | with_reducible exact calm_choose _
    | with_reducible exact calm_program
    | with_reducible exact calm_room
    | with_reducible exact calm_askRoom _
    | with_reducible exact calm_typeInfo _
    | with_reducible exact calm_underlying _
    | with_reducible exact calm_zeroValue _
    | with_reducible exact calm_sizeOf _
    | with_reducible exact calm_isAgg _
    | with_reducible exact calm_loadCellsFrom _ _ _
    | with_reducible exact calm_loadCells _ _
    | with_reducible exact calm_storeCells _ _ _
    | with_reducible exact calm_loadVar _ _
    | with_reducible exact calm_storeVar _ _ _
    | with_reducible exact calm_newRow _ _
    | with_reducible exact calm_newVar _ _
    | with_reducible exact calm_elemOf _
    | with_reducible exact calm_runtimePanic _
    | with_reducible exact calm_boundsPanic _ _ _ _
    | with_reducible exact calm_asIntOf _
    | with_reducible exact calm_asInt _
    | with_reducible exact calm_asBool _
    | with_reducible exact calm_asAddr _
    | with_reducible exact calm_sureAddr _
    | with_reducible exact calm_loadAt _ _
    | with_reducible exact calm_storeAt _ _ _
    | with_reducible exact calm_lenOf _
    | with_reducible exact calm_firstCells _ _ _
    | with_reducible exact calm_holdsCells _ _
    | with_reducible exact calm_mayShare _ _ _ _ _
    | with_reducible exact calm_len _ _ _
    | with_reducible exact calm_indexAt _ _ _
    | with_reducible exact calm_buildSlice _ _ _
    | with_reducible exact calm_makeSlice _ _ _
    | with_reducible exact calm_append _ _ _
    | with_reducible exact calm_typeStr _
    | with_reducible exact calm_part _ _ _
    | with_reducible exact calm_viewAt _
    | with_reducible exact calm_numberAt _
    | with_reducible exact calm_asNumber _ _
    | with_reducible exact calm_behindNumber _
    | with_reducible exact calm_noView _
    | with_reducible exact calm_stringish _
    | with_reducible exact calm_mayBeOne _ _
    | with_reducible exact calm_sameAddr _ _
    | with_reducible exact calm_samePointer _ _
    | with_reducible exact calm_byteOf _
    | with_reducible exact calm_twoPlaces _ _
    | with_reducible exact calm_addrSub _ _ _
    | with_reducible exact calm_addrCmp _ _ _
    | with_reducible exact calm_addrMod _ _ _
    | ((with_reducible refine calm_unsupported _ ?_); intro _ h; cases h)
    | ((with_reducible refine calm_newObj _ ?_); intro _ _ h; cases h)
    | with_reducible exact calm_map _ _ (calm_choose _)
    | with_reducible refine calm_map _ _ ?_
    | with_reducible refine calm_forIn_arr _ _ (fun _ _ => ?_) _
    | with_reducible refine calm_forIn_range _ _ (fun _ _ => ?_) _
    | with_reducible refine calm_getObj_bind _ _ (fun _ => ?_)
    | with_reducible refine calm_mbind _ _ ?_ (fun _ => ?_)
    | with_reducible refine calm_ite _ _ _ (fun _ => ?_) (fun _ => ?_)
    | split
    | dsimp only)
theorem calm_movedNumber (t : TypeId) (x y : Value) : Calm P (movedNumber t x y) := by
  unfold movedNumber
  repeat' (first
    | with_reducible exact calm_pure _
    | with_reducible exact calm_stuck _
    | with_reducible exact calm_goPanic _
    | with_reducible exact calm_load _ _
    | with_reducible exact calm_store _ _ _
    | with_reducible exact calm_shape _
    | with_reducible exact calm_frozen _
    | with_reducible exact calm_choose _
    | with_reducible exact calm_program
    | with_reducible exact calm_room
    | with_reducible exact calm_askRoom _
    | with_reducible exact calm_typeInfo _
    | with_reducible exact calm_underlying _
    | with_reducible exact calm_zeroValue _
    | with_reducible exact calm_sizeOf _
    | with_reducible exact calm_isAgg _
    | with_reducible exact calm_loadCellsFrom _ _ _
    | with_reducible exact calm_loadCells _ _
    | with_reducible exact calm_storeCells _ _ _
    | with_reducible exact calm_loadVar _ _
    | with_reducible exact calm_storeVar _ _ _
    | with_reducible exact calm_newRow _ _
    | with_reducible exact calm_newVar _ _
    | with_reducible exact calm_elemOf _
    | with_reducible exact calm_runtimePanic _
    | with_reducible exact calm_boundsPanic _ _ _ _
    | with_reducible exact calm_asIntOf _
    | with_reducible exact calm_asInt _
    | with_reducible exact calm_asBool _
    | with_reducible exact calm_asAddr _
    | with_reducible exact calm_sureAddr _
    | with_reducible exact calm_loadAt _ _
    | with_reducible exact calm_storeAt _ _ _
    | with_reducible exact calm_lenOf _
    | with_reducible exact calm_firstCells _ _ _
    | with_reducible exact calm_holdsCells _ _
    | with_reducible exact calm_mayShare _ _ _ _ _
    | with_reducible exact calm_len _ _ _
    | with_reducible exact calm_indexAt _ _ _
    | with_reducible exact calm_buildSlice _ _ _
    | with_reducible exact calm_makeSlice _ _ _
    | with_reducible exact calm_append _ _ _
    | with_reducible exact calm_typeStr _
    | with_reducible exact calm_part _ _ _
    | with_reducible exact calm_viewAt _
    | with_reducible exact calm_numberAt _
    | with_reducible exact calm_asNumber _ _
    | with_reducible exact calm_behindNumber _
    | with_reducible exact calm_noView _
    | with_reducible exact calm_stringish _
    | with_reducible exact calm_mayBeOne _ _
    | with_reducible exact calm_sameAddr _ _
    | with_reducible exact calm_samePointer _ _
    | with_reducible exact calm_byteOf _
    | with_reducible exact calm_twoPlaces _ _
    | with_reducible exact calm_addrSub _ _ _
    | with_reducible exact calm_addrCmp _ _ _
    | with_reducible exact calm_addrMod _ _ _
    | with_reducible exact calm_unsafeAdd _ _ _
    | ((with_reducible refine calm_unsupported _ ?_); intro _ h; cases h)
    | ((with_reducible refine calm_newObj _ ?_); intro _ _ h; cases h)
    | with_reducible exact calm_map _ _ (calm_choose _)
    | with_reducible refine calm_map _ _ ?_
    | with_reducible refine calm_forIn_arr _ _ (fun _ _ => ?_) _
    | with_reducible refine calm_forIn_range _ _ (fun _ _ => ?_) _
    | with_reducible refine calm_getObj_bind _ _ (fun _ => ?_)
    | with_reducible refine calm_mbind _ _ ?_ (fun _ => ?_)
    | with_reducible refine calm_ite _ _ _ (fun _ => ?_) (fun _ => ?_)
    | split
    | dsimp only)
theorem calm_movedPointer (t : TypeId) (x y : Value) : Calm P (movedPointer t x y) := by
  unfold movedPointer
  repeat' (first
    | with_reducible exact calm_pure _
    | with_reducible exact calm_stuck _
    | with_reducible exact calm_goPanic _
    | with_reducible exact calm_load _ _
    | with_reducible exact calm_store _ _ _
    | with_reducible exact calm_shape _
    | with_reducible exact calm_frozen _
    | with_reducible exact calm_choose _
    | with_reducible exact calm_program
    | with_reducible exact calm_room
    | with_reducible exact calm_askRoom _
    | with_reducible exact calm_typeInfo _
    | with_reducible exact calm_underlying _
    | with_reducible exact calm_zeroValue _
    | with_reducible exact calm_sizeOf _
    | with_reducible exact calm_isAgg _
    | with_reducible exact calm_loadCellsFrom _ _ _
    | with_reducible exact calm_loadCells _ _
    | with_reducible exact calm_storeCells _ _ _
    | with_reducible exact calm_loadVar _ _
    | with_reducible exact calm_storeVar _ _ _
    | with_reducible exact calm_newRow _ _
    | with_reducible exact calm_newVar _ _
    | with_reducible exact calm_elemOf _
    | with_reducible exact calm_runtimePanic _
    | with_reducible exact calm_boundsPanic _ _ _ _
    | with_reducible exact calm_asIntOf _
    | with_reducible exact calm_asInt _
    | with_reducible exact calm_asBool _
    | with_reducible exact calm_asAddr _
    | with_reducible exact calm_sureAddr _
    | with_reducible exact calm_loadAt _ _
    | with_reducible exact calm_storeAt _ _ _
    | with_reducible exact calm_lenOf _
    | with_reducible exact calm_firstCells _ _ _
    | with_reducible exact calm_holdsCells _ _
    | with_reducible exact calm_mayShare _ _ _ _ _
    | with_reducible exact calm_len _ _ _
    | with_reducible exact calm_indexAt _ _ _
    | with_reducible exact calm_buildSlice _ _ _
    | with_reducible exact calm_makeSlice _ _ _
    | with_reducible exact calm_append _ _ _
    | with_reducible exact calm_typeStr _
    | with_reducible exact calm_part _ _ _
    | with_reducible exact calm_viewAt _
    | with_reducible exact calm_numberAt _
    | with_reducible exact calm_asNumber _ _
    | with_reducible exact calm_behindNumber _
    | with_reducible exact calm_noView _
    | with_reducible exact calm_stringish _
    | with_reducible exact calm_mayBeOne _ _
    | with_reducible exact calm_sameAddr _ _
    | with_reducible exact calm_samePointer _ _
    | with_reducible exact calm_byteOf _
    | with_reducible exact calm_twoPlaces _ _
    | with_reducible exact calm_addrSub _ _ _
    | with_reducible exact calm_addrCmp _ _ _
    | with_reducible exact calm_addrMod _ _ _
    | with_reducible exact calm_unsafeAdd _ _ _
    | with_reducible exact calm_movedNumber _ _ _
    | ((with_reducible refine calm_unsupported _ ?_); intro _ h; cases h)
    | ((with_reducible refine calm_newObj _ ?_); intro _ _ h; cases h)
    | with_reducible exact calm_map _ _ (calm_choose _)
    | with_reducible refine calm_map _ _ ?_
    | with_reducible refine calm_forIn_arr _ _ (fun _ _ => ?_) _
    | with_reducible refine calm_forIn_range _ _ (fun _ _ => ?_) _
    | with_reducible refine calm_getObj_bind _ _ (fun _ => ?_)
    | with_reducible refine calm_mbind _ _ ?_ (fun _ => ?_)
    | with_reducible refine calm_ite _ _ _ (fun _ => ?_) (fun _ => ?_)
    | split
    | dsimp only)
theorem calm_intArith (o : BinOp) (k : IntKind) (x y : Int) : Calm P (Op.intArith o k x y) := by
  unfold Op.intArith
  repeat' (first
    | with_reducible exact calm_pure _
    | with_reducible exact calm_stuck _
    | with_reducible exact calm_goPanic _
    | with_reducible exact calm_load _ _
    | with_reducible exact calm_store _ _ _
    | with_reducible exact calm_shape _
    | with_reducible exact calm_frozen _
    | with_reducible exact calm_choose _
    | with_reducible exact calm_program
    | with_reducible exact calm_room
    | with_reducible exact calm_askRoom _
    | with_reducible exact calm_typeInfo _
    | with_reducible exact calm_underlying _
    | with_reducible exact calm_zeroValue _
    | with_reducible exact calm_sizeOf _
    | with_reducible exact calm_isAgg _
    | with_reducible exact calm_loadCellsFrom _ _ _
    | with_reducible exact calm_loadCells _ _
    | with_reducible exact calm_storeCells _ _ _
    | with_reducible exact calm_loadVar _ _
    | with_reducible exact calm_storeVar _ _ _
    | with_reducible exact calm_newRow _ _
    | with_reducible exact calm_newVar _ _
    | with_reducible exact calm_elemOf _
    | with_reducible exact calm_runtimePanic _
    | with_reducible exact calm_boundsPanic _ _ _ _
    | with_reducible exact calm_asIntOf _
    | with_reducible exact calm_asInt _
    | with_reducible exact calm_asBool _
    | with_reducible exact calm_asAddr _
    | with_reducible exact calm_sureAddr _
    | with_reducible exact calm_loadAt _ _
    | with_reducible exact calm_storeAt _ _ _
    | with_reducible exact calm_lenOf _
    | with_reducible exact calm_firstCells _ _ _
    | with_reducible exact calm_holdsCells _ _
    | with_reducible exact calm_mayShare _ _ _ _ _
    | with_reducible exact calm_len _ _ _
    | with_reducible exact calm_indexAt _ _ _
    | with_reducible exact calm_buildSlice _ _ _
    | with_reducible exact calm_makeSlice _ _ _
    | with_reducible exact calm_append _ _ _
    | with_reducible exact calm_typeStr _
    | with_reducible exact calm_part _ _ _
    | with_reducible exact calm_viewAt _
    | with_reducible exact calm_numberAt _
    | with_reducible exact calm_asNumber _ _
    | with_reducible exact calm_behindNumber _
    | with_reducible exact calm_noView _
    | with_reducible exact calm_stringish _
    | with_reducible exact calm_mayBeOne _ _
    | with_reducible exact calm_sameAddr _ _
    | with_reducible exact calm_samePointer _ _
    | with_reducible exact calm_byteOf _
    | with_reducible exact calm_twoPlaces _ _
    | with_reducible exact calm_addrSub _ _ _
    | with_reducible exact calm_addrCmp _ _ _
    | with_reducible exact calm_addrMod _ _ _
    | with_reducible exact calm_unsafeAdd _ _ _
    | with_reducible exact calm_movedNumber _ _ _
    | with_reducible exact calm_movedPointer _ _ _
    | ((with_reducible refine calm_unsupported _ ?_); intro _ h; cases h)
    | ((with_reducible refine calm_newObj _ ?_); intro _ _ h; cases h)
    | with_reducible exact calm_map _ _ (calm_choose _)
    | with_reducible refine calm_map _ _ ?_
    | with_reducible refine calm_forIn_arr _ _ (fun _ _ => ?_) _
    | with_reducible refine calm_forIn_range _ _ (fun _ _ => ?_) _
    | with_reducible refine calm_getObj_bind _ _ (fun _ => ?_)
    | with_reducible refine calm_mbind _ _ ?_ (fun _ => ?_)
    | with_reducible refine calm_ite _ _ _ (fun _ => ?_) (fun _ => ?_)
    | split
    | dsimp only)
theorem calm_intDiv (o : BinOp) (k : IntKind) (x y : Int) : Calm P (Op.intDiv o k x y) := by
  unfold Op.intDiv
  repeat' (first
    | with_reducible exact calm_pure _
    | with_reducible exact calm_stuck _
    | with_reducible exact calm_goPanic _
    | with_reducible exact calm_load _ _
    | with_reducible exact calm_store _ _ _
    | with_reducible exact calm_shape _
    | with_reducible exact calm_frozen _
    | with_reducible exact calm_choose _
    | with_reducible exact calm_program
    | with_reducible exact calm_room
    | with_reducible exact calm_askRoom _
    | with_reducible exact calm_typeInfo _
    | with_reducible exact calm_underlying _
    | with_reducible exact calm_zeroValue _
    | with_reducible exact calm_sizeOf _
    | with_reducible exact calm_isAgg _
    | with_reducible exact calm_loadCellsFrom _ _ _
    | with_reducible exact calm_loadCells _ _
    | with_reducible exact calm_storeCells _ _ _
    | with_reducible exact calm_loadVar _ _
    | with_reducible exact calm_storeVar _ _ _
    | with_reducible exact calm_newRow _ _
    | with_reducible exact calm_newVar _ _
    | with_reducible exact calm_elemOf _
    | with_reducible exact calm_runtimePanic _
    | with_reducible exact calm_boundsPanic _ _ _ _
    | with_reducible exact calm_asIntOf _
    | with_reducible exact calm_asInt _
    | with_reducible exact calm_asBool _
    | with_reducible exact calm_asAddr _
    | with_reducible exact calm_sureAddr _
    | with_reducible exact calm_loadAt _ _
    | with_reducible exact calm_storeAt _ _ _
    | with_reducible exact calm_lenOf _
    | with_reducible exact calm_firstCells _ _ _
    | with_reducible exact calm_holdsCells _ _
    | with_reducible exact calm_mayShare _ _ _ _ _
    | with_reducible exact calm_len _ _ _
    | with_reducible exact calm_indexAt _ _ _
    | with_reducible exact calm_buildSlice _ _ _
    | with_reducible exact calm_makeSlice _ _ _
    | with_reducible exact calm_append _ _ _
    | with_reducible exact calm_typeStr _
    | with_reducible exact calm_part _ _ _
    | with_reducible exact calm_viewAt _
    | with_reducible exact calm_numberAt _
    | with_reducible exact calm_asNumber _ _
    | with_reducible exact calm_behindNumber _
    | with_reducible exact calm_noView _
    | with_reducible exact calm_stringish _
    | with_reducible exact calm_mayBeOne _ _
    | with_reducible exact calm_sameAddr _ _
    | with_reducible exact calm_samePointer _ _
    | with_reducible exact calm_byteOf _
    | with_reducible exact calm_twoPlaces _ _
    | with_reducible exact calm_addrSub _ _ _
    | with_reducible exact calm_addrCmp _ _ _
    | with_reducible exact calm_addrMod _ _ _
    | with_reducible exact calm_unsafeAdd _ _ _
    | with_reducible exact calm_movedNumber _ _ _
    | with_reducible exact calm_movedPointer _ _ _
    | with_reducible exact calm_intArith _ _ _ _
    | ((with_reducible refine calm_unsupported _ ?_); intro _ h; cases h)
    | ((with_reducible refine calm_newObj _ ?_); intro _ _ h; cases h)
    | with_reducible exact calm_map _ _ (calm_choose _)
    | with_reducible refine calm_map _ _ ?_
    | with_reducible refine calm_forIn_arr _ _ (fun _ _ => ?_) _
    | with_reducible refine calm_forIn_range _ _ (fun _ _ => ?_) _
    | with_reducible refine calm_getObj_bind _ _ (fun _ => ?_)
    | with_reducible refine calm_mbind _ _ ?_ (fun _ => ?_)
    | with_reducible refine calm_ite _ _ _ (fun _ => ?_) (fun _ => ?_)
    | split
    | dsimp only)
theorem calm_intBits (o : BinOp) (k : IntKind) (x y : Int) : Calm P (Op.intBits o k x y) := by
  unfold Op.intBits
  repeat' (first
    | with_reducible exact calm_pure _
    | with_reducible exact calm_stuck _
    | with_reducible exact calm_goPanic _
    | with_reducible exact calm_load _ _
    | with_reducible exact calm_store _ _ _
    | with_reducible exact calm_shape _
    | with_reducible exact calm_frozen _
    | with_reducible exact calm_choose _
    | with_reducible exact calm_program
    | with_reducible exact calm_room
    | with_reducible exact calm_askRoom _
    | with_reducible exact calm_typeInfo _
    | with_reducible exact calm_underlying _
    | with_reducible exact calm_zeroValue _
    | with_reducible exact calm_sizeOf _
    | with_reducible exact calm_isAgg _
    | with_reducible exact calm_loadCellsFrom _ _ _
    | with_reducible exact calm_loadCells _ _
    | with_reducible exact calm_storeCells _ _ _
    | with_reducible exact calm_loadVar _ _
    | with_reducible exact calm_storeVar _ _ _
    | with_reducible exact calm_newRow _ _
    | with_reducible exact calm_newVar _ _
    | with_reducible exact calm_elemOf _
    | with_reducible exact calm_runtimePanic _
    | with_reducible exact calm_boundsPanic _ _ _ _
    | with_reducible exact calm_asIntOf _
    | with_reducible exact calm_asInt _
    | with_reducible exact calm_asBool _
    | with_reducible exact calm_asAddr _
    | with_reducible exact calm_sureAddr _
    | with_reducible exact calm_loadAt _ _
    | with_reducible exact calm_storeAt _ _ _
    | with_reducible exact calm_lenOf _
    | with_reducible exact calm_firstCells _ _ _
    | with_reducible exact calm_holdsCells _ _
    | with_reducible exact calm_mayShare _ _ _ _ _
    | with_reducible exact calm_len _ _ _
    | with_reducible exact calm_indexAt _ _ _
    | with_reducible exact calm_buildSlice _ _ _
    | with_reducible exact calm_makeSlice _ _ _
    | with_reducible exact calm_append _ _ _
    | with_reducible exact calm_typeStr _
    | with_reducible exact calm_part _ _ _
    | with_reducible exact calm_viewAt _
    | with_reducible exact calm_numberAt _
    | with_reducible exact calm_asNumber _ _
    | with_reducible exact calm_behindNumber _
    | with_reducible exact calm_noView _
    | with_reducible exact calm_stringish _
    | with_reducible exact calm_mayBeOne _ _
    | with_reducible exact calm_sameAddr _ _
    | with_reducible exact calm_samePointer _ _
    | with_reducible exact calm_byteOf _
    | with_reducible exact calm_twoPlaces _ _
    | with_reducible exact calm_addrSub _ _ _
    | with_reducible exact calm_addrCmp _ _ _
    | with_reducible exact calm_addrMod _ _ _
    | with_reducible exact calm_unsafeAdd _ _ _
    | with_reducible exact calm_movedNumber _ _ _
    | with_reducible exact calm_movedPointer _ _ _
    | with_reducible exact calm_intArith _ _ _ _
    | with_reducible exact calm_intDiv _ _ _ _
    | ((with_reducible refine calm_unsupported _ ?_); intro _ h; cases h)
    | ((with_reducible refine calm_newObj _ ?_); intro _ _ h; cases h)
    | with_reducible exact calm_map _ _ (calm_choose _)
    | with_reducible refine calm_map _ _ ?_
    | with_reducible refine calm_forIn_arr _ _ (fun _ _ => ?_) _
    | with_reducible refine calm_forIn_range _ _ (fun _ _ => ?_) _
    | with_reducible refine calm_getObj_bind _ _ (fun _ => ?_)
    | with_reducible refine calm_mbind _ _ ?_ (fun _ => ?_)
    | with_reducible refine calm_ite _ _ _ (fun _ => ?_) (fun _ => ?_)
    | split
    | dsimp only)
theorem calm_intCmp (o : BinOp) (x y : Int) : Calm P (Op.intCmp o x y) := by
  unfold Op.intCmp
  repeat' (first
    | with_reducible exact calm_pure _
    | with_reducible exact calm_stuck _
    | with_reducible exact calm_goPanic _
    | with_reducible exact calm_load _ _
    | with_reducible exact calm_store _ _ _
    | with_reducible exact calm_shape _
    | with_reducible exact calm_frozen _
    | with_reducible exact calm_choose _
    | with_reducible exact calm_program
    | with_reducible exact calm_room
    | with_reducible exact calm_askRoom _
    | with_reducible exact calm_typeInfo _
    | with_reducible exact calm_underlying _
    | with_reducible exact calm_zeroValue _
    | with_reducible exact calm_sizeOf _
    | with_reducible exact calm_isAgg _
    | with_reducible exact calm_loadCellsFrom _ _ _
    | with_reducible exact calm_loadCells _ _
    | with_reducible exact calm_storeCells _ _ _
    | with_reducible exact calm_loadVar _ _
    | with_reducible exact calm_storeVar _ _ _
    | with_reducible exact calm_newRow _ _
    | with_reducible exact calm_newVar _ _
    | with_reducible exact calm_elemOf _
    | with_reducible exact calm_runtimePanic _
    | with_reducible exact calm_boundsPanic _ _ _ _
    | with_reducible exact calm_asIntOf _
    | with_reducible exact calm_asInt _
    | with_reducible exact calm_asBool _
    | with_reducible exact calm_asAddr _
    | with_reducible exact calm_sureAddr _
    | with_reducible exact calm_loadAt _ _
    | with_reducible exact calm_storeAt _ _ _
    | with_reducible exact calm_lenOf _
    | with_reducible exact calm_firstCells _ _ _
    | with_reducible exact calm_holdsCells _ _
    | with_reducible exact calm_mayShare _ _ _ _ _
    | with_reducible exact calm_len _ _ _
    | with_reducible exact calm_indexAt _ _ _
    | with_reducible exact calm_buildSlice _ _ _
    | with_reducible exact calm_makeSlice _ _ _
    | with_reducible exact calm_append _ _ _
    | with_reducible exact calm_typeStr _
    | with_reducible exact calm_part _ _ _
    | with_reducible exact calm_viewAt _
    | with_reducible exact calm_numberAt _
    | with_reducible exact calm_asNumber _ _
    | with_reducible exact calm_behindNumber _
    | with_reducible exact calm_noView _
    | with_reducible exact calm_stringish _
    | with_reducible exact calm_mayBeOne _ _
    | with_reducible exact calm_sameAddr _ _
    | with_reducible exact calm_samePointer _ _
    | with_reducible exact calm_byteOf _
    | with_reducible exact calm_twoPlaces _ _
    | with_reducible exact calm_addrSub _ _ _
    | with_reducible exact calm_addrCmp _ _ _
    | with_reducible exact calm_addrMod _ _ _
    | with_reducible exact calm_unsafeAdd _ _ _
    | with_reducible exact calm_movedNumber _ _ _
    | with_reducible exact calm_movedPointer _ _ _
    | with_reducible exact calm_intArith _ _ _ _
    | with_reducible exact calm_intDiv _ _ _ _
    | with_reducible exact calm_intBits _ _ _ _
    | ((with_reducible refine calm_unsupported _ ?_); intro _ h; cases h)
    | ((with_reducible refine calm_newObj _ ?_); intro _ _ h; cases h)
    | with_reducible exact calm_map _ _ (calm_choose _)
    | with_reducible refine calm_map _ _ ?_
    | with_reducible refine calm_forIn_arr _ _ (fun _ _ => ?_) _
    | with_reducible refine calm_forIn_range _ _ (fun _ _ => ?_) _
    | with_reducible refine calm_getObj_bind _ _ (fun _ => ?_)
    | with_reducible refine calm_mbind _ _ ?_ (fun _ => ?_)
    | with_reducible refine calm_ite _ _ _ (fun _ => ?_) (fun _ => ?_)
    | split
    | dsimp only)
theorem calm_shift (o : BinOp) (k : IntKind) (x : Int) (l : IntKind) (y : Int) : Calm P (Op.shift o k x l y) := by
  unfold Op.shift
  repeat' (first
    | with_reducible exact calm_pure _
    | with_reducible exact calm_stuck _
    | with_reducible exact calm_goPanic _
    | with_reducible exact calm_load _ _
    | with_reducible exact calm_store _ _ _
    | with_reducible exact calm_shape _
    | with_reducible exact calm_frozen _
    | with_reducible exact calm_choose _
    | with_reducible exact calm_program
    | with_reducible exact calm_room
    | with_reducible exact calm_askRoom _
    | with_reducible exact calm_typeInfo _
    | with_reducible exact calm_underlying _
    | with_reducible exact calm_zeroValue _
    | with_reducible exact calm_sizeOf _
    | with_reducible exact calm_isAgg _
    | with_reducible exact calm_loadCellsFrom _ _ _
    | with_reducible exact calm_loadCells _ _
    | with_reducible exact calm_storeCells _ _ _
    | with_reducible exact calm_loadVar _ _
    | with_reducible exact calm_storeVar _ _ _
    | with_reducible exact calm_newRow _ _
    | with_reducible exact calm_newVar _ _
    | with_reducible exact calm_elemOf _
    | with_reducible exact calm_runtimePanic _
    | with_reducible exact calm_boundsPanic _ _ _ _
    | with_reducible exact calm_asIntOf _
    | with_reducible exact calm_asInt _
    | with_reducible exact calm_asBool _
    | with_reducible exact calm_asAddr _
    | with_reducible exact calm_sureAddr _
    | with_reducible exact calm_loadAt _ _
    | with_reducible exact calm_storeAt _ _ _
    | with_reducible exact calm_lenOf _
    | with_reducible exact calm_firstCells _ _ _
    | with_reducible exact calm_holdsCells _ _
    | with_reducible exact calm_mayShare _ _ _ _ _
    | with_reducible exact calm_len _ _ _
    | with_reducible exact calm_indexAt _ _ _
    | with_reducible exact calm_buildSlice _ _ _
    | with_reducible exact calm_makeSlice _ _ _
    | with_reducible exact calm_append _ _ _
    | with_reducible exact calm_typeStr _
    | with_reducible exact calm_part _ _ _
    | with_reducible exact calm_viewAt _
    | with_reducible exact calm_numberAt _
    | with_reducible exact calm_asNumber _ _
    | with_reducible exact calm_behindNumber _
    | with_reducible exact calm_noView _
    | with_reducible exact calm_stringish _
    | with_reducible exact calm_mayBeOne _ _
    | with_reducible exact calm_sameAddr _ _
    | with_reducible exact calm_samePointer _ _
    | with_reducible exact calm_byteOf _
    | with_reducible exact calm_twoPlaces _ _
    | with_reducible exact calm_addrSub _ _ _
    | with_reducible exact calm_addrCmp _ _ _
    | with_reducible exact calm_addrMod _ _ _
    | with_reducible exact calm_unsafeAdd _ _ _
    | with_reducible exact calm_movedNumber _ _ _
    | with_reducible exact calm_movedPointer _ _ _
    | with_reducible exact calm_intArith _ _ _ _
    | with_reducible exact calm_intDiv _ _ _ _
    | with_reducible exact calm_intBits _ _ _ _
    | with_reducible exact calm_intCmp _ _ _
    | ((with_reducible refine calm_unsupported _ ?_); intro _ h; cases h)
    | ((with_reducible refine calm_newObj _ ?_); intro _ _ h; cases h)
    | with_reducible exact calm_map _ _ (calm_choose _)
    | with_reducible refine calm_map _ _ ?_
    | with_reducible refine calm_forIn_arr _ _ (fun _ _ => ?_) _
    | with_reducible refine calm_forIn_range _ _ (fun _ _ => ?_) _
    | with_reducible refine calm_getObj_bind _ _ (fun _ => ?_)
    | with_reducible refine calm_mbind _ _ ?_ (fun _ => ?_)
    | with_reducible refine calm_ite _ _ _ (fun _ => ?_) (fun _ => ?_)
    | split
    | dsimp only)
theorem calm_floatArith (o : BinOp) (k : FloatKind) (x y : Nat) : Calm P (Op.floatArith o k x y) := by
  unfold Op.floatArith
  repeat' (first
    | with_reducible exact calm_pure _
    | with_reducible exact calm_stuck _
    | with_reducible exact calm_goPanic _
    | with_reducible exact calm_load _ _
    | with_reducible exact calm_store _ _ _
    | with_reducible exact calm_shape _
    | with_reducible exact calm_frozen _
    | with_reducible exact calm_choose _
    | with_reducible exact calm_program
    | with_reducible exact calm_room
    | with_reducible exact calm_askRoom _
    | with_reducible exact calm_typeInfo _
    | with_reducible exact calm_underlying _
    | with_reducible exact calm_zeroValue _
    | with_reducible exact calm_sizeOf _
    | with_reducible exact calm_isAgg _
    | with_reducible exact calm_loadCellsFrom _ _ _
    | with_reducible exact calm_loadCells _ _
    | with_reducible exact calm_storeCells _ _ _
    | with_reducible exact calm_loadVar _ _
    | with_reducible exact calm_storeVar _ _ _
    | with_reducible exact calm_newRow _ _
    | with_reducible exact calm_newVar _ _
    | with_reducible exact calm_elemOf _
    | with_reducible exact calm_runtimePanic _
    | with_reducible exact calm_boundsPanic _ _ _ _
    | with_reducible exact calm_asIntOf _
    | with_reducible exact calm_asInt _
    | with_reducible exact calm_asBool _
    | with_reducible exact calm_asAddr _
    | with_reducible exact calm_sureAddr _
    | with_reducible exact calm_loadAt _ _
    | with_reducible exact calm_storeAt _ _ _
    | with_reducible exact calm_lenOf _
    | with_reducible exact calm_firstCells _ _ _
    | with_reducible exact calm_holdsCells _ _
    | with_reducible exact calm_mayShare _ _ _ _ _
    | with_reducible exact calm_len _ _ _
    | with_reducible exact calm_indexAt _ _ _
    | with_reducible exact calm_buildSlice _ _ _
    | with_reducible exact calm_makeSlice _ _ _
    | with_reducible exact calm_append _ _ _
    | with_reducible exact calm_typeStr _
    | with_reducible exact calm_part _ _ _
    | with_reducible exact calm_viewAt _
    | with_reducible exact calm_numberAt _
    | with_reducible exact calm_asNumber _ _
    | with_reducible exact calm_behindNumber _
    | with_reducible exact calm_noView _
    | with_reducible exact calm_stringish _
    | with_reducible exact calm_mayBeOne _ _
    | with_reducible exact calm_sameAddr _ _
    | with_reducible exact calm_samePointer _ _
    | with_reducible exact calm_byteOf _
    | with_reducible exact calm_twoPlaces _ _
    | with_reducible exact calm_addrSub _ _ _
    | with_reducible exact calm_addrCmp _ _ _
    | with_reducible exact calm_addrMod _ _ _
    | with_reducible exact calm_unsafeAdd _ _ _
    | with_reducible exact calm_movedNumber _ _ _
    | with_reducible exact calm_movedPointer _ _ _
    | with_reducible exact calm_intArith _ _ _ _
    | with_reducible exact calm_intDiv _ _ _ _
    | with_reducible exact calm_intBits _ _ _ _
    | with_reducible exact calm_intCmp _ _ _
    | with_reducible exact calm_shift _ _ _ _ _
    | ((with_reducible refine calm_unsupported _ ?_); intro _ h; cases h)
    | ((with_reducible refine calm_newObj _ ?_); intro _ _ h; cases h)
    | with_reducible exact calm_map _ _ (calm_choose _)
    | with_reducible refine calm_map _ _ ?_
    | with_reducible refine calm_forIn_arr _ _ (fun _ _ => ?_) _
    | with_reducible refine calm_forIn_range _ _ (fun _ _ => ?_) _
    | with_reducible refine calm_getObj_bind _ _ (fun _ => ?_)
    | with_reducible refine calm_mbind _ _ ?_ (fun _ => ?_)
    | with_reducible refine calm_ite _ _ _ (fun _ => ?_) (fun _ => ?_)
    | split
    | dsimp only)
theorem calm_floatCmp (o : BinOp) (k : FloatKind) (x y : Nat) : Calm P (Op.floatCmp o k x y) := by
  unfold Op.floatCmp
  repeat' (first
    | with_reducible exact calm_pure _
    | with_reducible exact calm_stuck _
    | with_reducible exact calm_goPanic _
    | with_reducible exact calm_load _ _
    | with_reducible exact calm_store _ _ _
    | with_reducible exact calm_shape _
    | with_reducible exact calm_frozen _
    | with_reducible exact calm_choose _
    | with_reducible exact calm_program
    | with_reducible exact calm_room
    | with_reducible exact calm_askRoom _
    | with_reducible exact calm_typeInfo _
    | with_reducible exact calm_underlying _
    | with_reducible exact calm_zeroValue _
    | with_reducible exact calm_sizeOf _
    | with_reducible exact calm_isAgg _
    | with_reducible exact calm_loadCellsFrom _ _ _
    | with_reducible exact calm_loadCells _ _
    | with_reducible exact calm_storeCells _ _ _
    | with_reducible exact calm_loadVar _ _
    | with_reducible exact calm_storeVar _ _ _
    | with_reducible exact calm_newRow _ _
    | with_reducible exact calm_newVar _ _
    | with_reducible exact calm_elemOf _
    | with_reducible exact calm_runtimePanic _
    | with_reducible exact calm_boundsPanic _ _ _ _
    | with_reducible exact calm_asIntOf _
    | with_reducible exact calm_asInt _
    | with_reducible exact calm_asBool _
    | with_reducible exact calm_asAddr _
    | with_reducible exact calm_sureAddr _
    | with_reducible exact calm_loadAt _ _
    | with_reducible exact calm_storeAt _ _ _
    | with_reducible exact calm_lenOf _
    | with_reducible exact calm_firstCells _ _ _
    | with_reducible exact calm_holdsCells _ _
    | with_reducible exact calm_mayShare _ _ _ _ _
    | with_reducible exact calm_len _ _ _
    | with_reducible exact calm_indexAt _ _ _
    | with_reducible exact calm_buildSlice _ _ _
    | with_reducible exact calm_makeSlice _ _ _
    | with_reducible exact calm_append _ _ _
    | with_reducible exact calm_typeStr _
    | with_reducible exact calm_part _ _ _
    | with_reducible exact calm_viewAt _
    | with_reducible exact calm_numberAt _
    | with_reducible exact calm_asNumber _ _
    | with_reducible exact calm_behindNumber _
    | with_reducible exact calm_noView _
    | with_reducible exact calm_stringish _
    | with_reducible exact calm_mayBeOne _ _
    | with_reducible exact calm_sameAddr _ _
    | with_reducible exact calm_samePointer _ _
    | with_reducible exact calm_byteOf _
    | with_reducible exact calm_twoPlaces _ _
    | with_reducible exact calm_addrSub _ _ _
    | with_reducible exact calm_addrCmp _ _ _
    | with_reducible exact calm_addrMod _ _ _
    | with_reducible exact calm_unsafeAdd _ _ _
    | with_reducible exact calm_movedNumber _ _ _
    | with_reducible exact calm_movedPointer _ _ _
    | with_reducible exact calm_intArith _ _ _ _
    | with_reducible exact calm_intDiv _ _ _ _
    | with_reducible exact calm_intBits _ _ _ _
    | with_reducible exact calm_intCmp _ _ _
    | with_reducible exact calm_shift _ _ _ _ _
    | with_reducible exact calm_floatArith _ _ _ _
    | ((with_reducible refine calm_unsupported _ ?_); intro _ h; cases h)
    | ((with_reducible refine calm_newObj _ ?_); intro _ _ h; cases h)
    | with_reducible exact calm_map _ _ (calm_choose _)
    | with_reducible refine calm_map _ _ ?_
    | with_reducible refine calm_forIn_arr _ _ (fun _ _ => ?_) _
    | with_reducible refine calm_forIn_range _ _ (fun _ _ => ?_) _
    | with_reducible refine calm_getObj_bind _ _ (fun _ => ?_)
    | with_reducible refine calm_mbind _ _ ?_ (fun _ => ?_)
    | with_reducible refine calm_ite _ _ _ (fun _ => ?_) (fun _ => ?_)
    | split
    | dsimp only)
theorem calm_floatToFloat (k : FloatKind) (b : Nat) (l : FloatKind) : Calm P (Conv.floatToFloat k b l) := by
  unfold Conv.floatToFloat
  repeat' (first
    | with_reducible exact calm_pure _
    | with_reducible exact calm_stuck _
    | with_reducible exact calm_goPanic _
    | with_reducible exact calm_load _ _
    | with_reducible exact calm_store _ _ _
    | with_reducible exact calm_shape _
    | with_reducible exact calm_frozen _
    | with_reducible exact calm_choose _
    | with_reducible exact calm_program
    | with_reducible exact calm_room
    | with_reducible exact calm_askRoom _
    | with_reducible exact calm_typeInfo _
    | with_reducible exact calm_underlying _
    | with_reducible exact calm_zeroValue _
    | with_reducible exact calm_sizeOf _
    | with_reducible exact calm_isAgg _
    | with_reducible exact calm_loadCellsFrom _ _ _
    | with_reducible exact calm_loadCells _ _
    | with_reducible exact calm_storeCells _ _ _
    | with_reducible exact calm_loadVar _ _
    | with_reducible exact calm_storeVar _ _ _
    | with_reducible exact calm_newRow _ _
    | with_reducible exact calm_newVar _ _
    | with_reducible exact calm_elemOf _
    | with_reducible exact calm_runtimePanic _
    | with_reducible exact calm_boundsPanic _ _ _ _
    | with_reducible exact calm_asIntOf _
    | with_reducible exact calm_asInt _
    | with_reducible exact calm_asBool _
    | with_reducible exact calm_asAddr _
    | with_reducible exact calm_sureAddr _
    | with_reducible exact calm_loadAt _ _
    | with_reducible exact calm_storeAt _ _ _
    | with_reducible exact calm_lenOf _
    | with_reducible exact calm_firstCells _ _ _
    | with_reducible exact calm_holdsCells _ _
    | with_reducible exact calm_mayShare _ _ _ _ _
    | with_reducible exact calm_len _ _ _
    | with_reducible exact calm_indexAt _ _ _
    | with_reducible exact calm_buildSlice _ _ _
    | with_reducible exact calm_makeSlice _ _ _
    | with_reducible exact calm_append _ _ _
    | with_reducible exact calm_typeStr _
    | with_reducible exact calm_part _ _ _
    | with_reducible exact calm_viewAt _
    | with_reducible exact calm_numberAt _
    | with_reducible exact calm_asNumber _ _
    | with_reducible exact calm_behindNumber _
    | with_reducible exact calm_noView _
    | with_reducible exact calm_stringish _
    | with_reducible exact calm_mayBeOne _ _
    | with_reducible exact calm_sameAddr _ _
    | with_reducible exact calm_samePointer _ _
    | with_reducible exact calm_byteOf _
    | with_reducible exact calm_twoPlaces _ _
    | with_reducible exact calm_addrSub _ _ _
    | with_reducible exact calm_addrCmp _ _ _
    | with_reducible exact calm_addrMod _ _ _
    | with_reducible exact calm_unsafeAdd _ _ _
    | with_reducible exact calm_movedNumber _ _ _
    | with_reducible exact calm_movedPointer _ _ _
    | with_reducible exact calm_intArith _ _ _ _
    | with_reducible exact calm_intDiv _ _ _ _
    | with_reducible exact calm_intBits _ _ _ _
    | with_reducible exact calm_intCmp _ _ _
    | with_reducible exact calm_shift _ _ _ _ _
    | with_reducible exact calm_floatArith _ _ _ _
    | with_reducible exact calm_floatCmp _ _ _ _
    | ((with_reducible refine calm_unsupported _ ?_); intro _ h; cases h)
    | ((with_reducible refine calm_newObj _ ?_); intro _ _ h; cases h)
    | with_reducible exact calm_map _ _ (calm_choose _)
    | with_reducible refine calm_map _ _ ?_
    | with_reducible refine calm_forIn_arr _ _ (fun _ _ => ?_) _
    | with_reducible refine calm_forIn_range _ _ (fun _ _ => ?_) _
    | with_reducible refine calm_getObj_bind _ _ (fun _ => ?_)
    | with_reducible refine calm_mbind _ _ ?_ (fun _ => ?_)
    | with_reducible refine calm_ite _ _ _ (fun _ => ?_) (fun _ => ?_)
    | split
    | dsimp only)
theorem calm_carith (o : BinOp) (k : FloatKind) (x y : Nat) : Calm P (Op.Complex.arith o k x y) := by
  unfold Op.Complex.arith
  repeat' (first
    | with_reducible exact calm_pure _
    | with_reducible exact calm_stuck _
    | with_reducible exact calm_goPanic _
    | with_reducible exact calm_load _ _
    | with_reducible exact calm_store _ _ _
    | with_reducible exact calm_shape _
    | with_reducible exact calm_frozen _
    | with_reducible exact calm_choose _
    | with_reducible exact calm_program
    | with_reducible exact calm_room
    | with_reducible exact calm_askRoom _
    | with_reducible exact calm_typeInfo _
    | with_reducible exact calm_underlying _
    | with_reducible exact calm_zeroValue _
    | with_reducible exact calm_sizeOf _
    | with_reducible exact calm_isAgg _
    | with_reducible exact calm_loadCellsFrom _ _ _
    | with_reducible exact calm_loadCells _ _
    | with_reducible exact calm_storeCells _ _ _
    | with_reducible exact calm_loadVar _ _
    | with_reducible exact calm_storeVar _ _ _
    | with_reducible exact calm_newRow _ _
    | with_reducible exact calm_newVar _ _
    | with_reducible exact calm_elemOf _
    | with_reducible exact calm_runtimePanic _
    | with_reducible exact calm_boundsPanic _ _ _ _
    | with_reducible exact calm_asIntOf _
    | with_reducible exact calm_asInt _
    | with_reducible exact calm_asBool _
    | with_reducible exact calm_asAddr _
    | with_reducible exact calm_sureAddr _
    | with_reducible exact calm_loadAt _ _
    | with_reducible exact calm_storeAt _ _ _
    | with_reducible exact calm_lenOf _
    | with_reducible exact calm_firstCells _ _ _
    | with_reducible exact calm_holdsCells _ _
    | with_reducible exact calm_mayShare _ _ _ _ _
    | with_reducible exact calm_len _ _ _
    | with_reducible exact calm_indexAt _ _ _
    | with_reducible exact calm_buildSlice _ _ _
    | with_reducible exact calm_makeSlice _ _ _
    | with_reducible exact calm_append _ _ _
    | with_reducible exact calm_typeStr _
    | with_reducible exact calm_part _ _ _
    | with_reducible exact calm_viewAt _
    | with_reducible exact calm_numberAt _
    | with_reducible exact calm_asNumber _ _
    | with_reducible exact calm_behindNumber _
    | with_reducible exact calm_noView _
    | with_reducible exact calm_stringish _
    | with_reducible exact calm_mayBeOne _ _
    | with_reducible exact calm_sameAddr _ _
    | with_reducible exact calm_samePointer _ _
    | with_reducible exact calm_byteOf _
    | with_reducible exact calm_twoPlaces _ _
    | with_reducible exact calm_addrSub _ _ _
    | with_reducible exact calm_addrCmp _ _ _
    | with_reducible exact calm_addrMod _ _ _
    | with_reducible exact calm_unsafeAdd _ _ _
    | with_reducible exact calm_movedNumber _ _ _
    | with_reducible exact calm_movedPointer _ _ _
    | with_reducible exact calm_intArith _ _ _ _
    | with_reducible exact calm_intDiv _ _ _ _
    | with_reducible exact calm_intBits _ _ _ _
    | with_reducible exact calm_intCmp _ _ _
    | with_reducible exact calm_shift _ _ _ _ _
    | with_reducible exact calm_floatArith _ _ _ _
    | with_reducible exact calm_floatCmp _ _ _ _
    | with_reducible exact calm_floatToFloat _ _ _
    | ((with_reducible refine calm_unsupported _ ?_); intro _ h; cases h)
    | ((with_reducible refine calm_newObj _ ?_); intro _ _ h; cases h)
    | with_reducible exact calm_map _ _ (calm_choose _)
    | with_reducible refine calm_map _ _ ?_
    | with_reducible refine calm_forIn_arr _ _ (fun _ _ => ?_) _
    | with_reducible refine calm_forIn_range _ _ (fun _ _ => ?_) _
    | with_reducible refine calm_getObj_bind _ _ (fun _ => ?_)
    | with_reducible refine calm_mbind _ _ ?_ (fun _ => ?_)
    | with_reducible refine calm_ite _ _ _ (fun _ => ?_) (fun _ => ?_)
    | split
    | dsimp only)
theorem calm_ccmp (o : BinOp) (k : FloatKind) (x y : Nat) : Calm P (Op.Complex.cmp o k x y) := by
  unfold Op.Complex.cmp
  repeat' (first
    | with_reducible exact calm_pure _
    | with_reducible exact calm_stuck _
    | with_reducible exact calm_goPanic _
    | with_reducible exact calm_load _ _
    | with_reducible exact calm_store _ _ _
    | with_reducible exact calm_shape _
    | with_reducible exact calm_frozen _
    | with_reducible exact calm_choose _
    | with_reducible exact calm_program
    | with_reducible exact calm_room
    | with_reducible exact calm_askRoom _
    | with_reducible exact calm_typeInfo _
    | with_reducible exact calm_underlying _
    | with_reducible exact calm_zeroValue _
    | with_reducible exact calm_sizeOf _
    | with_reducible exact calm_isAgg _
    | with_reducible exact calm_loadCellsFrom _ _ _
    | with_reducible exact calm_loadCells _ _
    | with_reducible exact calm_storeCells _ _ _
    | with_reducible exact calm_loadVar _ _
    | with_reducible exact calm_storeVar _ _ _
    | with_reducible exact calm_newRow _ _
    | with_reducible exact calm_newVar _ _
    | with_reducible exact calm_elemOf _
    | with_reducible exact calm_runtimePanic _
    | with_reducible exact calm_boundsPanic _ _ _ _
    | with_reducible exact calm_asIntOf _
    | with_reducible exact calm_asInt _
    | with_reducible exact calm_asBool _
    | with_reducible exact calm_asAddr _
    | with_reducible exact calm_sureAddr _
    | with_reducible exact calm_loadAt _ _
    | with_reducible exact calm_storeAt _ _ _
    | with_reducible exact calm_lenOf _
    | with_reducible exact calm_firstCells _ _ _
    | with_reducible exact calm_holdsCells _ _
    | with_reducible exact calm_mayShare _ _ _ _ _
    | with_reducible exact calm_len _ _ _
    | with_reducible exact calm_indexAt _ _ _
    | with_reducible exact calm_buildSlice _ _ _
    | with_reducible exact calm_makeSlice _ _ _
    | with_reducible exact calm_append _ _ _
    | with_reducible exact calm_typeStr _
    | with_reducible exact calm_part _ _ _
    | with_reducible exact calm_viewAt _
    | with_reducible exact calm_numberAt _
    | with_reducible exact calm_asNumber _ _
    | with_reducible exact calm_behindNumber _
    | with_reducible exact calm_noView _
    | with_reducible exact calm_stringish _
    | with_reducible exact calm_mayBeOne _ _
    | with_reducible exact calm_sameAddr _ _
    | with_reducible exact calm_samePointer _ _
    | with_reducible exact calm_byteOf _
    | with_reducible exact calm_twoPlaces _ _
    | with_reducible exact calm_addrSub _ _ _
    | with_reducible exact calm_addrCmp _ _ _
    | with_reducible exact calm_addrMod _ _ _
    | with_reducible exact calm_unsafeAdd _ _ _
    | with_reducible exact calm_movedNumber _ _ _
    | with_reducible exact calm_movedPointer _ _ _
    | with_reducible exact calm_intArith _ _ _ _
    | with_reducible exact calm_intDiv _ _ _ _
    | with_reducible exact calm_intBits _ _ _ _
    | with_reducible exact calm_intCmp _ _ _
    | with_reducible exact calm_shift _ _ _ _ _
    | with_reducible exact calm_floatArith _ _ _ _
    | with_reducible exact calm_floatCmp _ _ _ _
    | with_reducible exact calm_floatToFloat _ _ _
    | with_reducible exact calm_carith _ _ _ _
    | ((with_reducible refine calm_unsupported _ ?_); intro _ h; cases h)
    | ((with_reducible refine calm_newObj _ ?_); intro _ _ h; cases h)
    | with_reducible exact calm_map _ _ (calm_choose _)
    | with_reducible refine calm_map _ _ ?_
    | with_reducible refine calm_forIn_arr _ _ (fun _ _ => ?_) _
    | with_reducible refine calm_forIn_range _ _ (fun _ _ => ?_) _
    | with_reducible refine calm_getObj_bind _ _ (fun _ => ?_)
    | with_reducible refine calm_mbind _ _ ?_ (fun _ => ?_)
    | with_reducible refine calm_ite _ _ _ (fun _ => ?_) (fun _ => ?_)
    | split
    | dsimp only)
theorem calm_cconv (k : FloatKind) (x : Nat) (l : FloatKind) : Calm P (Op.Complex.conv k x l) := by
  unfold Op.Complex.conv
  repeat' (first
    | with_reducible exact calm_pure _
    | with_reducible exact calm_stuck _
    | with_reducible exact calm_goPanic _
    | with_reducible exact calm_load _ _
    | with_reducible exact calm_store _ _ _
    | with_reducible exact calm_shape _
    | with_reducible exact calm_frozen _
    | with_reducible exact calm_choose _
    | with_reducible exact calm_program
    | with_reducible exact calm_room
    | with_reducible exact calm_askRoom _
    | with_reducible exact calm_typeInfo _
    | with_reducible exact calm_underlying _
    | with_reducible exact calm_zeroValue _
    | with_reducible exact calm_sizeOf _
    | with_reducible exact calm_isAgg _
    | with_reducible exact calm_loadCellsFrom _ _ _
    | with_reducible exact calm_loadCells _ _
    | with_reducible exact calm_storeCells _ _ _
    | with_reducible exact calm_loadVar _ _
    | with_reducible exact calm_storeVar _ _ _
    | with_reducible exact calm_newRow _ _
    | with_reducible exact calm_newVar _ _
    | with_reducible exact calm_elemOf _
    | with_reducible exact calm_runtimePanic _
    | with_reducible exact calm_boundsPanic _ _ _ _
    | with_reducible exact calm_asIntOf _
    | with_reducible exact calm_asInt _
    | with_reducible exact calm_asBool _
    | with_reducible exact calm_asAddr _
    | with_reducible exact calm_sureAddr _
    | with_reducible exact calm_loadAt _ _
    | with_reducible exact calm_storeAt _ _ _
    | with_reducible exact calm_lenOf _
    | with_reducible exact calm_firstCells _ _ _
    | with_reducible exact calm_holdsCells _ _
    | with_reducible exact calm_mayShare _ _ _ _ _
    | with_reducible exact calm_len _ _ _
    | with_reducible exact calm_indexAt _ _ _
    | with_reducible exact calm_buildSlice _ _ _
    | with_reducible exact calm_makeSlice _ _ _
    | with_reducible exact calm_append _ _ _
    | with_reducible exact calm_typeStr _
    | with_reducible exact calm_part _ _ _
    | with_reducible exact calm_viewAt _
    | with_reducible exact calm_numberAt _
    | with_reducible exact calm_asNumber _ _
    | with_reducible exact calm_behindNumber _
    | with_reducible exact calm_noView _
    | with_reducible exact calm_stringish _
    | with_reducible exact calm_mayBeOne _ _
    | with_reducible exact calm_sameAddr _ _
    | with_reducible exact calm_samePointer _ _
    | with_reducible exact calm_byteOf _
    | with_reducible exact calm_twoPlaces _ _
    | with_reducible exact calm_addrSub _ _ _
    | with_reducible exact calm_addrCmp _ _ _
    | with_reducible exact calm_addrMod _ _ _
    | with_reducible exact calm_unsafeAdd _ _ _
    | with_reducible exact calm_movedNumber _ _ _
    | with_reducible exact calm_movedPointer _ _ _
    | with_reducible exact calm_intArith _ _ _ _
    | with_reducible exact calm_intDiv _ _ _ _
    | with_reducible exact calm_intBits _ _ _ _
    | with_reducible exact calm_intCmp _ _ _
    | with_reducible exact calm_shift _ _ _ _ _
    | with_reducible exact calm_floatArith _ _ _ _
    | with_reducible exact calm_floatCmp _ _ _ _
    | with_reducible exact calm_floatToFloat _ _ _
    | with_reducible exact calm_carith _ _ _ _
    | with_reducible exact calm_ccmp _ _ _ _
    | ((with_reducible refine calm_unsupported _ ?_); intro _ h; cases h)
    | ((with_reducible refine calm_newObj _ ?_); intro _ _ h; cases h)
    | with_reducible exact calm_map _ _ (calm_choose _)
    | with_reducible refine calm_map _ _ ?_
    | with_reducible refine calm_forIn_arr _ _ (fun _ _ => ?_) _
    | with_reducible refine calm_forIn_range _ _ (fun _ _ => ?_) _
    | with_reducible refine calm_getObj_bind _ _ (fun _ => ?_)
    | with_reducible refine calm_mbind _ _ ?_ (fun _ => ?_)
    | with_reducible refine calm_ite _ _ _ (fun _ => ?_) (fun _ => ?_)
    | split
    | dsimp only)
theorem calm_cproduct (a b c d : Nat) : Calm P (Op.Complex.product a b c d) := by
  unfold Op.Complex.product Op.Complex.sub Op.Complex.add Op.Complex.mul
  repeat' (first
    | with_reducible exact calm_pure _
    | with_reducible exact calm_stuck _
    | with_reducible exact calm_goPanic _
    | with_reducible exact calm_load _ _
    | with_reducible exact calm_store _ _ _
    | with_reducible exact calm_shape _
    | with_reducible exact calm_frozen _
    | with_reducible exact calm_choose _
    | with_reducible exact calm_program
    | with_reducible exact calm_room
    | with_reducible exact calm_askRoom _
    | with_reducible exact calm_typeInfo _
    | with_reducible exact calm_underlying _
    | with_reducible exact calm_zeroValue _
    | with_reducible exact calm_sizeOf _
    | with_reducible exact calm_isAgg _
    | with_reducible exact calm_loadCellsFrom _ _ _
    | with_reducible exact calm_loadCells _ _
    | with_reducible exact calm_storeCells _ _ _
    | with_reducible exact calm_loadVar _ _
    | with_reducible exact calm_storeVar _ _ _
    | with_reducible exact calm_newRow _ _
    | with_reducible exact calm_newVar _ _
    | with_reducible exact calm_elemOf _
    | with_reducible exact calm_runtimePanic _
    | with_reducible exact calm_boundsPanic _ _ _ _
    | with_reducible exact calm_asIntOf _
    | with_reducible exact calm_asInt _
    | with_reducible exact calm_asBool _
    | with_reducible exact calm_asAddr _
    | with_reducible exact calm_sureAddr _
    | with_reducible exact calm_loadAt _ _
    | with_reducible exact calm_storeAt _ _ _
    | with_reducible exact calm_lenOf _
    | with_reducible exact calm_firstCells _ _ _
    | with_reducible exact calm_holdsCells _ _
    | with_reducible exact calm_mayShare _ _ _ _ _
    | with_reducible exact calm_len _ _ _
    | with_reducible exact calm_indexAt _ _ _
    | with_reducible exact calm_buildSlice _ _ _
    | with_reducible exact calm_makeSlice _ _ _
    | with_reducible exact calm_append _ _ _
    | with_reducible exact calm_typeStr _
    | with_reducible exact calm_part _ _ _
    | with_reducible exact calm_viewAt _
    | with_reducible exact calm_numberAt _
    | with_reducible exact calm_asNumber _ _
    | with_reducible exact calm_behindNumber _
    | with_reducible exact calm_noView _
    | with_reducible exact calm_stringish _
    | with_reducible exact calm_mayBeOne _ _
    | with_reducible exact calm_sameAddr _ _
    | with_reducible exact calm_samePointer _ _
    | with_reducible exact calm_byteOf _
    | with_reducible exact calm_twoPlaces _ _
    | with_reducible exact calm_addrSub _ _ _
    | with_reducible exact calm_addrCmp _ _ _
    | with_reducible exact calm_addrMod _ _ _
    | with_reducible exact calm_unsafeAdd _ _ _
    | with_reducible exact calm_movedNumber _ _ _
    | with_reducible exact calm_movedPointer _ _ _
    | with_reducible exact calm_intArith _ _ _ _
    | with_reducible exact calm_intDiv _ _ _ _
    | with_reducible exact calm_intBits _ _ _ _
    | with_reducible exact calm_intCmp _ _ _
    | with_reducible exact calm_shift _ _ _ _ _
    | with_reducible exact calm_floatArith _ _ _ _
    | with_reducible exact calm_floatCmp _ _ _ _
    | with_reducible exact calm_floatToFloat _ _ _
    | with_reducible exact calm_carith _ _ _ _
    | with_reducible exact calm_ccmp _ _ _ _
    | with_reducible exact calm_cconv _ _ _
    | ((with_reducible refine calm_unsupported _ ?_); intro _ h; cases h)
    | ((with_reducible refine calm_newObj _ ?_); intro _ _ h; cases h)
    | with_reducible exact calm_map _ _ (calm_choose _)
    | with_reducible refine calm_map _ _ ?_
    | with_reducible refine calm_forIn_arr _ _ (fun _ _ => ?_) _
    | with_reducible refine calm_forIn_range _ _ (fun _ _ => ?_) _
    | with_reducible refine calm_getObj_bind _ _ (fun _ => ?_)
    | with_reducible refine calm_mbind _ _ ?_ (fun _ => ?_)
    | with_reducible refine calm_ite _ _ _ (fun _ => ?_) (fun _ => ?_)
    | split
    | dsimp only)
theorem calm_ccorrected (s a b c d : Nat) : Calm P (Op.Complex.corrected s a b c d) := by
  unfold Op.Complex.corrected Op.Complex.sub Op.Complex.add Op.Complex.mul
  repeat' (first
    | with_reducible exact calm_pure _
    | with_reducible exact calm_stuck _
    | with_reducible exact calm_goPanic _
    | with_reducible exact calm_load _ _
    | with_reducible exact calm_store _ _ _
    | with_reducible exact calm_shape _
    | with_reducible exact calm_frozen _
    | with_reducible exact calm_choose _
    | with_reducible exact calm_program
    | with_reducible exact calm_room
    | with_reducible exact calm_askRoom _
    | with_reducible exact calm_typeInfo _
    | with_reducible exact calm_underlying _
    | with_reducible exact calm_zeroValue _
    | with_reducible exact calm_sizeOf _
    | with_reducible exact calm_isAgg _
    | with_reducible exact calm_loadCellsFrom _ _ _
    | with_reducible exact calm_loadCells _ _
    | with_reducible exact calm_storeCells _ _ _
    | with_reducible exact calm_loadVar _ _
    | with_reducible exact calm_storeVar _ _ _
    | with_reducible exact calm_newRow _ _
    | with_reducible exact calm_newVar _ _
    | with_reducible exact calm_elemOf _
    | with_reducible exact calm_runtimePanic _
    | with_reducible exact calm_boundsPanic _ _ _ _
    | with_reducible exact calm_asIntOf _
    | with_reducible exact calm_asInt _
    | with_reducible exact calm_asBool _
    | with_reducible exact calm_asAddr _
    | with_reducible exact calm_sureAddr _
    | with_reducible exact calm_loadAt _ _
    | with_reducible exact calm_storeAt _ _ _
    | with_reducible exact calm_lenOf _
    | with_reducible exact calm_firstCells _ _ _
    | with_reducible exact calm_holdsCells _ _
    | with_reducible exact calm_mayShare _ _ _ _ _
    | with_reducible exact calm_len _ _ _
    | with_reducible exact calm_indexAt _ _ _
    | with_reducible exact calm_buildSlice _ _ _
    | with_reducible exact calm_makeSlice _ _ _
    | with_reducible exact calm_append _ _ _
    | with_reducible exact calm_typeStr _
    | with_reducible exact calm_part _ _ _
    | with_reducible exact calm_viewAt _
    | with_reducible exact calm_numberAt _
    | with_reducible exact calm_asNumber _ _
    | with_reducible exact calm_behindNumber _
    | with_reducible exact calm_noView _
    | with_reducible exact calm_stringish _
    | with_reducible exact calm_mayBeOne _ _
    | with_reducible exact calm_sameAddr _ _
    | with_reducible exact calm_samePointer _ _
    | with_reducible exact calm_byteOf _
    | with_reducible exact calm_twoPlaces _ _
    | with_reducible exact calm_addrSub _ _ _
    | with_reducible exact calm_addrCmp _ _ _
    | with_reducible exact calm_addrMod _ _ _
    | with_reducible exact calm_unsafeAdd _ _ _
    | with_reducible exact calm_movedNumber _ _ _
    | with_reducible exact calm_movedPointer _ _ _
    | with_reducible exact calm_intArith _ _ _ _
    | with_reducible exact calm_intDiv _ _ _ _
    | with_reducible exact calm_intBits _ _ _ _
    | with_reducible exact calm_intCmp _ _ _
    | with_reducible exact calm_shift _ _ _ _ _
    | with_reducible exact calm_floatArith _ _ _ _
    | with_reducible exact calm_floatCmp _ _ _ _
    | with_reducible exact calm_floatToFloat _ _ _
    | with_reducible exact calm_carith _ _ _ _
    | with_reducible exact calm_ccmp _ _ _ _
    | with_reducible exact calm_cconv _ _ _
    | with_reducible exact calm_cproduct _ _ _ _
    | ((with_reducible refine calm_unsupported _ ?_); intro _ h; cases h)
    | ((with_reducible refine calm_newObj _ ?_); intro _ _ h; cases h)
    | with_reducible exact calm_map _ _ (calm_choose _)
    | with_reducible refine calm_map _ _ ?_
    | with_reducible refine calm_forIn_arr _ _ (fun _ _ => ?_) _
    | with_reducible refine calm_forIn_range _ _ (fun _ _ => ?_) _
    | with_reducible refine calm_getObj_bind _ _ (fun _ => ?_)
    | with_reducible refine calm_mbind _ _ ?_ (fun _ => ?_)
    | with_reducible refine calm_ite _ _ _ (fun _ => ?_) (fun _ => ?_)
    | split
    | dsimp only)
theorem calm_cquotient (a b c d : Nat) : Calm P (Op.Complex.quotient a b c d) := by
  unfold Op.Complex.quotient Op.Complex.sub Op.Complex.add Op.Complex.mul Op.Complex.quo
  repeat' (first
    | with_reducible exact calm_pure _
    | with_reducible exact calm_stuck _
    | with_reducible exact calm_goPanic _
    | with_reducible exact calm_load _ _
    | with_reducible exact calm_store _ _ _
    | with_reducible exact calm_shape _
    | with_reducible exact calm_frozen _
    | with_reducible exact calm_choose _
    | with_reducible exact calm_program
    | with_reducible exact calm_room
    | with_reducible exact calm_askRoom _
    | with_reducible exact calm_typeInfo _
    | with_reducible exact calm_underlying _
    | with_reducible exact calm_zeroValue _
    | with_reducible exact calm_sizeOf _
    | with_reducible exact calm_isAgg _
    | with_reducible exact calm_loadCellsFrom _ _ _
    | with_reducible exact calm_loadCells _ _
    | with_reducible exact calm_storeCells _ _ _
    | with_reducible exact calm_loadVar _ _
    | with_reducible exact calm_storeVar _ _ _
    | with_reducible exact calm_newRow _ _
    | with_reducible exact calm_newVar _ _
    | with_reducible exact calm_elemOf _
    | with_reducible exact calm_runtimePanic _
    | with_reducible exact calm_boundsPanic _ _ _ _
    | with_reducible exact calm_asIntOf _
    | with_reducible exact calm_asInt _
    | with_reducible exact calm_asBool _
    | with_reducible exact calm_asAddr _
    | with_reducible exact calm_sureAddr _
    | with_reducible exact calm_loadAt _ _
    | with_reducible exact calm_storeAt _ _ _
    | with_reducible exact calm_lenOf _
    | with_reducible exact calm_firstCells _ _ _
    | with_reducible exact calm_holdsCells _ _
    | with_reducible exact calm_mayShare _ _ _ _ _
    | with_reducible exact calm_len _ _ _
    | with_reducible exact calm_indexAt _ _ _
    | with_reducible exact calm_buildSlice _ _ _
    | with_reducible exact calm_makeSlice _ _ _
    | with_reducible exact calm_append _ _ _
    | with_reducible exact calm_typeStr _
    | with_reducible exact calm_part _ _ _
    | with_reducible exact calm_viewAt _
    | with_reducible exact calm_numberAt _
    | with_reducible exact calm_asNumber _ _
    | with_reducible exact calm_behindNumber _
    | with_reducible exact calm_noView _
    | with_reducible exact calm_stringish _
    | with_reducible exact calm_mayBeOne _ _
    | with_reducible exact calm_sameAddr _ _
    | with_reducible exact calm_samePointer _ _
    | with_reducible exact calm_byteOf _
    | with_reducible exact calm_twoPlaces _ _
    | with_reducible exact calm_addrSub _ _ _
    | with_reducible exact calm_addrCmp _ _ _
    | with_reducible exact calm_addrMod _ _ _
    | with_reducible exact calm_unsafeAdd _ _ _
    | with_reducible exact calm_movedNumber _ _ _
    | with_reducible exact calm_movedPointer _ _ _
    | with_reducible exact calm_intArith _ _ _ _
    | with_reducible exact calm_intDiv _ _ _ _
    | with_reducible exact calm_intBits _ _ _ _
    | with_reducible exact calm_intCmp _ _ _
    | with_reducible exact calm_shift _ _ _ _ _
    | with_reducible exact calm_floatArith _ _ _ _
    | with_reducible exact calm_floatCmp _ _ _ _
    | with_reducible exact calm_floatToFloat _ _ _
    | with_reducible exact calm_carith _ _ _ _
    | with_reducible exact calm_ccmp _ _ _ _
    | with_reducible exact calm_cconv _ _ _
    | with_reducible exact calm_cproduct _ _ _ _
    | with_reducible exact calm_ccorrected _ _ _ _ _
    | ((with_reducible refine calm_unsupported _ ?_); intro _ h; cases h)
    | ((with_reducible refine calm_newObj _ ?_); intro _ _ h; cases h)
    | with_reducible exact calm_map _ _ (calm_choose _)
    | with_reducible refine calm_map _ _ ?_
    | with_reducible refine calm_forIn_arr _ _ (fun _ _ => ?_) _
    | with_reducible refine calm_forIn_range _ _ (fun _ _ => ?_) _
    | with_reducible refine calm_getObj_bind _ _ (fun _ => ?_)
    | with_reducible refine calm_mbind _ _ ?_ (fun _ => ?_)
    | with_reducible refine calm_ite _ _ _ (fun _ => ?_) (fun _ => ?_)
    | split
    | dsimp only)
theorem calm_complexOp (o : BinOp) (k : FloatKind) (a b c d : Nat) : Calm P (Op.complexOp o k a b c d) := by
  unfold Op.complexOp
  repeat' (first
    | with_reducible exact calm_pure _
    | with_reducible exact calm_stuck _
    | with_reducible exact calm_goPanic _
    | with_reducible exact calm_load _ _
    | with_reducible exact calm_store _ _ _
    | with_reducible exact calm_shape _
    | with_reducible exact calm_frozen _
    | with_reducible exact calm_choose _
    | with_reducible exact calm_program
    | with_reducible exact calm_room
    | with_reducible exact calm_askRoom _
    | with_reducible exact calm_typeInfo _
    | with_reducible exact calm_underlying _
    | with_reducible exact calm_zeroValue _
    | with_reducible exact calm_sizeOf _
    | with_reducible exact calm_isAgg _
    | with_reducible exact calm_loadCellsFrom _ _ _
    | with_reducible exact calm_loadCells _ _
    | with_reducible exact calm_storeCells _ _ _
    | with_reducible exact calm_loadVar _ _
    | with_reducible exact calm_storeVar _ _ _
    | with_reducible exact calm_newRow _ _
    | with_reducible exact calm_newVar _ _
    | with_reducible exact calm_elemOf _
    | with_reducible exact calm_runtimePanic _
    | with_reducible exact calm_boundsPanic _ _ _ _
    | with_reducible exact calm_asIntOf _
    | with_reducible exact calm_asInt _
    | with_reducible exact calm_asBool _
    | with_reducible exact calm_asAddr _
    | with_reducible exact calm_sureAddr _
    | with_reducible exact calm_loadAt _ _
    | with_reducible exact calm_storeAt _ _ _
    | with_reducible exact calm_lenOf _
    | with_reducible exact calm_firstCells _ _ _
    | with_reducible exact calm_holdsCells _ _
    | with_reducible exact calm_mayShare _ _ _ _ _
    | with_reducible exact calm_len _ _ _
    | with_reducible exact calm_indexAt _ _ _
    | with_reducible exact calm_buildSlice _ _ _
    | with_reducible exact calm_makeSlice _ _ _
    | with_reducible exact calm_append _ _ _
    | with_reducible exact calm_typeStr _
    | with_reducible exact calm_part _ _ _
    | with_reducible exact calm_viewAt _
    | with_reducible exact calm_numberAt _
    | with_reducible exact calm_asNumber _ _
    | with_reducible exact calm_behindNumber _
    | with_reducible exact calm_noView _
    | with_reducible exact calm_stringish _
    | with_reducible exact calm_mayBeOne _ _
    | with_reducible exact calm_sameAddr _ _
    | with_reducible exact calm_samePointer _ _
    | with_reducible exact calm_byteOf _
    | with_reducible exact calm_twoPlaces _ _
    | with_reducible exact calm_addrSub _ _ _
    | with_reducible exact calm_addrCmp _ _ _
    | with_reducible exact calm_addrMod _ _ _
    | with_reducible exact calm_unsafeAdd _ _ _
    | with_reducible exact calm_movedNumber _ _ _
    | with_reducible exact calm_movedPointer _ _ _
    | with_reducible exact calm_intArith _ _ _ _
    | with_reducible exact calm_intDiv _ _ _ _
    | with_reducible exact calm_intBits _ _ _ _
    | with_reducible exact calm_intCmp _ _ _
    | with_reducible exact calm_shift _ _ _ _ _
    | with_reducible exact calm_floatArith _ _ _ _
    | with_reducible exact calm_floatCmp _ _ _ _
    | with_reducible exact calm_floatToFloat _ _ _
    | with_reducible exact calm_carith _ _ _ _
    | with_reducible exact calm_ccmp _ _ _ _
    | with_reducible exact calm_cconv _ _ _
    | with_reducible exact calm_cproduct _ _ _ _
    | with_reducible exact calm_ccorrected _ _ _ _ _
    | with_reducible exact calm_cquotient _ _ _ _
    | ((with_reducible refine calm_unsupported _ ?_); intro _ h; cases h)
    | ((with_reducible refine calm_newObj _ ?_); intro _ _ h; cases h)
    | with_reducible exact calm_map _ _ (calm_choose _)
    | with_reducible refine calm_map _ _ ?_
    | with_reducible refine calm_forIn_arr _ _ (fun _ _ => ?_) _
    | with_reducible refine calm_forIn_range _ _ (fun _ _ => ?_) _
    | with_reducible refine calm_getObj_bind _ _ (fun _ => ?_)
    | with_reducible refine calm_mbind _ _ ?_ (fun _ => ?_)
    | with_reducible refine calm_ite _ _ _ (fun _ => ?_) (fun _ => ?_)
    | split
    | dsimp only)
theorem calm_stringOp (o : BinOp) (x y : ByteArray) : Calm P (Op.stringOp o x y) := by
  unfold Op.stringOp
  repeat' (first
    | with_reducible exact calm_pure _
    | with_reducible exact calm_stuck _
    | with_reducible exact calm_goPanic _
    | with_reducible exact calm_load _ _
    | with_reducible exact calm_store _ _ _
    | with_reducible exact calm_shape _
    | with_reducible exact calm_frozen _
    | with_reducible exact calm_choose _
    | with_reducible exact calm_program
    | with_reducible exact calm_room
    | with_reducible exact calm_askRoom _
    | with_reducible exact calm_typeInfo _
    | with_reducible exact calm_underlying _
    | with_reducible exact calm_zeroValue _
    | with_reducible exact calm_sizeOf _
    | with_reducible exact calm_isAgg _
    | with_reducible exact calm_loadCellsFrom _ _ _
    | with_reducible exact calm_loadCells _ _
    | with_reducible exact calm_storeCells _ _ _
    | with_reducible exact calm_loadVar _ _
    | with_reducible exact calm_storeVar _ _ _
    | with_reducible exact calm_newRow _ _
    | with_reducible exact calm_newVar _ _
    | with_reducible exact calm_elemOf _
    | with_reducible exact calm_runtimePanic _
    | with_reducible exact calm_boundsPanic _ _ _ _
    | with_reducible exact calm_asIntOf _
    | with_reducible exact calm_asInt _
    | with_reducible exact calm_asBool _
    | with_reducible exact calm_asAddr _
    | with_reducible exact calm_sureAddr _
    | with_reducible exact calm_loadAt _ _
    | with_reducible exact calm_storeAt _ _ _
    | with_reducible exact calm_lenOf _
    | with_reducible exact calm_firstCells _ _ _
    | with_reducible exact calm_holdsCells _ _
    | with_reducible exact calm_mayShare _ _ _ _ _
    | with_reducible exact calm_len _ _ _
    | with_reducible exact calm_indexAt _ _ _
    | with_reducible exact calm_buildSlice _ _ _
    | with_reducible exact calm_makeSlice _ _ _
    | with_reducible exact calm_append _ _ _
    | with_reducible exact calm_typeStr _
    | with_reducible exact calm_part _ _ _
    | with_reducible exact calm_viewAt _
    | with_reducible exact calm_numberAt _
    | with_reducible exact calm_asNumber _ _
    | with_reducible exact calm_behindNumber _
    | with_reducible exact calm_noView _
    | with_reducible exact calm_stringish _
    | with_reducible exact calm_mayBeOne _ _
    | with_reducible exact calm_sameAddr _ _
    | with_reducible exact calm_samePointer _ _
    | with_reducible exact calm_byteOf _
    | with_reducible exact calm_twoPlaces _ _
    | with_reducible exact calm_addrSub _ _ _
    | with_reducible exact calm_addrCmp _ _ _
    | with_reducible exact calm_addrMod _ _ _
    | with_reducible exact calm_unsafeAdd _ _ _
    | with_reducible exact calm_movedNumber _ _ _
    | with_reducible exact calm_movedPointer _ _ _
    | with_reducible exact calm_intArith _ _ _ _
    | with_reducible exact calm_intDiv _ _ _ _
    | with_reducible exact calm_intBits _ _ _ _
    | with_reducible exact calm_intCmp _ _ _
    | with_reducible exact calm_shift _ _ _ _ _
    | with_reducible exact calm_floatArith _ _ _ _
    | with_reducible exact calm_floatCmp _ _ _ _
    | with_reducible exact calm_floatToFloat _ _ _
    | with_reducible exact calm_carith _ _ _ _
    | with_reducible exact calm_ccmp _ _ _ _
    | with_reducible exact calm_cconv _ _ _
    | with_reducible exact calm_cproduct _ _ _ _
    | with_reducible exact calm_ccorrected _ _ _ _ _
    | with_reducible exact calm_cquotient _ _ _ _
    | with_reducible exact calm_complexOp _ _ _ _ _ _
    | ((with_reducible refine calm_unsupported _ ?_); intro _ h; cases h)
    | ((with_reducible refine calm_newObj _ ?_); intro _ _ h; cases h)
    | with_reducible exact calm_map _ _ (calm_choose _)
    | with_reducible refine calm_map _ _ ?_
    | with_reducible refine calm_forIn_arr _ _ (fun _ _ => ?_) _
    | with_reducible refine calm_forIn_range _ _ (fun _ _ => ?_) _
    | with_reducible refine calm_getObj_bind _ _ (fun _ => ?_)
    | with_reducible refine calm_mbind _ _ ?_ (fun _ => ?_)
    | with_reducible refine calm_ite _ _ _ (fun _ => ?_) (fun _ => ?_)
    | split
    | dsimp only)
theorem calm_eqGuardIn : ∀ (d : Nat) (t : TypeId) (x y : Value), Calm P (Op.eqGuardIn d t x y)
  | 0, _, _, _ => (fun _ h => by cases h)
  | d + 1, t, x, y => by
    unfold Op.eqGuardIn
    repeat' (first
      | with_reducible exact calm_eqGuardIn d _ _ _
      | with_reducible exact calm_pure _
      | with_reducible exact calm_stuck _
      | with_reducible exact calm_goPanic _
      | with_reducible exact calm_load _ _
      | with_reducible exact calm_store _ _ _
      | with_reducible exact calm_shape _
      | with_reducible exact calm_frozen _
      | with_reducible exact calm_choose _
      | with_reducible exact calm_program
      | with_reducible exact calm_room
      | with_reducible exact calm_askRoom _
      | with_reducible exact calm_typeInfo _
      | with_reducible exact calm_underlying _
      | with_reducible exact calm_zeroValue _
      | with_reducible exact calm_sizeOf _
      | with_reducible exact calm_isAgg _
      | with_reducible exact calm_loadCellsFrom _ _ _
      | with_reducible exact calm_loadCells _ _
      | with_reducible exact calm_storeCells _ _ _
      | with_reducible exact calm_loadVar _ _
      | with_reducible exact calm_storeVar _ _ _
      | with_reducible exact calm_newRow _ _
      | with_reducible exact calm_newVar _ _
      | with_reducible exact calm_elemOf _
      | with_reducible exact calm_runtimePanic _
      | with_reducible exact calm_boundsPanic _ _ _ _
      | with_reducible exact calm_asIntOf _
      | with_reducible exact calm_asInt _
      | with_reducible exact calm_asBool _
      | with_reducible exact calm_asAddr _
      | with_reducible exact calm_sureAddr _
      | with_reducible exact calm_loadAt _ _
      | with_reducible exact calm_storeAt _ _ _
      | with_reducible exact calm_lenOf _
      | with_reducible exact calm_firstCells _ _ _
      | with_reducible exact calm_holdsCells _ _
      | with_reducible exact calm_mayShare _ _ _ _ _
      | with_reducible exact calm_len _ _ _
      | with_reducible exact calm_indexAt _ _ _
      | with_reducible exact calm_buildSlice _ _ _
      | with_reducible exact calm_makeSlice _ _ _
      | with_reducible exact calm_append _ _ _
      | with_reducible exact calm_typeStr _
      | with_reducible exact calm_part _ _ _
      | with_reducible exact calm_viewAt _
      | with_reducible exact calm_numberAt _
      | with_reducible exact calm_asNumber _ _
      | with_reducible exact calm_behindNumber _
      | with_reducible exact calm_noView _
      | with_reducible exact calm_stringish _
      | with_reducible exact calm_mayBeOne _ _
      | with_reducible exact calm_sameAddr _ _
      | with_reducible exact calm_samePointer _ _
      | with_reducible exact calm_byteOf _
      | with_reducible exact calm_twoPlaces _ _
      | with_reducible exact calm_addrSub _ _ _
      | with_reducible exact calm_addrCmp _ _ _
      | with_reducible exact calm_addrMod _ _ _
      | with_reducible exact calm_unsafeAdd _ _ _
      | with_reducible exact calm_movedNumber _ _ _
      | with_reducible exact calm_movedPointer _ _ _
      | with_reducible exact calm_intArith _ _ _ _
      | with_reducible exact calm_intDiv _ _ _ _
      | with_reducible exact calm_intBits _ _ _ _
      | with_reducible exact calm_intCmp _ _ _
      | with_reducible exact calm_shift _ _ _ _ _
      | with_reducible exact calm_floatArith _ _ _ _
      | with_reducible exact calm_floatCmp _ _ _ _
      | with_reducible exact calm_floatToFloat _ _ _
      | with_reducible exact calm_carith _ _ _ _
      | with_reducible exact calm_ccmp _ _ _ _
      | with_reducible exact calm_cconv _ _ _
      | with_reducible exact calm_cproduct _ _ _ _
      | with_reducible exact calm_ccorrected _ _ _ _ _
      | with_reducible exact calm_cquotient _ _ _ _
      | with_reducible exact calm_complexOp _ _ _ _ _ _
      | with_reducible exact calm_stringOp _ _ _
      | ((with_reducible refine calm_unsupported _ ?_); intro _ h; cases h)
      | ((with_reducible refine calm_newObj _ ?_); intro _ _ h; cases h)
      | with_reducible exact calm_map _ _ (calm_choose _)
      | with_reducible refine calm_map _ _ ?_
      | with_reducible refine calm_forIn_arr _ _ (fun _ _ => ?_) _
      | with_reducible refine calm_forIn_range _ _ (fun _ _ => ?_) _
      | with_reducible refine calm_getObj_bind _ _ (fun _ => ?_)
      | with_reducible refine calm_mbind _ _ ?_ (fun _ => ?_)
      | with_reducible refine calm_ite _ _ _ (fun _ => ?_) (fun _ => ?_)
      | split
      | dsimp only)
theorem calm_equalIn : ∀ (d : Nat) (t : TypeId) (x y : Value), Calm P (Op.equalIn d t x y)
  | 0, _, _, _ => (fun _ h => by cases h)
  | d + 1, t, x, y => by
    unfold Op.equalIn
    repeat' (first
      | with_reducible exact calm_equalIn d _ _ _
      | with_reducible exact calm_pure _
      | with_reducible exact calm_stuck _
      | with_reducible exact calm_goPanic _
      | with_reducible exact calm_load _ _
      | with_reducible exact calm_store _ _ _
      | with_reducible exact calm_shape _
      | with_reducible exact calm_frozen _
      | with_reducible exact calm_choose _
      | with_reducible exact calm_program
      | with_reducible exact calm_room
      | with_reducible exact calm_askRoom _
      | with_reducible exact calm_typeInfo _
      | with_reducible exact calm_underlying _
      | with_reducible exact calm_zeroValue _
      | with_reducible exact calm_sizeOf _
      | with_reducible exact calm_isAgg _
      | with_reducible exact calm_loadCellsFrom _ _ _
      | with_reducible exact calm_loadCells _ _
      | with_reducible exact calm_storeCells _ _ _
      | with_reducible exact calm_loadVar _ _
      | with_reducible exact calm_storeVar _ _ _
      | with_reducible exact calm_newRow _ _
      | with_reducible exact calm_newVar _ _
      | with_reducible exact calm_elemOf _
      | with_reducible exact calm_runtimePanic _
      | with_reducible exact calm_boundsPanic _ _ _ _
      | with_reducible exact calm_asIntOf _
      | with_reducible exact calm_asInt _
      | with_reducible exact calm_asBool _
      | with_reducible exact calm_asAddr _
      | with_reducible exact calm_sureAddr _
      | with_reducible exact calm_loadAt _ _
      | with_reducible exact calm_storeAt _ _ _
      | with_reducible exact calm_lenOf _
      | with_reducible exact calm_firstCells _ _ _
      | with_reducible exact calm_holdsCells _ _
      | with_reducible exact calm_mayShare _ _ _ _ _
      | with_reducible exact calm_len _ _ _
      | with_reducible exact calm_indexAt _ _ _
      | with_reducible exact calm_buildSlice _ _ _
      | with_reducible exact calm_makeSlice _ _ _
      | with_reducible exact calm_append _ _ _
      | with_reducible exact calm_typeStr _
      | with_reducible exact calm_part _ _ _
      | with_reducible exact calm_viewAt _
      | with_reducible exact calm_numberAt _
      | with_reducible exact calm_asNumber _ _
      | with_reducible exact calm_behindNumber _
      | with_reducible exact calm_noView _
      | with_reducible exact calm_stringish _
      | with_reducible exact calm_mayBeOne _ _
      | with_reducible exact calm_sameAddr _ _
      | with_reducible exact calm_samePointer _ _
      | with_reducible exact calm_byteOf _
      | with_reducible exact calm_twoPlaces _ _
      | with_reducible exact calm_addrSub _ _ _
      | with_reducible exact calm_addrCmp _ _ _
      | with_reducible exact calm_addrMod _ _ _
      | with_reducible exact calm_unsafeAdd _ _ _
      | with_reducible exact calm_movedNumber _ _ _
      | with_reducible exact calm_movedPointer _ _ _
      | with_reducible exact calm_intArith _ _ _ _
      | with_reducible exact calm_intDiv _ _ _ _
      | with_reducible exact calm_intBits _ _ _ _
      | with_reducible exact calm_intCmp _ _ _
      | with_reducible exact calm_shift _ _ _ _ _
      | with_reducible exact calm_floatArith _ _ _ _
      | with_reducible exact calm_floatCmp _ _ _ _
      | with_reducible exact calm_floatToFloat _ _ _
      | with_reducible exact calm_carith _ _ _ _
      | with_reducible exact calm_ccmp _ _ _ _
      | with_reducible exact calm_cconv _ _ _
      | with_reducible exact calm_cproduct _ _ _ _
      | with_reducible exact calm_ccorrected _ _ _ _ _
      | with_reducible exact calm_cquotient _ _ _ _
      | with_reducible exact calm_complexOp _ _ _ _ _ _
      | with_reducible exact calm_stringOp _ _ _
      | with_reducible exact calm_eqGuardIn _ _ _ _
      | ((with_reducible refine calm_unsupported _ ?_); intro _ h; cases h)
      | ((with_reducible refine calm_newObj _ ?_); intro _ _ h; cases h)
      | with_reducible exact calm_map _ _ (calm_choose _)
      | with_reducible refine calm_map _ _ ?_
      | with_reducible refine calm_forIn_arr _ _ (fun _ _ => ?_) _
      | with_reducible refine calm_forIn_range _ _ (fun _ _ => ?_) _
      | with_reducible refine calm_getObj_bind _ _ (fun _ => ?_)
      | with_reducible refine calm_mbind _ _ ?_ (fun _ => ?_)
      | with_reducible refine calm_ite _ _ _ (fun _ => ?_) (fun _ => ?_)
      | split
      | dsimp only)
theorem calm_equal (t : TypeId) (x y : Value) : Calm P (Op.equal t x y) := by
  unfold Op.equal
  repeat' (first
    | with_reducible exact calm_pure _
    | with_reducible exact calm_stuck _
    | with_reducible exact calm_goPanic _
    | with_reducible exact calm_load _ _
    | with_reducible exact calm_store _ _ _
    | with_reducible exact calm_shape _
    | with_reducible exact calm_frozen _
    | with_reducible exact calm_choose _
    | with_reducible exact calm_program
    | with_reducible exact calm_room
    | with_reducible exact calm_askRoom _
    | with_reducible exact calm_typeInfo _
    | with_reducible exact calm_underlying _
    | with_reducible exact calm_zeroValue _
    | with_reducible exact calm_sizeOf _
    | with_reducible exact calm_isAgg _
    | with_reducible exact calm_loadCellsFrom _ _ _
    | with_reducible exact calm_loadCells _ _
    | with_reducible exact calm_storeCells _ _ _
    | with_reducible exact calm_loadVar _ _
    | with_reducible exact calm_storeVar _ _ _
    | with_reducible exact calm_newRow _ _
    | with_reducible exact calm_newVar _ _
    | with_reducible exact calm_elemOf _
    | with_reducible exact calm_runtimePanic _
    | with_reducible exact calm_boundsPanic _ _ _ _
    | with_reducible exact calm_asIntOf _
    | with_reducible exact calm_asInt _
    | with_reducible exact calm_asBool _
    | with_reducible exact calm_asAddr _
    | with_reducible exact calm_sureAddr _
    | with_reducible exact calm_loadAt _ _
    | with_reducible exact calm_storeAt _ _ _
    | with_reducible exact calm_lenOf _
    | with_reducible exact calm_firstCells _ _ _
    | with_reducible exact calm_holdsCells _ _
    | with_reducible exact calm_mayShare _ _ _ _ _
    | with_reducible exact calm_len _ _ _
    | with_reducible exact calm_indexAt _ _ _
    | with_reducible exact calm_buildSlice _ _ _
    | with_reducible exact calm_makeSlice _ _ _
    | with_reducible exact calm_append _ _ _
    | with_reducible exact calm_typeStr _
    | with_reducible exact calm_part _ _ _
    | with_reducible exact calm_viewAt _
    | with_reducible exact calm_numberAt _
    | with_reducible exact calm_asNumber _ _
    | with_reducible exact calm_behindNumber _
    | with_reducible exact calm_noView _
    | with_reducible exact calm_stringish _
    | with_reducible exact calm_mayBeOne _ _
    | with_reducible exact calm_sameAddr _ _
    | with_reducible exact calm_samePointer _ _
    | with_reducible exact calm_byteOf _
    | with_reducible exact calm_twoPlaces _ _
    | with_reducible exact calm_addrSub _ _ _
    | with_reducible exact calm_addrCmp _ _ _
    | with_reducible exact calm_addrMod _ _ _
    | with_reducible exact calm_unsafeAdd _ _ _
    | with_reducible exact calm_movedNumber _ _ _
    | with_reducible exact calm_movedPointer _ _ _
    | with_reducible exact calm_intArith _ _ _ _
    | with_reducible exact calm_intDiv _ _ _ _
    | with_reducible exact calm_intBits _ _ _ _
    | with_reducible exact calm_intCmp _ _ _
    | with_reducible exact calm_shift _ _ _ _ _
    | with_reducible exact calm_floatArith _ _ _ _
    | with_reducible exact calm_floatCmp _ _ _ _
    | with_reducible exact calm_floatToFloat _ _ _
    | with_reducible exact calm_carith _ _ _ _
    | with_reducible exact calm_ccmp _ _ _ _
    | with_reducible exact calm_cconv _ _ _
    | with_reducible exact calm_cproduct _ _ _ _
    | with_reducible exact calm_ccorrected _ _ _ _ _
    | with_reducible exact calm_cquotient _ _ _ _
    | with_reducible exact calm_complexOp _ _ _ _ _ _
    | with_reducible exact calm_stringOp _ _ _
    | with_reducible exact calm_eqGuardIn _ _ _ _
    | with_reducible exact calm_equalIn _ _ _ _
    | ((with_reducible refine calm_unsupported _ ?_); intro _ h; cases h)
    | ((with_reducible refine calm_newObj _ ?_); intro _ _ h; cases h)
    | with_reducible exact calm_map _ _ (calm_choose _)
    | with_reducible refine calm_map _ _ ?_
    | with_reducible refine calm_forIn_arr _ _ (fun _ _ => ?_) _
    | with_reducible refine calm_forIn_range _ _ (fun _ _ => ?_) _
    | with_reducible refine calm_getObj_bind _ _ (fun _ => ?_)
    | with_reducible refine calm_mbind _ _ ?_ (fun _ => ?_)
    | with_reducible refine calm_ite _ _ _ (fun _ => ?_) (fun _ => ?_)
    | split
    | dsimp only)
theorem calm_eqGuard (o : BinOp) (t : TypeId) (x y : Operand) (a b : Value) : Calm P (eqGuard o t x y a b) := by
  unfold eqGuard
  repeat' (first
    | with_reducible exact calm_pure _
    | with_reducible exact calm_stuck _
    | with_reducible exact calm_goPanic _
    | with_reducible exact calm_load _ _
    | with_reducible exact calm_store _ _ _
    | with_reducible exact calm_shape _
    | with_reducible exact calm_frozen _
    | with_reducible exact calm_choose _
    | with_reducible exact calm_program
    | with_reducible exact calm_room
    | with_reducible exact calm_askRoom _
    | with_reducible exact calm_typeInfo _
    | with_reducible exact calm_underlying _
    | with_reducible exact calm_zeroValue _
    | with_reducible exact calm_sizeOf _
    | with_reducible exact calm_isAgg _
    | with_reducible exact calm_loadCellsFrom _ _ _
    | with_reducible exact calm_loadCells _ _
    | with_reducible exact calm_storeCells _ _ _
    | with_reducible exact calm_loadVar _ _
    | with_reducible exact calm_storeVar _ _ _
    | with_reducible exact calm_newRow _ _
    | with_reducible exact calm_newVar _ _
    | with_reducible exact calm_elemOf _
    | with_reducible exact calm_runtimePanic _
    | with_reducible exact calm_boundsPanic _ _ _ _
    | with_reducible exact calm_asIntOf _
    | with_reducible exact calm_asInt _
    | with_reducible exact calm_asBool _
    | with_reducible exact calm_asAddr _
    | with_reducible exact calm_sureAddr _
    | with_reducible exact calm_loadAt _ _
    | with_reducible exact calm_storeAt _ _ _
    | with_reducible exact calm_lenOf _
    | with_reducible exact calm_firstCells _ _ _
    | with_reducible exact calm_holdsCells _ _
    | with_reducible exact calm_mayShare _ _ _ _ _
    | with_reducible exact calm_len _ _ _
    | with_reducible exact calm_indexAt _ _ _
    | with_reducible exact calm_buildSlice _ _ _
    | with_reducible exact calm_makeSlice _ _ _
    | with_reducible exact calm_append _ _ _
    | with_reducible exact calm_typeStr _
    | with_reducible exact calm_part _ _ _
    | with_reducible exact calm_viewAt _
    | with_reducible exact calm_numberAt _
    | with_reducible exact calm_asNumber _ _
    | with_reducible exact calm_behindNumber _
    | with_reducible exact calm_noView _
    | with_reducible exact calm_stringish _
    | with_reducible exact calm_mayBeOne _ _
    | with_reducible exact calm_sameAddr _ _
    | with_reducible exact calm_samePointer _ _
    | with_reducible exact calm_byteOf _
    | with_reducible exact calm_twoPlaces _ _
    | with_reducible exact calm_addrSub _ _ _
    | with_reducible exact calm_addrCmp _ _ _
    | with_reducible exact calm_addrMod _ _ _
    | with_reducible exact calm_unsafeAdd _ _ _
    | with_reducible exact calm_movedNumber _ _ _
    | with_reducible exact calm_movedPointer _ _ _
    | with_reducible exact calm_intArith _ _ _ _
    | with_reducible exact calm_intDiv _ _ _ _
    | with_reducible exact calm_intBits _ _ _ _
    | with_reducible exact calm_intCmp _ _ _
    | with_reducible exact calm_shift _ _ _ _ _
    | with_reducible exact calm_floatArith _ _ _ _
    | with_reducible exact calm_floatCmp _ _ _ _
    | with_reducible exact calm_floatToFloat _ _ _
    | with_reducible exact calm_carith _ _ _ _
    | with_reducible exact calm_ccmp _ _ _ _
    | with_reducible exact calm_cconv _ _ _
    | with_reducible exact calm_cproduct _ _ _ _
    | with_reducible exact calm_ccorrected _ _ _ _ _
    | with_reducible exact calm_cquotient _ _ _ _
    | with_reducible exact calm_complexOp _ _ _ _ _ _
    | with_reducible exact calm_stringOp _ _ _
    | with_reducible exact calm_eqGuardIn _ _ _ _
    | with_reducible exact calm_equalIn _ _ _ _
    | with_reducible exact calm_equal _ _ _
    | ((with_reducible refine calm_unsupported _ ?_); intro _ h; cases h)
    | ((with_reducible refine calm_newObj _ ?_); intro _ _ h; cases h)
    | with_reducible exact calm_map _ _ (calm_choose _)
    | with_reducible refine calm_map _ _ ?_
    | with_reducible refine calm_forIn_arr _ _ (fun _ _ => ?_) _
    | with_reducible refine calm_forIn_range _ _ (fun _ _ => ?_) _
    | with_reducible refine calm_getObj_bind _ _ (fun _ => ?_)
    | with_reducible refine calm_mbind _ _ ?_ (fun _ => ?_)
    | with_reducible refine calm_ite _ _ _ (fun _ => ?_) (fun _ => ?_)
    | split
    | dsimp only)
theorem calm_binOp (o : BinOp) (t : TypeId) (x y : Value) : Calm P (Go.binOp o t x y) := by
  unfold Go.binOp
  repeat' (first
    | with_reducible exact calm_pure _
    | with_reducible exact calm_stuck _
    | with_reducible exact calm_goPanic _
    | with_reducible exact calm_load _ _
    | with_reducible exact calm_store _ _ _
    | with_reducible exact calm_shape _
    | with_reducible exact calm_frozen _
    | with_reducible exact calm_choose _
    | with_reducible exact calm_program
    | with_reducible exact calm_room
    | with_reducible exact calm_askRoom _
    | with_reducible exact calm_typeInfo _
    | with_reducible exact calm_underlying _
    | with_reducible exact calm_zeroValue _
    | with_reducible exact calm_sizeOf _
    | with_reducible exact calm_isAgg _
    | with_reducible exact calm_loadCellsFrom _ _ _
    | with_reducible exact calm_loadCells _ _
    | with_reducible exact calm_storeCells _ _ _
    | with_reducible exact calm_loadVar _ _
    | with_reducible exact calm_storeVar _ _ _
    | with_reducible exact calm_newRow _ _
    | with_reducible exact calm_newVar _ _
    | with_reducible exact calm_elemOf _
    | with_reducible exact calm_runtimePanic _
    | with_reducible exact calm_boundsPanic _ _ _ _
    | with_reducible exact calm_asIntOf _
    | with_reducible exact calm_asInt _
    | with_reducible exact calm_asBool _
    | with_reducible exact calm_asAddr _
    | with_reducible exact calm_sureAddr _
    | with_reducible exact calm_loadAt _ _
    | with_reducible exact calm_storeAt _ _ _
    | with_reducible exact calm_lenOf _
    | with_reducible exact calm_firstCells _ _ _
    | with_reducible exact calm_holdsCells _ _
    | with_reducible exact calm_mayShare _ _ _ _ _
    | with_reducible exact calm_len _ _ _
    | with_reducible exact calm_indexAt _ _ _
    | with_reducible exact calm_buildSlice _ _ _
    | with_reducible exact calm_makeSlice _ _ _
    | with_reducible exact calm_append _ _ _
    | with_reducible exact calm_typeStr _
    | with_reducible exact calm_part _ _ _
    | with_reducible exact calm_viewAt _
    | with_reducible exact calm_numberAt _
    | with_reducible exact calm_asNumber _ _
    | with_reducible exact calm_behindNumber _
    | with_reducible exact calm_noView _
    | with_reducible exact calm_stringish _
    | with_reducible exact calm_mayBeOne _ _
    | with_reducible exact calm_sameAddr _ _
    | with_reducible exact calm_samePointer _ _
    | with_reducible exact calm_byteOf _
    | with_reducible exact calm_twoPlaces _ _
    | with_reducible exact calm_addrSub _ _ _
    | with_reducible exact calm_addrCmp _ _ _
    | with_reducible exact calm_addrMod _ _ _
    | with_reducible exact calm_unsafeAdd _ _ _
    | with_reducible exact calm_movedNumber _ _ _
    | with_reducible exact calm_movedPointer _ _ _
    | with_reducible exact calm_intArith _ _ _ _
    | with_reducible exact calm_intDiv _ _ _ _
    | with_reducible exact calm_intBits _ _ _ _
    | with_reducible exact calm_intCmp _ _ _
    | with_reducible exact calm_shift _ _ _ _ _
    | with_reducible exact calm_floatArith _ _ _ _
    | with_reducible exact calm_floatCmp _ _ _ _
    | with_reducible exact calm_floatToFloat _ _ _
    | with_reducible exact calm_carith _ _ _ _
    | with_reducible exact calm_ccmp _ _ _ _
    | with_reducible exact calm_cconv _ _ _
    | with_reducible exact calm_cproduct _ _ _ _
    | with_reducible exact calm_ccorrected _ _ _ _ _
    | with_reducible exact calm_cquotient _ _ _ _
    | with_reducible exact calm_complexOp _ _ _ _ _ _
    | with_reducible exact calm_stringOp _ _ _
    | with_reducible exact calm_eqGuardIn _ _ _ _
    | with_reducible exact calm_equalIn _ _ _ _
    | with_reducible exact calm_equal _ _ _
    | with_reducible exact calm_eqGuard _ _ _ _ _ _
    | ((with_reducible refine calm_unsupported _ ?_); intro _ h; cases h)
    | ((with_reducible refine calm_newObj _ ?_); intro _ _ h; cases h)
    | with_reducible exact calm_map _ _ (calm_choose _)
    | with_reducible refine calm_map _ _ ?_
    | with_reducible refine calm_forIn_arr _ _ (fun _ _ => ?_) _
    | with_reducible refine calm_forIn_range _ _ (fun _ _ => ?_) _
    | with_reducible refine calm_getObj_bind _ _ (fun _ => ?_)
    | with_reducible refine calm_mbind _ _ ?_ (fun _ => ?_)
    | with_reducible refine calm_ite _ _ _ (fun _ => ?_) (fun _ => ?_)
    | split
    | dsimp only)
theorem calm_makeChan (t : TypeId) (x : Value) : Calm P (Instr.makeChan t x) := by
  unfold Instr.makeChan
  repeat' (first
    | with_reducible exact calm_pure _
    | with_reducible exact calm_stuck _
    | with_reducible exact calm_goPanic _
    | with_reducible exact calm_load _ _
    | with_reducible exact calm_store _ _ _
    | with_reducible exact calm_shape _
    | with_reducible exact calm_frozen _
    | with_reducible exact calm_choose _
    | with_reducible exact calm_program
    | with_reducible exact calm_room
    | with_reducible exact calm_askRoom _
    | with_reducible exact calm_typeInfo _
    | with_reducible exact calm_underlying _
    | with_reducible exact calm_zeroValue _
    | with_reducible exact calm_sizeOf _
    | with_reducible exact calm_isAgg _
    | with_reducible exact calm_loadCellsFrom _ _ _
    | with_reducible exact calm_loadCells _ _
    | with_reducible exact calm_storeCells _ _ _
    | with_reducible exact calm_loadVar _ _
    | with_reducible exact calm_storeVar _ _ _
    | with_reducible exact calm_newRow _ _
    | with_reducible exact calm_newVar _ _
    | with_reducible exact calm_elemOf _
    | with_reducible exact calm_runtimePanic _
    | with_reducible exact calm_boundsPanic _ _ _ _
    | with_reducible exact calm_asIntOf _
    | with_reducible exact calm_asInt _
    | with_reducible exact calm_asBool _
    | with_reducible exact calm_asAddr _
    | with_reducible exact calm_sureAddr _
    | with_reducible exact calm_loadAt _ _
    | with_reducible exact calm_storeAt _ _ _
    | with_reducible exact calm_lenOf _
    | with_reducible exact calm_firstCells _ _ _
    | with_reducible exact calm_holdsCells _ _
    | with_reducible exact calm_mayShare _ _ _ _ _
    | with_reducible exact calm_len _ _ _
    | with_reducible exact calm_indexAt _ _ _
    | with_reducible exact calm_buildSlice _ _ _
    | with_reducible exact calm_makeSlice _ _ _
    | with_reducible exact calm_append _ _ _
    | with_reducible exact calm_typeStr _
    | with_reducible exact calm_part _ _ _
    | with_reducible exact calm_viewAt _
    | with_reducible exact calm_numberAt _
    | with_reducible exact calm_asNumber _ _
    | with_reducible exact calm_behindNumber _
    | with_reducible exact calm_noView _
    | with_reducible exact calm_stringish _
    | with_reducible exact calm_mayBeOne _ _
    | with_reducible exact calm_sameAddr _ _
    | with_reducible exact calm_samePointer _ _
    | with_reducible exact calm_byteOf _
    | with_reducible exact calm_twoPlaces _ _
    | with_reducible exact calm_addrSub _ _ _
    | with_reducible exact calm_addrCmp _ _ _
    | with_reducible exact calm_addrMod _ _ _
    | with_reducible exact calm_unsafeAdd _ _ _
    | with_reducible exact calm_movedNumber _ _ _
    | with_reducible exact calm_movedPointer _ _ _
    | with_reducible exact calm_intArith _ _ _ _
    | with_reducible exact calm_intDiv _ _ _ _
    | with_reducible exact calm_intBits _ _ _ _
    | with_reducible exact calm_intCmp _ _ _
    | with_reducible exact calm_shift _ _ _ _ _
    | with_reducible exact calm_floatArith _ _ _ _
    | with_reducible exact calm_floatCmp _ _ _ _
    | with_reducible exact calm_floatToFloat _ _ _
    | with_reducible exact calm_carith _ _ _ _
    | with_reducible exact calm_ccmp _ _ _ _
    | with_reducible exact calm_cconv _ _ _
    | with_reducible exact calm_cproduct _ _ _ _
    | with_reducible exact calm_ccorrected _ _ _ _ _
    | with_reducible exact calm_cquotient _ _ _ _
    | with_reducible exact calm_complexOp _ _ _ _ _ _
    | with_reducible exact calm_stringOp _ _ _
    | with_reducible exact calm_eqGuardIn _ _ _ _
    | with_reducible exact calm_equalIn _ _ _ _
    | with_reducible exact calm_equal _ _ _
    | with_reducible exact calm_eqGuard _ _ _ _ _ _
    | with_reducible exact calm_binOp _ _ _ _
    | ((with_reducible refine calm_unsupported _ ?_); intro _ h; cases h)
    | ((with_reducible refine calm_newObj _ ?_); intro _ _ h; cases h)
    | with_reducible exact calm_map _ _ (calm_choose _)
    | with_reducible refine calm_map _ _ ?_
    | with_reducible refine calm_forIn_arr _ _ (fun _ _ => ?_) _
    | with_reducible refine calm_forIn_range _ _ (fun _ _ => ?_) _
    | with_reducible refine calm_getObj_bind _ _ (fun _ => ?_)
    | with_reducible refine calm_mbind _ _ ?_ (fun _ => ?_)
    | with_reducible refine calm_ite _ _ _ (fun _ => ?_) (fun _ => ?_)
    | split
    | dsimp only)
theorem calm_extract (x : Value) (i : Nat) : Calm P (Instr.extract x i) := by
  unfold Instr.extract
  repeat' (first
    | with_reducible exact calm_pure _
    | with_reducible exact calm_stuck _
    | with_reducible exact calm_goPanic _
    | with_reducible exact calm_load _ _
    | with_reducible exact calm_store _ _ _
    | with_reducible exact calm_shape _
    | with_reducible exact calm_frozen _
    | with_reducible exact calm_choose _
    | with_reducible exact calm_program
    | with_reducible exact calm_room
    | with_reducible exact calm_askRoom _
    | with_reducible exact calm_typeInfo _
    | with_reducible exact calm_underlying _
    | with_reducible exact calm_zeroValue _
    | with_reducible exact calm_sizeOf _
    | with_reducible exact calm_isAgg _
    | with_reducible exact calm_loadCellsFrom _ _ _
    | with_reducible exact calm_loadCells _ _
    | with_reducible exact calm_storeCells _ _ _
    | with_reducible exact calm_loadVar _ _
    | with_reducible exact calm_storeVar _ _ _
    | with_reducible exact calm_newRow _ _
    | with_reducible exact calm_newVar _ _
    | with_reducible exact calm_elemOf _
    | with_reducible exact calm_runtimePanic _
    | with_reducible exact calm_boundsPanic _ _ _ _
    | with_reducible exact calm_asIntOf _
    | with_reducible exact calm_asInt _
    | with_reducible exact calm_asBool _
    | with_reducible exact calm_asAddr _
    | with_reducible exact calm_sureAddr _
    | with_reducible exact calm_loadAt _ _
    | with_reducible exact calm_storeAt _ _ _
    | with_reducible exact calm_lenOf _
    | with_reducible exact calm_firstCells _ _ _
    | with_reducible exact calm_holdsCells _ _
    | with_reducible exact calm_mayShare _ _ _ _ _
    | with_reducible exact calm_len _ _ _
    | with_reducible exact calm_indexAt _ _ _
    | with_reducible exact calm_buildSlice _ _ _
    | with_reducible exact calm_makeSlice _ _ _
    | with_reducible exact calm_append _ _ _
    | with_reducible exact calm_typeStr _
    | with_reducible exact calm_part _ _ _
    | with_reducible exact calm_viewAt _
    | with_reducible exact calm_numberAt _
    | with_reducible exact calm_asNumber _ _
    | with_reducible exact calm_behindNumber _
    | with_reducible exact calm_noView _
    | with_reducible exact calm_stringish _
    | with_reducible exact calm_mayBeOne _ _
    | with_reducible exact calm_sameAddr _ _
    | with_reducible exact calm_samePointer _ _
    | with_reducible exact calm_byteOf _
    | with_reducible exact calm_twoPlaces _ _
    | with_reducible exact calm_addrSub _ _ _
    | with_reducible exact calm_addrCmp _ _ _
    | with_reducible exact calm_addrMod _ _ _
    | with_reducible exact calm_unsafeAdd _ _ _
    | with_reducible exact calm_movedNumber _ _ _
    | with_reducible exact calm_movedPointer _ _ _
    | with_reducible exact calm_intArith _ _ _ _
    | with_reducible exact calm_intDiv _ _ _ _
    | with_reducible exact calm_intBits _ _ _ _
    | with_reducible exact calm_intCmp _ _ _
    | with_reducible exact calm_shift _ _ _ _ _
    | with_reducible exact calm_floatArith _ _ _ _
    | with_reducible exact calm_floatCmp _ _ _ _
    | with_reducible exact calm_floatToFloat _ _ _
    | with_reducible exact calm_carith _ _ _ _
    | with_reducible exact calm_ccmp _ _ _ _
    | with_reducible exact calm_cconv _ _ _
    | with_reducible exact calm_cproduct _ _ _ _
    | with_reducible exact calm_ccorrected _ _ _ _ _
    | with_reducible exact calm_cquotient _ _ _ _
    | with_reducible exact calm_complexOp _ _ _ _ _ _
    | with_reducible exact calm_stringOp _ _ _
    | with_reducible exact calm_eqGuardIn _ _ _ _
    | with_reducible exact calm_equalIn _ _ _ _
    | with_reducible exact calm_equal _ _ _
    | with_reducible exact calm_eqGuard _ _ _ _ _ _
    | with_reducible exact calm_binOp _ _ _ _
    | with_reducible exact calm_makeChan _ _
    | ((with_reducible refine calm_unsupported _ ?_); intro _ h; cases h)
    | ((with_reducible refine calm_newObj _ ?_); intro _ _ h; cases h)
    | with_reducible exact calm_map _ _ (calm_choose _)
    | with_reducible refine calm_map _ _ ?_
    | with_reducible refine calm_forIn_arr _ _ (fun _ _ => ?_) _
    | with_reducible refine calm_forIn_range _ _ (fun _ _ => ?_) _
    | with_reducible refine calm_getObj_bind _ _ (fun _ => ?_)
    | with_reducible refine calm_mbind _ _ ?_ (fun _ => ?_)
    | with_reducible refine calm_ite _ _ _ (fun _ => ?_) (fun _ => ?_)
    | split
    | dsimp only)
end Go.Proofs.Ytchfnbcpjiiphaa
